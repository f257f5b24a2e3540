/- Layer 8: what a request reads as, when it is a law's argument. -/
import Derived.Test.YtkjcfkninmmbhaaOpArgO
namespace Go.Proofs.Ytkjcfkninmmbhaa.Oq
open Go.ChangeShapes Go.WideShapes Go.ChangeAt Go.RowKit Go.Deep Go.Joins Gk

/-- a request, and where its list lies -/
structure ReqA where
  client : Int
  seq : Int
  a : Option Addr
  cap : Nat
  ops : List Opn
structure ReqAt (W : World) (x : ReqA) : Prop extends OpsAt W x.a x.cap x.ops where
  bytes : x.ops.length * 64 ≤ 140737488351232
  client : -9223372036854775808 ≤ x.client ∧ x.client ≤ 9223372036854775807
  seq : -9223372036854775808 ≤ x.seq ∧ x.seq ≤ 9223372036854775807
abbrev ReqA.cs (x : ReqA) : List Value := [.int .i64 x.client, .int .i64 x.seq, .slice x.a x.ops.length x.cap]
theorem cells_req : Try.prog.cellsOf 24 = 3 := by kernel_rfl
theorem bytes_op : Try.prog.bytesOf 29 = 64 := by kernel_rfl

set_option maxRecDepth 100000 in
theorem ops_bytes {H : Type} {enc : TypeId × Value → H} {W : World} {fuel : Nat} {a : Option Addr} {n cap : Nat} {x : DataW H × List MemPlace} (h : DataW.trod enc Try.prog W 0 (fun _ => true) true fuel 22 [.slice a n cap] = some x)
    (hsz : ∀ n ∈ x.1.weights Try.prog 22, n ≤ reachBytes) : n * 64 ≤ 140737488351232 := by
  rcases open_slice Try.underlying22 h with ⟨e, rfl⟩ | ⟨a', len, cap', m, n', D, Pl, e, _, hl, hm9, hmm, rfl, hx⟩
  · simp only [List.cons.injEq, Value.slice.injEq, and_true] at e
    rw [e.2.1]; omega
  · simp only [List.cons.injEq, Value.slice.injEq, and_true] at e
    simp only [DataW.weights, Try.underlying22] at hsz
    have := hsz _ (List.mem_cons_self ..)
    simp only [bytes_op, List.length_map, List.length_range, reachBytes] at this
    rw [e.2.1]
    omega

set_option maxRecDepth 100000 in
theorem open_req {H : Type} {enc : TypeId × Value → H} {W : World} {fuel : Nat} {cs : List Value} {x : DataW H × List MemPlace} (h : DataW.trod enc Try.prog W 0 (fun _ => true) true fuel 24 cs = some x) (hsz : ∀ n ∈ x.1.weights Try.prog 24, n ≤ reachBytes) :
    ∃ y : ReqA, cs = y.cs ∧ ReqAt W y := by
  obtain ⟨y0, y1, y2, n, rfl, hl, h0, h1, h2⟩ := trod_struct3 Try.underlying24 h
  rw [cells_req] at hl
  match cs, hl with
  | [p, q, v], _ =>
    simp [cells_int, cells_ops] at h0 h1 h2
    obtain ⟨k0, e0, _, hk0⟩ := DataW.trod_int Try.underlying3 h0
    obtain ⟨k1, e1, _, hk1⟩ := DataW.trod_int Try.underlying3 h1
    have hsz2 : ∀ n ∈ y2.1.weights Try.prog 22, n ≤ reachBytes := fun n hn => hsz n (by simp [DataW.weights, Try.underlying24, DataW.weightsEach, hn])
    obtain ⟨a, cap, ds, e2, hat⟩ := open_ops h2 hsz2
    simp only [List.cons.injEq, and_true] at e0 e1 e2
    subst e0 e1 e2
    exact ⟨⟨k0, k1, a, cap, ds⟩, rfl, ⟨hat, ops_bytes h2 hsz2, bounds_i64 hk0, bounds_i64 hk1⟩⟩
theorem req_eq {cs : Array Value} {x : ReqA} (h : (Value.agg cs).cells.toList = x.cs) : Value.agg cs = .agg #[.int .i64 x.client, .int .i64 x.seq, .slice x.a x.ops.length x.cap] := by
  have : cs.toList = x.cs := h
  rw [show cs = x.cs.toArray from Array.toList_inj.1 (by rw [this])]

end Go.Proofs.Ytkjcfkninmmbhaa.Oq
