/- Layer 8: OpStamps: a request of operations that may be is one itself, whatever their order. -/
import Derived.Test.YtkjcfkninmmbhaaOpEnc
import Derived.Test.YtkjcfkninmmbhaaOpArgs
import Derived.Test.YtkjcfkninmmbhaaGRow
namespace Go.Proofs.Ytkjcfkninmmbhaa.Oq
open Go.RowKit Go.Joins Go.Proofs.Ytkjcfkninmmbhaa.Gk

theorem op_info : (Try.prog.info? 29).map (fun i => (i.zero, i.size, i.bytes)) = some (some (.agg #[.int .i64 0, .string ⟨#[]⟩, .string ⟨#[]⟩, .int .i64 0, .int .i64 0, .int .i64 0]), 6, 64) := by kernel_rfl

theorem st_client (n : Int) : within (wrap64 ((IntKind.u64.wrap n).tmod 1001)) 0 1000 = true := by
  rw [within_iff, IntKind.wrap_u64, wrap64]
  have h : 0 ≤ n % 18446744073709551616 := by omega
  rw [Int.tmod_eq_emod_of_nonneg h]
  omega
theorem st_seq (n : Int) : within (wrap64 (1 + wrap64 ((IntKind.u64.wrap n).tmod 1048576))) 1 1048576 = true := by
  rw [within_iff, IntKind.wrap_u64, wrap64, wrap64]
  have h : 0 ≤ n % 18446744073709551616 := by omega
  rw [Int.tmod_eq_emod_of_nonneg h]
  omega
theorem st_may {c s : Int} {L : List Opn} (hc : within c 0 1000 = true) (hs : within s 1 1048576 = true) (hl : L.length ≤ 32) (ha : L.all Opn.may = true) : Req.may ⟨c, s, L⟩ = decide (0 < L.length) := by
  unfold Req.may asked
  rw [hc, hs, ha]
  simp only [Bool.and_true, Bool.true_and, within]
  rw [← Bool.decide_and]
  exact decide_eq_decide.2 (by omega)
theorem own_liesO {w : World} {B n : Nat} {v : Value} {l : List Opn} (h : w.ownsRow B 29 6 v n (rc oenc l)) (hn : n = l.length) : ∃ a cap, v = .slice a n cap ∧ Gk.Lies w oenc a l := by
  subst hn
  have h0 : Row w oenc 29 6 v l := Gk.own_mono h (Nat.zero_le _)
  obtain ⟨a, cap, rfl⟩ := Gk.own_slice h
  exact ⟨a, cap, rfl, h0.lies⟩
theorem all_snoc {L : List Opn} {x : Opn} (h : L.all Opn.may = true) (hx : x.may = true) : (L ++ [x]).all Opn.may = true := by
  rw [List.all_append, h]; simp [hx]


end Go.Proofs.Ytkjcfkninmmbhaa.Oq
