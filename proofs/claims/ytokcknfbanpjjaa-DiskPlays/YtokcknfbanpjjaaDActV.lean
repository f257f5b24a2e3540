/- Calls of a disk as a list: where they lie. -/
import Derived.Test.YtokcknfbanpjjaaDAmong
namespace Go.Proofs.Ytokcknfbanpjjaa.Dk
open Go.RowKit Go.Maps Go.Joins

structure ActV where
  kind : Int
  name : ByteArray
  to : ByteArray
  n : Int
  dr : Option Addr
  dc : Nat
  ds : List Int
/-- the calls of a slice lie behind its address -/
def LiesA (w : World) (a : Option Addr) (ac : List ActV) : Prop := ac = [] ∨ ∃ b off, a = some ⟨b, off, none⟩ ∧ b < w.heap.size ∧ ∀ i (h : i < ac.length),
  w.cell? ⟨b, off + i * 5, none⟩ = some (.int .i64 ac[i].kind) ∧ w.cell? ⟨b, off + i * 5 + 1, none⟩ = some (.string ac[i].name) ∧ w.cell? ⟨b, off + i * 5 + 2, none⟩ = some (.string ac[i].to) ∧ w.cell? ⟨b, off + i * 5 + 3, none⟩ = some (.int .i64 ac[i].n) ∧
  w.cell? ⟨b, off + i * 5 + 4, none⟩ = some (.slice ac[i].dr ac[i].ds.length ac[i].dc)
theorem LiesA.at {w wr : World} {a : Option Addr} {ac : List ActV} (h : LiesA w a ac) (k : Nat) (hk : k < ac.length) (hb : Below w.heap.size w wr) : ∃ b off, a = some ⟨b, off, none⟩ ∧
    wr.cell? ⟨b, off + k * 5, none⟩ = some (.int .i64 ac[k].kind) ∧ wr.cell? ⟨b, off + k * 5 + 1, none⟩ = some (.string ac[k].name) ∧ wr.cell? ⟨b, off + k * 5 + 2, none⟩ = some (.string ac[k].to) ∧ wr.cell? ⟨b, off + k * 5 + 3, none⟩ = some (.int .i64 ac[k].n) ∧
    wr.cell? ⟨b, off + k * 5 + 4, none⟩ = some (.slice ac[k].dr ac[k].ds.length ac[k].dc) := by
  rcases h with rfl | ⟨b, off, rfl, hlt, hl⟩
  · simp at hk
  · obtain ⟨c0, c1, c2, c3, c4⟩ := hl k hk
    exact ⟨b, off, rfl, (hb.cell (p := ⟨b, _, none⟩) hlt).trans c0, (hb.cell (p := ⟨b, _, none⟩) hlt).trans c1, (hb.cell (p := ⟨b, _, none⟩) hlt).trans c2, (hb.cell (p := ⟨b, _, none⟩) hlt).trans c3, (hb.cell (p := ⟨b, _, none⟩) hlt).trans c4⟩
/-- a call's numbers and texts are such ac can be read -/
structure ActV.Fits (x : ActV) : Prop where
  k0 : -9223372036854775808 ≤ x.kind
  k1 : x.kind ≤ 9223372036854775807
  nm : x.name.size ≤ 140737488351232
  tt : x.to.size ≤ 140737488351232
  n0 : -9223372036854775808 ≤ x.n
  n1 : x.n ≤ 9223372036854775807
structure ActsAt (W : World) (a : Option Addr) (ac : List ActV) : Prop where
  lies : LiesA W a ac
  each : ∀ x ∈ ac, x.Fits ∧ IntsAt W x.dr x.dc x.ds
  many : ac.length ≤ 9223372036854775807

theorem str_info : (Try.prog.info? 9).map (fun i => (i.zero, i.size, i.bytes)) = some (some (.string ⟨#[]⟩), 1, 16) := by kernel_rfl
theorem two_new (w : World) (x y : Value) (t : TypeId) : ∀ j u, [x, y][j]? = some u → (w.alloc (.cells #[x, y] t)).cell? ((⟨w.heap.size, 0, none⟩ : Addr).add j) = some u := by
  intro j u hj
  rw [Go.WideShapes.add_plain]
  match j, hj with
  | 0, hj => simpa using hj
  | 1, hj => simpa using hj
theorem read_there {S : St} (h : S.Ok) {i : Nat} (hi : i < S.files.length) : S.read S.files[i].1 = (S.files[i].2.data, 0) := by
  have hm := List.getElem_mem hi
  have hn := (h.each _ hm).1
  have hg : getL S.files[i].1 S.files = some S.files[i].2 := getL_of_mem h.rising hm
  rw [St.read, if_neg (by rw [hn]; simp), hg]

end Go.Proofs.Ytokcknfbanpjjaa.Dk
