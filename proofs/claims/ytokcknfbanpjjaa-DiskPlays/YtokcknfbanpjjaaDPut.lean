/- The walk over disk.go: put. -/
import Derived.Test.YtokcknfbanpjjaaDFind
namespace Go.Proofs.Ytokcknfbanpjjaa.Dk
open Go.RowKit Go.Maps Go.Joins

theorem store_file {w : World} {bm : Nat} {l : List (Bs × Ent)} (hown : w.ownsMap Try.prog 9 RV bm l.length (DD l)) (hn : l.length ≤ 64) (s : ByteArray) (hs : s.size ≤ 32) (v : Value) (f : Fil) :
    ∃ w', (Instr.mapUpdate MapT (.map (some bm)) (.string s) (.agg #[v, .int .i64 f.safe])).run Try.prog w = .ok () w' ∧ w'.ownsMap Try.prog 9 RV bm (putL s.data.toList (v, f) l).length (DD (putL s.data.toList (v, f) l)) ∧ w.mapTurned w' bm := by
  obtain ⟨w', hrun, r1, r2⟩ := hown.store keyed Try.underlying37 (by unfold maxLen; omega) (key_str s (by omega)) (val := FV v f.safe) (d := .held (FV v f.safe)) (ps := []) rfl
  rw [DD_put] at r1
  exact ⟨w', hrun, ownsMap_tight r1, r2⟩

/-- what stays while a file is put -/
abbrev PS (bd bm h : Nat) (v : Value) (safe : Nat) (W : World) : Prop := W.cell? ⟨bd, 1, none⟩ = some (.map (some bm)) ∧ W.cell? ⟨h, 0, none⟩ = some v ∧ W.cell? ⟨h, 1, none⟩ = some (.int .i64 safe)
theorem PS.drew {bd bm h : Nat} {v : Value} {safe : Nat} {W : World} (hS : PS bd bm h v safe W) : PS bd bm h v safe W.drew := hS
theorem PS.same {bd bm h : Nat} {v : Value} {safe : Nat} {W W' : World} (hS : PS bd bm h v safe W) (h1 : W'.heap[bd]? = W.heap[bd]?) (h2 : W'.heap[h]? = W.heap[h]?) : PS bd bm h v safe W' :=
  ⟨(World.cell?_of_block (a := ⟨bd, 1, none⟩) h1).trans hS.1, (World.cell?_of_block (a := ⟨h, 0, none⟩) h2).trans hS.2.1, (World.cell?_of_block (a := ⟨h, 1, none⟩) h2).trans hS.2.2⟩
theorem PS.lt {bd bm h : Nat} {v : Value} {safe : Nat} {W : World} (hS : PS bd bm h v safe W) : bd < W.heap.size ∧ h < W.heap.size := ⟨World.block_lt_of_cell? W _ hS.1, World.block_lt_of_cell? W _ hS.2.1⟩
theorem PS.below {bd bm h : Nat} {v : Value} {safe : Nat} {W W' : World} (hb : Below W.heap.size W W') (hS : PS bd bm h v safe W) : PS bd bm h v safe W' := hS.same (hb.block _ hS.lt.1) (hb.block _ hS.lt.2)
theorem PS.turned {bd bm h : Nat} {v : Value} {safe : Nat} {W W' : World} (ht : W.mapTurned W' bm) (h1 : bd ≠ bm) (h2 : h ≠ bm) (hS : PS bd bm h v safe W) : PS bd bm h v safe W' :=
  hS.same (ht.grown.block _ hS.lt.1 (by simpa using h1)) (ht.grown.block _ hS.lt.2 (by simpa using h2))

set_option maxHeartbeats 800000 in
set_option maxRecDepth 100000 in
theorem put_any {own : Nat → Prop} {bd bm room : Nat} {l : List (Bs × Ent)} {fuse : Int} {down : Bool} (w : World) (h : Base w own bd bm room l fuse down) (s : ByteArray) (hs : s.size ≤ 32) (a : Option Addr) (cap : Nat) (f : Fil) (hr : RowsOk w own (delL s.data.toList l))
    (hx : RowOk w own (.slice a f.data.length cap, f)) (ha : ∀ p ∈ delL s.data.toList l, Apart (.slice a f.data.length cap, f) p.2) (hn : l.length ≤ 64) :
    Calls Try.prog 33 #[.pointer (some ⟨bd, 0, none⟩), .string s, FV (.slice a f.data.length cap) f.safe] w fun e w' => e = .returned (.tuple #[]) ∧ HeldL w' own bd bm room (putL s.data.toList (.slice a f.data.length cap, f) l) fuse down ∧ w.grownBy w' (some bm) := by
  have hC := fun W => clone_any s W (by omega)
  go_enter Try.func33, Try.ntmps33
  go_wp2
  obtain ⟨W, hW⟩ : ∃ W, W = w.alloc (.cells #[.slice a f.data.length cap, .int .i64 f.safe] 61) := ⟨_, rfl⟩
  have hbW : Below w.heap.size w W := by rw [hW]; exact below_alloc1 _ _
  have hA : W.heap[w.heap.size]? = some (.cells #[.slice a f.data.length cap, .int .i64 f.safe] 61 (0, 0)) := by rw [hW]; exact heap_alloc_new w _
  have hzW : w.heap.size < W.heap.size := (Array.getElem?_eq_some_iff.1 hA).1
  rw [← hW]
  clear hW
  have hB := h.stay (hbW.block _ h.lt) (hbW.block _ h.map.lt)
  have hS : PS bd bm w.heap.size (.slice a f.data.length cap) f.safe W := ⟨hB.c1, cell_of_block hA 0, cell_of_block hA 1⟩
  have hne1 := h.ne
  have hne2 : w.heap.size ≠ bm := by have := h.map.lt; omega
  go_region_held3 (PS bd bm w.heap.size (.slice a f.data.length cap) f.safe) (first | exact PS.drew (by assumption) | exact PS.below (by assumption) (by assumption) | exact PS.turned (by assumption) hne1 hne2 (by assumption))
    (first | (go_at_call 47; refine (hC _).mono ?_; rintro e w1 ⟨rfl, hb1⟩; obtain ⟨w2, hrun2, hown2, hturn2⟩ := store_file (ownsMap_stay hB.map (hb1.block _ hB.map.lt)) hn s hs (.slice a f.data.length cap) f))
  have hb : Below w.heap.size w w1 := hbW.drew.trans (hb1.mono (Nat.le_of_lt hzW))
  have hst : ∀ k, k < w.heap.size → k ≠ bm → w2.heap[k]? = w.heap[k]? := fun k hk hne => (hturn2.grown.block k (Nat.lt_of_lt_of_le hk hb.size) (by simpa using hne)).trans (hb.block k hk)
  refine bodyPost_end (v := .tuple #[]) (by simp [results, Try.results33]) rfl ⟨rfl, ⟨⟨(hst _ h.lt h.ne).trans h.block, hown2, h.ownD, h.ownM⟩, ?_⟩, ?_⟩
  · refine RowsOk.put ⟨fun p hp => (hr.1 p hp).stay fun g hg => hst g ((hr.1 p hp).lt hg) (h.rowNe (hr.1 p hp) hg).2, hr.2⟩ (hx.stay fun g hg => hst g (hx.lt hg) (h.rowNe hx hg).2) ha
  · exact ⟨hturn2.grown.os.trans hb.os, hturn2.grown.tape.trans hb.tape, hturn2.grown.output.trans hb.output, Nat.le_trans hb.size hturn2.grown.size, fun k hk hno => hst k hk fun e => hno (by rw [e])⟩

end Go.Proofs.Ytokcknfbanpjjaa.Dk
