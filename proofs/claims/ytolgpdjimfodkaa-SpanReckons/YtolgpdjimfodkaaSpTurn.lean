/- Walks over writer.go: turn, finished. -/
import Derived.Test.YtolgpdjimfodkaaSpWr
namespace Go.Proofs.Ytolgpdjimfodkaa.Sp
open Go.RowKit Go.Joins Gk

theorem WHeldV.set1 {w : World} {B bw : Nat} {v : Value} {X : Wr} (h : WHeldV w B bw v X) (b : Bool) : WHeldV (w.setCell ⟨bw, 1, none⟩ (.bool b)) B bw v { X with kp := b } :=
  ⟨block_setCell h.blk _, own_stay h.row fun g hg => Below.heap_setCell _ _ _ g (h.ne hg), h.low⟩
theorem WHeldV.set2 {w : World} {B bw : Nat} {v : Value} {X : Wr} (h : WHeldV w B bw v X) (s : ByteArray) : WHeldV (w.setCell ⟨bw, 2, none⟩ (.string s)) B bw v { X with fr := s } :=
  ⟨block_setCell h.blk _, own_stay h.row fun g hg => Below.heap_setCell _ _ _ g (h.ne hg), h.low⟩

set_option maxHeartbeats 3200000 in
set_option maxRecDepth 100000 in
theorem turn_any {B bw : Nat} {v : Value} {X : Wr} (w : World) (h : WHeldV w B bw v X) (k : Bool) (p : ByteArray) (hf : X.fr.size ≤ 64) (hp : p.size ≤ 64) (hl : X.out.length ≤ 1000000) (hB : B ≤ w.heap.size) :
    Calls Try.prog 44 #[.pointer (some ⟨bw, 0, none⟩), .bool k, .string p] w fun e w' => e = .returned (.tuple #[]) ∧ WHeld w' B bw (X.turn k p) ∧ Below B w w' ∧ Only (fun k => k = bw ∨ v.ownBlock = some k) w w' := by
  obtain ⟨out, kp, fr⟩ := X
  have c1 := h.c1
  have c2 := h.c2
  have z1 := h.fz 1
  have z2 := h.fz 2
  cases kp <;> cases k
  · go_enter Try.func44, Try.ntmps44
    go_wp2
    refine bodyPost_ret (v := .tuple #[]) (by simp [results, Try.results44, go_sem]) rfl ?_
    exact ⟨rfl, ⟨v, h⟩, Below.refl _ _, Only.refl _ _⟩
  · have h1 := (h.set2 p).set1 true
    have hb : Below B w ((w.setCell ⟨bw, 2, none⟩ (.string p)).setCell ⟨bw, 1, none⟩ (.bool true)) := ((Below.refl B w).setCell h.low _).setCell h.low _
    go_enter Try.func44, Try.ntmps44
    go_wp2
    refine bodyPost_end (v := .tuple #[]) (by simp [results, Try.results44]) rfl ?_
    exact ⟨rfl, ⟨v, h1⟩, hb, (Only.of_set w (Or.inl rfl) _).trans (Only.of_set _ (Or.inl rfl) _)⟩
  · have hP := put_any w h p hf hp hl hB
    go_enter Try.func44, Try.ntmps44
    go_wp2_with fail
    refine hP.mono ?_
    rintro e w1 ⟨rfl, ⟨v1, h1⟩, hb1, ho1⟩
    have c1' := h1.c1
    have z1' := h1.fz 1
    have h2 := h1.set1 false
    have hb2 : Below B w (w1.setCell ⟨bw, 1, none⟩ (.bool false)) := hb1.setCell h.low _
    go_wp2
    refine bodyPost_end (v := .tuple #[]) (by simp [results, Try.results44]) rfl ?_
    exact ⟨rfl, ⟨v1, h2⟩, hb2, ho1.trans (Only.of_set _ (Or.inl rfl) _)⟩
  · go_enter Try.func44, Try.ntmps44
    go_wp2
    refine bodyPost_ret (v := .tuple #[]) (by simp [results, Try.results44, go_sem]) rfl ?_
    exact ⟨rfl, ⟨v, h⟩, Below.refl _ _, Only.refl _ _⟩

set_option maxHeartbeats 3200000 in
set_option maxRecDepth 100000 in
theorem finished_any {B bw : Nat} {v : Value} {X : Wr} (w : World) (h : WHeldV w B bw v X) (hf : X.fr.size ≤ 64) (hl : X.out.length ≤ 1000000) (hB : B ≤ w.heap.size) :
    Calls Try.prog 45 #[.pointer (some ⟨bw, 0, none⟩)] w fun e w' => ∃ v', e = .returned v' ∧ w'.ownsRow B SpT 2 v' X.fin.length (rc senc X.fin) ∧ Below B w w' := by
  obtain ⟨out, kp, fr⟩ := X
  have c0 := h.c0
  have c1 := h.c1
  cases kp
  · go_enter Try.func45, Try.ntmps45
    go_wp2
    go_ret
    exact ⟨_, rfl, h.row, Below.refl _ _⟩
  · have hP := put_any w h ⟨#[]⟩ hf (by show nix.size ≤ 64; decide) hl hB
    go_enter Try.func45, Try.ntmps45
    go_wp2_with fail
    refine hP.mono ?_
    rintro e w1 ⟨rfl, ⟨v1, h1⟩, hb1, ho1⟩
    have c0' := h1.c0
    go_wp2
    go_ret
    exact ⟨_, rfl, h1.row, hb1⟩

end Go.Proofs.Ytolgpdjimfodkaa.Sp
