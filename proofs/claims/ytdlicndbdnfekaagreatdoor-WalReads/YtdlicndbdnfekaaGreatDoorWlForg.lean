/- Walks over wal.go: Forget. -/
import Derived.Test.YtdlicndbdnfekaaGreatDoorWlSmall
namespace Go.Proofs.YtdlicndbdnfekaaGreatDoor.Wl
open Go.RowKit Go.Joins
open Go.Proofs.YtdlicndbdnfekaaGreatDoor.Dk (Bs Fil Fls St St.Ok Held Only)

/-- the segments that are left -/
def forg (seq : Nat) : List Sg → List Sg
  | s :: t :: l => if t.first ≤ seq then forg seq (t :: l) else s :: t :: l
  | l => l
theorem forg_one (seq : Nat) (s : Sg) : forg seq [s] = [s] := rfl
theorem forg_more (seq : Nat) (s t : Sg) (l : List Sg) : forg seq (s :: t :: l) = if t.first ≤ seq then forg seq (t :: l) else s :: t :: l := rfl
theorem forg_suffix (seq : Nat) : ∀ l : List Sg, ∃ k, k ≤ l.length ∧ forg seq l = l.drop k ∧ (l ≠ [] → k < l.length)
  | [] => ⟨0, by simp, rfl, by simp⟩
  | [s] => ⟨0, by simp, rfl, by simp⟩
  | s :: t :: l => by
    rw [forg_more]
    split
    · obtain ⟨k, h1, h2, h3⟩ := forg_suffix seq (t :: l)
      have := h3 (by simp)
      exact ⟨k + 1, by simp only [List.length_cons] at *; omega, by rw [h2]; rfl, fun _ => by simp only [List.length_cons] at *; omega⟩
    · exact ⟨0, by simp, rfl, by simp⟩
/-- the number from which on a log has its records -/
def lfst (l : List Sg) (m : Nat) : Nat := fst (ms l) m
theorem Lg.fst {l : List Sg} {n m : Nat} (h : Lg l n m) : lfst l m = n := by
  cases l with
  | nil => have : n = m := h.chain; rw [this]; rfl
  | cons s l => exact h.chain.1
theorem Lg.forg : ∀ {l : List Sg} {n m : Nat} (seq : Nat), Lg l n m → Lg (forg seq l) (lfst (forg seq l) m) m
  | [], n, m, seq, h => by have : n = m := h.chain; subst this; exact h
  | [s], n, m, seq, h => by show Lg [s] (lfst [s] m) m; rw [h.fst]; exact h
  | s :: t :: l, n, m, seq, h => by
    rw [forg_more]
    split
    · exact Lg.forg seq h.tail
    · rw [h.fst]; exact h
theorem forg_bounds : ∀ {l : List Sg} {n m : Nat} (seq : Nat), Lg l n m → n ≤ seq → lfst (forg seq l) m ≤ seq ∨ lfst (forg seq l) m = n
  | [], n, m, seq, h, _ => Or.inr h.fst
  | [s], n, m, seq, h, _ => Or.inr h.fst
  | s :: t :: l, n, m, seq, h, hn => by
    rw [forg_more]
    split
    · rename_i ht
      rcases forg_bounds seq h.tail (by have := h.chain.2.1; omega) with h1 | h1
      · exact Or.inl h1
      · left; rw [h1]; have := h.chain.2.1; omega
    · exact Or.inr h.fst

/-- a log's disk, its row, a cell of it -/
abbrev VS (bw bd g off : Nat) (u x : Value) (W : World) : Prop := (W.cell? ⟨bw, 0, none⟩ = some (.pointer (some ⟨bd, 0, none⟩)) ∧ W.cell? ⟨bw, 2, none⟩ = some u ∧ W.cell? ⟨g, off, none⟩ = some x) ∧ Hid (bw < W.heap.size ∧ g < W.heap.size)
section
variable {bw bd g off : Nat} {u x : Value} {W W' : World}
theorem VS.drew (h : VS bw bd g off u x W) : VS bw bd g off u x W.drew := h
theorem VS.call (hb : Below W.heap.size W W') (h : VS bw bd g off u x W) : VS bw bd g off u x W' :=
  ⟨⟨(hb.cell (p := ⟨bw, 0, none⟩) h.2.out.1).trans h.1.1, (hb.cell (p := ⟨bw, 2, none⟩) h.2.out.1).trans h.1.2.1, (hb.cell (p := ⟨g, off, none⟩) h.2.out.2).trans h.1.2.2⟩, Nat.lt_of_lt_of_le h.2.out.1 hb.size, Nat.lt_of_lt_of_le h.2.out.2 hb.size⟩
theorem VS.only {own : Nat → Prop} (ho : Only (plus own W.heap.size) W W') (n1 : ¬ own bw) (n2 : ¬ own g) (h : VS bw bd g off u x W) : VS bw bd g off u x W' := by
  have l1 := h.2.out.1
  have l2 := h.2.out.2
  have b1 := ho.block bw l1 (fun e => e.elim n1 (by omega))
  have b2 := ho.block g l2 (fun e => e.elim n2 (by omega))
  exact ⟨⟨(World.cell?_of_block (a := ⟨bw, 0, none⟩) b1).trans h.1.1, (World.cell?_of_block (a := ⟨bw, 2, none⟩) b1).trans h.1.2.1, (World.cell?_of_block (a := ⟨g, off, none⟩) b2).trans h.1.2.2⟩, Nat.lt_of_lt_of_le l1 ho.size, Nat.lt_of_lt_of_le l2 ho.size⟩
end
/-- the first segment is removed from the disk -/
theorem Both.removed {w : World} {own : Nat → Prop} {bd bw most : Nat} {S : St} {v : Value} {ss : List Sm} {s t : Sg} {r : List Sg} {n m nx : Nat} (h : Both w own bd bw most S v ss nx) (hu : Up S) (ho : On S (s :: t :: r)) (hl : Lg (s :: t :: r) n m) (hm : m ≤ 1048577) :
    Calls Tryz.prog 33 #[.pointer (some ⟨bd, 0, none⟩), .string (nt s.first)] w fun e w' => e = .returned (.int .i64 0) ∧ Only (plus own w.heap.size) w w' ∧ ∃ own2 S2, Both w' own2 bd bw most S2 v ss nx ∧ Up S2 ∧ On S2 (t :: r) ∧ (∀ b, own2 b → own b ∨ w.heap.size ≤ b) := by
  have hf : s.first ≤ 1048577 := by have := (hl.rise.2 s (by simp)).2; omega
  have hd := dec_small hf
  obtain ⟨e1, hon⟩ := On.drop (a := []) (b := t :: r) (s := s) h.disk.held.ok.rising hu ho hl hf
  refine (Dk.remove_any w h.disk.open (nt s.first) (by rw [nt_size]; omega)).mono ?_
  rintro e w' ⟨rfl, hH, hO⟩
  rw [nt_list, e1] at hH ⊢
  exact ⟨rfl, hO, _, _, h.disked hH hO, hu.with _, hon, fun b hb => hb.1⟩

set_option maxRecDepth 100000 in
set_option maxHeartbeats 6400000 in
theorem Forget_any {own : Nat → Prop} {bw bd most : Nat} {S : St} {v : Value} {l : List Sg} {n m seq : Nat} (w : World) (h : Both w own bd bw most S v (ms l) m) (hu : Up S) (ho : On S l) (hl : Lg l n m) (hm : m ≤ 1048577) (h1 : n ≤ seq) (h2 : seq ≤ m) :
    Calls Tryz.prog 17 #[.pointer (some ⟨bw, 0, none⟩), .int .i64 seq] w fun e w' => e = .returned (.tuple #[.int .i64 ((l.length - (forg seq l).length : Nat) : Int), .int .i64 0]) ∧ ∃ own' S' v', Both w' own' bd bw most S' v' (ms (forg seq l)) m ∧ Up S' ∧ On S' (forg seq l) ∧ (∀ b, own' b → own b ∨ w.heap.size ≤ b) ∧ (∀ g, v'.ownBlock = some g → v.ownBlock = some g) ∧ Only (may own bw w.heap.size) w w' := by
  have hlen := ho.len hl h.disk.held.ok
  have hFi : ∀ W, Below w.heap.size w W → Calls Tryz.prog 15 #[.pointer (some ⟨bw, 0, none⟩)] W fun e w' => e = .returned (.int .i64 n) ∧ w' = W := fun W hb => by
    refine (First_any W (h.log.below hb)).mono ?_
    rintro e w' ⟨rfl, rfl⟩
    exact ⟨by rw [show fst (ms l) m = n from hl.fst], rfl⟩
  have hWi : ∀ W, Calls Tryz.prog 20 #[.int .i64 seq, .int .i64 n, .int .i64 m] W fun e w' => e = .returned (.bool true) ∧ w' = W := fun W => by
    refine (within_any seq n m W).mono ?_
    rintro e w' ⟨rfl, rfl⟩
    have e1 : (n : Int) ≤ (seq : Int) := by omega
    have e2 : (seq : Int) ≤ (m : Int) := by omega
    simp [e1, e2]
  have c3 := h.log.c3
  have HB := hide h
  clear h
  go_enter Tryz.func17, Tryz.ntmps17
  go_wp2
  go_quiet (first | (go_at_call 15; exact Calls.quiet_of_same (hFi _ (below_draws _ _ _))) | (go_at_call 20; exact Calls.quiet_of_same (hWi _)))
  have HB1 := hide (HB.out.below (below_draws _ _ nq))
  have HO1 : Hid (Only (may own bw w.heap.size) w (w.drewN nq)) := Only.of_below (below_draws _ _ _)
  generalize w.drewN nq = w1 at *
  go_wp2
  go_loopw [6] (fun q wr => ∃ (k : Nat) (own1 : Nat → Prop) (S1 : St) (v1 : Value), q = .int .i64 k ∧ k ≤ l.length ∧ Both wr own1 bd bw most S1 v1 (ms (l.drop k)) m ∧ Up S1 ∧ On S1 (l.drop k) ∧ Hid (∃ n1, Lg (l.drop k) n1 m) ∧ Hid (forg seq (l.drop k) = forg seq l) ∧ (∀ b, own1 b → own b ∨ w.heap.size ≤ b) ∧ (∀ g, v1.ownBlock = some g → v.ownBlock = some g) ∧ Only (may own bw w.heap.size) w wr) (fun q _ => l.length - (intOf q).toNat)
  case atStart => exact ⟨0, own, S, v, rfl, by omega, HB1.out, hu, ho, ⟨n, hl⟩, rfl, fun b hb => Or.inl hb, fun g hg => hg, HO1.out⟩
  case round =>
    obtain ⟨k, own1, S1, v1, rfl, hk, hB, hu1, ho1, HL, HF, hsub, hvs, hO⟩ := hrel
    have hdl : (l.drop k).length = l.length - k := List.length_drop
    have fin : forg seq (l.drop k) = l.drop k → Hid ((l.length - (forg seq l).length = k) ∧ ∃ own' S' v', Both wr own' bd bw most S' v' (ms (forg seq l)) m ∧ Up S' ∧ On S' (forg seq l) ∧ (∀ b, own' b → own b ∨ w.heap.size ≤ b) ∧ (∀ g, v'.ownBlock = some g → v.ownBlock = some g) ∧ Only (may own bw w.heap.size) w wr) := fun he => by
      have e1 : forg seq l = l.drop k := by rw [← HF.out]; exact he
      rw [e1]
      exact ⟨by rw [hdl]; omega, own1, S1, v1, hB, hu1, ho1, hsub, hvs, hO⟩
    have c2 := hB.log.c2
    obtain ⟨a, c, hv⟩ := hB.log.row.slice
    rw [ms_length, hdl] at hv
    have HDK : Hid (l.drop (k + 1) = (l.drop k).tail) := by show _ = _; rw [List.tail_drop]
    by_cases hst : forg seq (l.drop k) = l.drop k ∧ (l.drop k).length ≤ 1
    · have hF := fin hst.1
      obtain ⟨N, hN⟩ : ∃ N, N = l.length - k := ⟨_, rfl⟩
      rw [hv, ← hN] at c2
      have hN1 : ¬ 1 < N := by have := hst.2; omega
      clear hN hv hB fin hdl hst hFi hWi
      go_wp2
      go_ret2
      refine ⟨?_, hF.out.2⟩
      rw [hF.out.1]; rfl
    · obtain ⟨s, t, r, hD⟩ : ∃ s t r, l.drop k = s :: t :: r := by
        cases hd : l.drop k with
        | nil => rw [hd] at hst; exact absurd ⟨rfl, by simp⟩ hst
        | cons s r =>
          cases r with
          | nil => rw [hd] at hst; exact absurd ⟨rfl, by simp⟩ hst
          | cons t r => exact ⟨s, t, r, rfl⟩
      obtain ⟨n1, hL1⟩ := HL.out
      rw [hD] at hB ho1 hL1 hdl HDK
      simp only [List.length_cons] at hdl
      obtain ⟨g, o, cp, hv', -⟩ := hB.log.row.form (by simp [ms])
      rw [hv, Value.slice.injEq] at hv'
      obtain ⟨rfl, -, rfl⟩ := hv'
      obtain ⟨N, hN⟩ : ∃ N, N = l.length - k := ⟨_, rfl⟩
      rw [← hN] at hv hdl
      subst hv
      obtain ⟨x0, -, -, -⟩ := hB.log.row.shape.at 0 (by simp [ms])
      obtain ⟨x1, -, -, -⟩ := hB.log.row.shape.at 1 (by simp [ms])
      simp only [ms, List.map_cons, List.getElem_cons_zero, List.getElem_cons_succ, Nat.zero_mul, Nat.add_zero, Nat.one_mul] at x0 x1
      have hN1 : 1 < N := by omega
      have hN0 : 0 < N := by omega
      have hNb : N ≤ 64 := by omega
      have HN : Hid (N = r.length + 2) := by show _ = _; omega
      by_cases hle : t.first ≤ seq
      · have hle' : (t.first : Int) ≤ (seq : Int) := by omega
        have hno := hB.no
        have hng := hB.noRow g rfl
        have hzb := hB.log.lt
        have hzg := hB.log.row.shape.lt
        have hVS : VS bw bd g (o * 2) (.slice (some ⟨g, o * 2, none⟩) N c) (.int .i64 s.first) wr := ⟨⟨hB.log.c0, c2, x0⟩, hzb, hzg⟩
        have hsf : s.first ≤ 1048577 := by have := (hL1.rise.2 s (by simp)).2; omega
        have hnm : ∀ W, Below wr.heap.size wr W → Calls Tryz.prog 28 #[.int .i64 s.first] W fun e w' => e = .returned (.string (nt s.first)) ∧ Below W.heap.size W w' := fun W hb => nameOf_any _ hsf W (hB.tab.below hb)
        have hrm : ∀ W, Below wr.heap.size wr W → _ := fun W hb => (hB.below hb).removed hu1 ho1 hL1 hm
        have HNE : Hid (N = l.length - k) := hN
        clear fin hst hFi hWi hB hN hdl
        go_wp2
        go_region_held3 (VS bw bd g (o * 2) (.slice (some ⟨g, o * 2, none⟩) N c) (.int .i64 s.first)) (first | with_reducible exact VS.drew (by assumption) | with_reducible exact VS.call (by assumption) (by assumption) | with_reducible exact VS.only (by assumption) hno hng (by assumption) | with_reducible assumption)
          (first | (go_at_call 28; refine (hnm _ (by first | exact Below.refl _ _ | exact (Below.refl _ _).drew)).mono ?_; rintro e w4 ⟨rfl, hb4⟩; have HB4 : Hid (Below wr.heap.size wr w4) := by first | exact hb4 | exact ((Below.refl _ _).drew).trans hb4) | (go_at_call 33; refine (hrm _ (by first | exact HB4.out | exact HB4.out.drew)).mono ?_; rintro e w5 ⟨rfl, hO5, own2, S2, hB5, hu5, hon5, hsub5⟩))
        have d2 := hB5.log.c2
        have y2 := hB5.log.fz 2
        have HO5 : Hid (Only (may own bw w.heap.size) w w5) := hO.trans ((Only.of_below HB4.out).trans (hO5.mono fun b _ hb => hb.elim (fun h => Or.inl (hsub b h)) fun h => Or.inl (Or.inr (Nat.le_trans hO.size (Nat.le_trans HB4.out.size h)))))
        have HS5 : Hid (∀ b, own2 b → own b ∨ w.heap.size ≤ b) := fun b hb => (hsub5 b hb).elim (hsub b) fun h => Or.inr (Nat.le_trans hO.size (Nat.le_trans HB4.out.size h))
        have hcN := hB5.log.row.shape.len
        simp only [ms_length, List.length_cons] at hcN
        have hNc : N ≤ c := by have := HN.out; omega
        have hc1 : 1 ≤ c := by omega
        have hcb := hB5.log.row.shape.most
        unfold maxLen at hcb
        clear hO5 hb4 HB4 hrm hnm hVS hcN
        go_wp2
        go_roundw
        case rel =>
          have hrr : SR w5 (.slice (some ⟨g, (o + 1) * 2, none⟩) (N - 1) (c - 1)) (ms (t :: r)) := by
            have h3 := hB5.log.row.shape.drop 1 (by simp [ms])
            exact Or.inr ⟨g, o + 1, c - 1, by rw [ms_length, List.length_cons, HN.out]; rfl, h3⟩
          have hB6 := hB5.segs hrr (fun g' hg' => hB5.noRow g' hg') hB5.tabRow
          rw [show (o + 1) * 2 = o * 2 + 2 by omega] at hB6
          have e1 : l.drop (k + 1) = t :: r := HDK.out
          refine ⟨k + 1, own2, S2, .slice (some ⟨g, o * 2 + 2, none⟩) (N - 1) (c - 1), by go_num, by have := HNE.out; omega, by rw [e1]; exact hB6, hu5, by rw [e1]; exact hon5, ?_, ?_, HS5.out, fun g' hg' => hvs g' hg', HO5.out.trans (Only.of_set _ (Or.inr rfl) _)⟩
          · rw [e1]; exact ⟨_, hL1.tail⟩
          · show forg seq (l.drop (k + 1)) = forg seq l
            rw [e1, ← HF.out, hD, forg_more, if_pos hle]
        case measure => have := HNE.out; simp [intOf]; omega
      · have hle' : ¬ (t.first : Int) ≤ (seq : Int) := by omega
        have hF := fin (by rw [hD, forg_more, if_neg hle])
        clear hN hB fin hdl hst hFi hWi HN
        go_wp2
        go_ret2
        refine ⟨?_, hF.out.2⟩
        rw [hF.out.1]; rfl

end Go.Proofs.YtdlicndbdnfekaaGreatDoor.Wl
