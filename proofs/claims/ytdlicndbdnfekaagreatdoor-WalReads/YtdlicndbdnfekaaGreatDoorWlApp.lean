/- Walks over wal.go: Append. -/
import Derived.Test.YtdlicndbdnfekaaGreatDoorWlReady
namespace Go.Proofs.YtdlicndbdnfekaaGreatDoor.Wl
open Go.RowKit Go.Joins
open Go.Proofs.YtdlicndbdnfekaaGreatDoor.Dk (Bs Fil Fls St St.Ok Held Only)

/-- a log's disk and a cell of its row -/
abbrev US (bw bd g off : Nat) (x : Value) (W : World) : Prop := (W.cell? ⟨bw, 0, none⟩ = some (.pointer (some ⟨bd, 0, none⟩)) ∧ W.cell? ⟨g, off, none⟩ = some x) ∧ Hid (bw < W.heap.size ∧ g < W.heap.size)
section
variable {bw bd g off : Nat} {x : Value} {W W' : World}
theorem US.drew (h : US bw bd g off x W) : US bw bd g off x W.drew := h
theorem US.call (hb : Below W.heap.size W W') (h : US bw bd g off x W) : US bw bd g off x W' :=
  ⟨⟨(hb.cell (p := ⟨bw, 0, none⟩) h.2.out.1).trans h.1.1, (hb.cell (p := ⟨g, off, none⟩) h.2.out.2).trans h.1.2⟩, Nat.lt_of_lt_of_le h.2.out.1 hb.size, Nat.lt_of_lt_of_le h.2.out.2 hb.size⟩
theorem US.only {own : Nat → Prop} (ho : Only (plus own W.heap.size) W W') (n1 : ¬ own bw) (n2 : ¬ own g) (h : US bw bd g off x W) : US bw bd g off x W' := by
  have l1 := h.2.out.1
  have l2 := h.2.out.2
  have b1 := ho.block bw l1 (fun e => e.elim n1 (by omega))
  have b2 := ho.block g l2 (fun e => e.elim n2 (by omega))
  exact ⟨⟨(World.cell?_of_block (a := ⟨bw, 0, none⟩) b1).trans h.1.1, (World.cell?_of_block (a := ⟨g, off, none⟩) b2).trans h.1.2⟩, Nat.lt_of_lt_of_le l1 ho.size, Nat.lt_of_lt_of_le l2 ho.size⟩
end
/-- the last segment's bytes, the row, the next number: all set -/
theorem both_put {w : World} {own : Nat → Prop} {bd bw most : Nat} {S : St} {v : Value} {ss a : List Sm} {nx f b g o n c : Nat} (h : Both w own bd bw most S v ss nx) (hr : SR w (.slice (some ⟨g, o * 2, none⟩) n c) (a ++ [(f, b)])) (hn : n = a.length + 1) (hg : ¬ own g) (ht : (0 : Nat) ≠ g) (m nx' : Nat) :
    Both (((w.setCell ⟨g, o * 2 + a.length * 2 + 1, none⟩ (.int .i64 m)).setCell ⟨bw, 2, none⟩ (.slice (some ⟨g, o * 2, none⟩) n c)).setCell ⟨bw, 3, none⟩ (.int .i64 nx')) own bd bw most S (.slice (some ⟨g, o * 2, none⟩) n c) (a ++ [(f, m)]) nx' := by
  have hne : g ≠ bw := hr.ne h.log.block wal_ne rfl
  have h1 := hr.shape.set a.length (by simp) m
  have e1 : (a ++ [(f, b)])[a.length]'(by simp) = (f, b) := by simp
  rw [e1] at h1
  have e2 : (a ++ [(f, b)]).set a.length (f, m) = a ++ [(f, m)] := by simp
  simp only [e2] at h1
  have h2 : SR (w.setCell ⟨g, o * 2 + a.length * 2 + 1, none⟩ (.int .i64 m)) (.slice (some ⟨g, o * 2, none⟩) n c) (a ++ [(f, m)]) := Or.inr ⟨g, o, c, by rw [hn]; simp, h1⟩
  have hbk : (w.setCell ⟨g, o * 2 + a.length * 2 + 1, none⟩ (.int .i64 m)).heap[bw]? = some (.cells (walC bd most v nx) WalT (0, 0)) := (Below.heap_setCell w ⟨g, o * 2 + a.length * 2 + 1, none⟩ _ bw (fun e => hne e.symm)).trans h.log.block
  have hst : ∀ k, k ≠ g → k ≠ bw → (((w.setCell ⟨g, o * 2 + a.length * 2 + 1, none⟩ (.int .i64 m)).setCell ⟨bw, 2, none⟩ (.slice (some ⟨g, o * 2, none⟩) n c)).setCell ⟨bw, 3, none⟩ (.int .i64 nx')).heap[k]? = w.heap[k]? := fun k hk1 hk2 => by
    rw [Below.heap_setCell _ ⟨bw, 3, none⟩ _ k hk2, Below.heap_setCell _ ⟨bw, 2, none⟩ _ k hk2, Below.heap_setCell _ ⟨g, _, none⟩ _ k hk1]
  refine ⟨h.disk.frame (fun k _ hk => hst k (fun e => hg (e ▸ hk)) fun e => h.no (e ▸ hk)) (by simp), ⟨?_, ?_⟩, h.no, fun g' hg' => ?_, h.tab.stay (hst _ ht (h.tab.ne h.log.block (show (4 : Nat) ≠ 20 by decide))), h.noTab, fun e => ht ?_⟩
  · rw [block_setCell (block_setCell hbk _)]; rfl
  · refine h2.stay fun g' hg' => ?_
    simp only [Value.ownBlock, Option.some.injEq] at hg'
    subst hg'
    rw [Below.heap_setCell _ ⟨bw, 3, none⟩ _ g hne, Below.heap_setCell _ ⟨bw, 2, none⟩ _ g hne]
  · simp only [Value.ownBlock, Option.some.injEq] at hg'; subst hg'; exact hg
  · simp only [Value.ownBlock, Option.some.injEq] at e; exact e.symm

/-- what ready gives: the row to write into -/
def Rd (w : World) (own : Nat → Prop) (bd bw most : Nat) (v : Value) (ss a : List Sm) (f b nx c1 : Nat) (S1 : St) (e : Ending) (w' : World) : Prop :=
  ∃ own1 u, e = .returned (.tuple #[u, .int .i64 c1]) ∧ Both w' own1 bd bw most S1 v ss nx ∧ (∀ b, own1 b → own b ∨ w.heap.size ≤ b) ∧ Only (mayL own bw v w.heap.size) w w' ∧
    (c1 = 0 → SR w' u (a ++ [(f, b)]) ∧ ∀ g, u.ownBlock = some g → ¬ own1 g ∧ (v.ownBlock = some g ∨ w.heap.size ≤ g))
/-- what Append answers, and what it leaves -/
def ApP (w : World) (own : Nat → Prop) (bd bw most : Nat) (v : Value) (ss a : List Sm) (f b nx c1 : Nat) (S1 : St) (R : Nat × St) (len : Nat) (e : Ending) (w' : World) : Prop :=
  ∃ own', (∀ b, own' b → own b ∨ w.heap.size ≤ b) ∧ Only (mayL own bw v w.heap.size) w w' ∧
    (c1 ≠ 0 → e = .returned (.tuple #[.int .i64 0, .int .i64 c1]) ∧ Both w' own' bd bw most S1 v ss nx) ∧
    (c1 = 0 → R.1 ≠ 0 → e = .returned (.tuple #[.int .i64 0, .int .i64 R.1]) ∧ Both w' own' bd bw most R.2 v ss nx) ∧
    (c1 = 0 → R.1 = 0 → e = .returned (.tuple #[.int .i64 nx, .int .i64 0]) ∧ ∃ u, Both w' own' bd bw most R.2 u (a ++ [(f, b + len)]) (nx + 1) ∧ ∀ g, u.ownBlock = some g → v.ownBlock = some g ∨ w.heap.size ≤ g)

set_option maxRecDepth 100000 in
set_option maxHeartbeats 6400000 in
theorem Append_gen {own : Nat → Prop} {bw bd most : Nat} {S S1 : St} {v : Value} {ss a : List Sm} {f b nx c1 : Nat} {r : Rec} (w : World) (h : Both w own bd bw most S v ss nx) (hm : r.may) (hnx : nx ≤ 1048576) (hf : f ≤ 1048577) (ha : a.length ≤ 1000) (hb : b ≤ 1000000)
    (hR : ∀ W, Below w.heap.size w W → Calls Tryz.prog 26 #[.pointer (some ⟨bw, 0, none⟩)] W (Rd w own bd bw most v ss a f b nx c1 S1)) :
    Calls Tryz.prog 12 #[.pointer (some ⟨bw, 0, none⟩), .int .i64 r.brick, .string r.body] w (ApP w own bd bw most v ss a f b nx c1 S1 (S1.append (nm f) (fr nx r)) (fr nx r).length) := by
  have hFr := fun W => frameOf_any nx r hm W
  have hBr := fun W => brick_any r.brick hm.1 W
  have hbl := hm.2
  have hfl := fr_le nx r
  have c3 := h.log.c3
  have HTL := hide h.tab.lt
  have n1 : ¬ (60000 : Int) < (r.body.size : Int) := by omega
  have n2 : ¬ (1048576 : Int) < (nx : Int) := by omega
  have HAP : Hid (∀ (W : World) (own1 : Nat → Prop), DH W own1 bd S1 → Calls Tryz.prog 27 #[.pointer (some ⟨bd, 0, none⟩), .string (nt f), .string ⟨(fr nx r).toArray⟩] W fun e w' => e = .returned (.int .i64 (S1.append (nm f) (fr nx r)).1) ∧ Held w' (plus own1 W.heap.size) bd (S1.append (nm f) (fr nx r)).2 ∧ Only (plus own1 W.heap.size) W w') := fun W own1 hD => by
    have hd := dec_small hf
    have := Dk.append_any W hD.open (fresh_plus (Nat.le_refl _)) (nt f) ⟨(fr nx r).toArray⟩ (by rw [nt_size]; omega) (by show (fr nx r).toArray.size ≤ _; rw [List.size_toArray]; omega)
    rw [nt_list] at this
    simpa using this
  have hszF : (ByteArray.mk (fr nx r).toArray).size = (fr nx r).length := by show (fr nx r).toArray.size = _; rw [List.size_toArray]
  generalize hRR : S1.append (nm f) (fr nx r) = R at *
  generalize hLN : (fr nx r).length = len at *
  generalize (ByteArray.mk (fr nx r).toArray) = F at *
  clear hRR hLN h
  go_enter Tryz.func12, Tryz.ntmps12
  go_wp2_with (first | (go_at_call 24; refine (hBr _).mono ?_; rintro e w1 ⟨rfl, rfl⟩) | (go_at_call 25; refine (hFr _).mono ?_; rintro e w2 ⟨rfl, hb2⟩))
  refine (hR _ hb2).mono ?_
  rintro e w3 ⟨own1, u, rfl, hB3, hsub3, hO3, hu3⟩
  clear hR hFr hBr hb2 c3
  have HB3 := hide hB3
  have HSUB := hide hsub3
  have HO3 := hide hO3
  by_cases hc1 : c1 = 0
  · obtain ⟨hsr, hub⟩ := hu3 hc1
    have HC := hide hc1
    obtain ⟨g, o, cp, hv, -⟩ := hsr.form (by simp)
    rw [List.length_append, List.length_singleton] at hv
    obtain ⟨K, hK⟩ : ∃ K, K = a.length + 1 := ⟨_, rfl⟩
    obtain ⟨L, hL⟩ : ∃ L, L = a.length := ⟨_, rfl⟩
    rw [← hK] at hv
    subst hv
    obtain ⟨x0, x1, z0, z1⟩ := (show WH (w3.setCell ⟨bw, 2, none⟩ (.slice (some ⟨g, o * 2, none⟩) K cp)) bw bd most _ (a ++ [(f, b)]) nx from hB3.log.segs hsr).lastCells
    have hne4 : g ≠ bw := hsr.ne hB3.log.block wal_ne rfl
    have hst : (w3.setCell ⟨bw, 2, none⟩ (.slice (some ⟨g, o * 2, none⟩) K cp)).heap[g]? = w3.heap[g]? := Below.heap_setCell _ _ _ g hne4
    rw [World.cell?_of_block (a := ⟨g, _, none⟩) hst, ← hL] at x0 x1
    rw [World.frozen?_of_block (a := ⟨g, _, none⟩) hst, ← hL] at z0 z1
    have hK1 : (K : Int) - 1 = (L : Int) := by omega
    have i1 : (0 : Int) ≤ (L : Int) := by omega
    have i2 : (L : Int) < (K : Int) := by omega
    have hLb : L ≤ 1000 := by omega
    have hKb : K ≤ 1001 := by omega
    have HKL : Hid (K = a.length + 1 ∧ L = a.length) := ⟨hK, hL⟩
    have hgn := (hub g rfl).1
    have HUB := hide hub
    have HSR := hide hsr
    have hbn := hB3.no
    have hzg := hsr.lt (g := g) rfl
    have hzb := hB3.log.lt
    have hUS : US bw bd g (o * 2 + L * 2) (.int .i64 f) w3 := ⟨⟨hB3.log.c0, x0⟩, hzb, hzg⟩
    have hnm : ∀ W, Below w3.heap.size w3 W → Calls Tryz.prog 28 #[.int .i64 f] W fun e w' => e = .returned (.string (nt f)) ∧ Below W.heap.size W w' := fun W hb => nameOf_any _ hf W (HB3.out.tab.below hb)
    have hap : ∀ W, Below w3.heap.size w3 W → _ := fun W hb => HAP.out W own1 (HB3.out.disk.below hb)
    rw [hc1]
    clear hu3 hsr hub hK hL ha hst hB3 hsub3 hO3 hc1 HAP
    go_wp2
    go_region_held3 (US bw bd g (o * 2 + L * 2) (.int .i64 f)) (first | with_reducible exact US.drew (by assumption) | with_reducible exact US.call (by assumption) (by assumption) | with_reducible exact US.only (by assumption) hbn hgn (by assumption) | with_reducible assumption)
      (first | (go_at_call 28; refine (hnm _ (by first | exact Below.refl _ _ | exact (Below.refl _ _).drew)).mono ?_; rintro e w4 ⟨rfl, hb4⟩; have HB4 : Hid (Below w3.heap.size w3 w4) := by first | exact hb4 | exact ((Below.refl _ _).drew).trans hb4) | (go_at_call 27; refine (hap _ (by first | exact HB4.out | exact HB4.out.drew)).mono ?_; rintro e w5 ⟨rfl, hH5, hO5⟩))
    have hB4 := HB3.out.below HB4.out
    obtain ⟨own5, hB5, hsub5, hg5⟩ : ∃ own5, Both w5 own5 bd bw most R.2 v ss nx ∧ (∀ b, own5 b → own b ∨ w.heap.size ≤ b) ∧ ¬ own5 g := ⟨_, hB4.disked hH5 hO5, fun b hb => hb.1.elim (HSUB.out b) fun h => Or.inr (Nat.le_trans HO3.out.size (Nat.le_trans HB4.out.size h)), fun h => h.1.elim hgn fun h => by have := HB4.out.size; omega⟩
    have hgst : w5.heap[g]? = w3.heap[g]? := (hO5.block g (by have := HB4.out.size; omega) fun e => e.elim hgn fun h => by have := HB4.out.size; omega).trans (HB4.out.block g hzg)
    have HSR5 : Hid (SR w5 (.slice (some ⟨g, o * 2, none⟩) K cp) (a ++ [(f, b)])) := HSR.out.stay fun g' hg' => by simp only [Value.ownBlock, Option.some.injEq] at hg'; subst hg'; exact hgst
    have HO5 : Hid (Only (mayL own bw v w.heap.size) w w5) := HO3.out.trans ((Only.of_below HB4.out).trans (hO5.mono fun b _ hb => hb.elim (fun h => Or.inl (HSUB.out b h)) fun h => Or.inl (Or.inr (Nat.le_trans HO3.out.size (Nat.le_trans HB4.out.size h)))))
    replace x1 := (World.cell?_of_block (a := ⟨g, o * 2 + L * 2 + 1, none⟩) hgst).trans x1
    replace z1 := (World.frozen?_of_block (a := ⟨g, o * 2 + L * 2 + 1, none⟩) hgst).trans z1
    have d2 := hB5.log.c2
    have y2 := hB5.log.fz 2
    have d3 := hB5.log.c3
    have y3 := hB5.log.fz 3
    have HB5 := hide hB5
    have HS5 := hide hsub5
    have HTG : Hid ((0 : Nat) ≠ g) := fun e => by
      rcases (HUB.out g rfl).2 with h | h
      · exact HB3.out.tabRow (by rw [h, e])
      · have := HTL.out; omega
    clear x0 z0 hO5 hH5 hb4 hB4 hB5 hsub5 hgst hUS hnm hap HB4
    by_cases hR0 : R.1 = 0
    · rw [hR0]
      have HR := hide hR0
      clear hR0
      go_wp2
      go_ret2
      have hp := both_put HB5.out HSR5.out HKL.out.1 hg5 HTG.out (b + len) (nx + 1)
      rw [← HKL.out.2] at hp
      simp only [Int.natCast_add, Int.natCast_one] at hp
      have hgm : mayL own bw v w.heap.size g := (HUB.out g rfl).2.elim (fun h => Or.inr (Or.inr h)) fun h => Or.inl (Or.inr h)
      exact ⟨own5, HS5.out, ((HO5.out.trans (Only.of_set _ hgm _)).trans (Only.of_set _ (Or.inr (Or.inl rfl)) _)).trans (Only.of_set _ (Or.inr (Or.inl rfl)) _), fun h => absurd HC.out h, fun _ h => absurd HR.out h, fun _ _ => ⟨rfl, _, hp, fun g' hg' => (HUB.out g' hg').2⟩⟩
    · have hcb : ((R.1 : Int) != 0) = true := by rw [bne_iff_ne]; omega
      go_wp2
      go_ret2
      exact ⟨own5, HS5.out, HO5.out, fun h => absurd HC.out h, fun _ _ => ⟨rfl, HB5.out⟩, fun _ h => absurd h hR0⟩
  · have hcb : ((c1 : Int) != 0) = true := by rw [bne_iff_ne]; omega
    go_wp2
    go_ret2
    exact ⟨own1, HSUB.out, HO3.out, fun _ => ⟨rfl, HB3.out⟩, fun h => absurd h hc1, fun h => absurd h hc1⟩

/-- into the last segment -/
theorem Append_room {own : Nat → Prop} {bw bd most : Nat} {S : St} {v : Value} {a : List Sm} {f b nx : Nat} {r : Rec} (w : World) (h : Both w own bd bw most S v (a ++ [(f, b)]) nx) (hm : r.may) (hnx : nx ≤ 1048576) (hf : f ≤ 1048577) (ha : a.length ≤ 1000) (hb : b ≤ 1000000) (hlt : b < most) :
    Calls Tryz.prog 12 #[.pointer (some ⟨bw, 0, none⟩), .int .i64 r.brick, .string r.body] w (ApP w own bd bw most v (a ++ [(f, b)]) a f b nx 0 S (S.append (nm f) (fr nx r)) (fr nx r).length) := by
  refine Append_gen w h hm hnx hf ha hb fun W hbW => ?_
  refine (ready_room W (h.below hbW) (by omega) hlt).mono ?_
  rintro e w' ⟨rfl, hb'⟩
  have hB' := (h.below hbW).below hb'
  exact ⟨own, v, rfl, hB', fun b hb => Or.inl hb, (Only.of_below hbW).trans (Only.of_below hb'), fun _ => ⟨hB'.log.row, fun g hg => ⟨hB'.noRow g hg, Or.inl hg⟩⟩⟩
/-- into the first one -/
theorem Append_first {own : Nat → Prop} {bw bd most : Nat} {S : St} {v : Value} {nx : Nat} {r : Rec} (w : World) (h : Both w own bd bw most S v [] nx) (hm : r.may) (hnx : nx ≤ 1048576) :
    Calls Tryz.prog 12 #[.pointer (some ⟨bw, 0, none⟩), .int .i64 r.brick, .string r.body] w (ApP w own bd bw most v [] [] nx 0 nx 0 S (S.append (nm nx) (fr nx r)) (fr nx r).length) := by
  refine Append_gen w h hm hnx (by omega) (by simp) (by omega) fun W hbW => ?_
  refine (ready_first W (h.below hbW)).mono ?_
  rintro e w' ⟨v', rfl, hr, hro, hg, hat⟩
  have hB' := (h.below hbW).grown hg hro
  have hz := hbW.size
  refine ⟨own, v', rfl, hB', fun b hb => Or.inl hb, (Only.of_below hbW).trans (Only.of_grown hg fun k e => Or.inr (Or.inr e)), fun _ => ⟨hr, fun g' hg' => ⟨fun ho => ?_, (hat g' hg').imp id fun h => by omega⟩⟩⟩
  rcases hat g' hg' with h1 | h1
  · exact h.noRow g' h1 ho
  · have := h.disk.old g' ho; omega
/-- into a new one -/
theorem Append_full {own : Nat → Prop} {bw bd most : Nat} {S : St} {v : Value} {a : List Sm} {f b nx : Nat} {r : Rec} (w : World) (h : Both w own bd bw most S v (a ++ [(f, b)]) nx) (hm : r.may) (hnx : nx ≤ 1048576) (ha : a.length ≤ 900) (hle : most ≤ b) :
    Calls Tryz.prog 12 #[.pointer (some ⟨bw, 0, none⟩), .int .i64 r.brick, .string r.body] w (ApP w own bd bw most v (a ++ [(f, b)]) (a ++ [(f, b)]) nx 0 nx S.sync.1 S.sync.2 (S.sync.2.append (nm nx) (fr nx r)) (fr nx r).length) := by
  refine Append_gen w h hm hnx (by omega) (by rw [List.length_append, List.length_singleton]; omega) (by omega) fun W hbW => ?_
  refine (ready_full W (h.below hbW) (by omega) hle).mono ?_
  rintro e w' ⟨own', u, hB', hsub, hO, rfl, hu⟩
  have hz := hbW.size
  exact ⟨own', u, rfl, hB', fun b hb => (hsub b hb).imp id fun h => by omega, (Only.of_below hbW).trans (hO.mono fun b _ hb => hb.imp (fun h => h.imp id fun h => by omega) id), fun h0 => ⟨(hu h0).1, fun g hg => ⟨((hu h0).2 g hg).1, ((hu h0).2 g hg).2.imp id fun h => by omega⟩⟩⟩

end Go.Proofs.YtdlicndbdnfekaaGreatDoor.Wl
