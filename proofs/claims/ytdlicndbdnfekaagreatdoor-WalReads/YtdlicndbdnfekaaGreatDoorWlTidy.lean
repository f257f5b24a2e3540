/- Walks over segment.go: tidy; wal.go: Open. -/
import Derived.Test.YtdlicndbdnfekaaGreatDoorWlLoad
namespace Go.Proofs.YtdlicndbdnfekaaGreatDoor.Wl
open Go.RowKit Go.Joins
open Go.Proofs.YtdlicndbdnfekaaGreatDoor.Dk (Bs Fil Fls St St.Ok Held Only)

/-- a log's disk and a segment's box -/
abbrev TS (bw bd sb : Nat) (x0 x1 : Value) (W : World) : Prop := (W.cell? ⟨bw, 0, none⟩ = some (.pointer (some ⟨bd, 0, none⟩)) ∧ W.cell? ⟨sb, 0, none⟩ = some x0 ∧ W.cell? ⟨sb, 1, none⟩ = some x1) ∧ Hid (bw < W.heap.size ∧ sb < W.heap.size)
section
variable {bw bd sb : Nat} {x0 x1 : Value} {W W' : World}
theorem TS.drew (h : TS bw bd sb x0 x1 W) : TS bw bd sb x0 x1 W.drew := h
theorem TS.call (hb : Below W.heap.size W W') (h : TS bw bd sb x0 x1 W) : TS bw bd sb x0 x1 W' :=
  ⟨⟨(hb.cell (p := ⟨bw, 0, none⟩) h.2.out.1).trans h.1.1, (hb.cell (p := ⟨sb, 0, none⟩) h.2.out.2).trans h.1.2.1, (hb.cell (p := ⟨sb, 1, none⟩) h.2.out.2).trans h.1.2.2⟩, Nat.lt_of_lt_of_le h.2.out.1 hb.size, Nat.lt_of_lt_of_le h.2.out.2 hb.size⟩
theorem TS.only {own : Nat → Prop} (ho : Only (plus own W.heap.size) W W') (n1 : ¬ own bw) (n2 : ¬ own sb) (h : TS bw bd sb x0 x1 W) : TS bw bd sb x0 x1 W' := by
  have l1 := h.2.out.1
  have l2 := h.2.out.2
  have b1 := ho.block bw l1 (fun e => e.elim n1 (by omega))
  have b2 := ho.block sb l2 (fun e => e.elim n2 (by omega))
  exact ⟨⟨(World.cell?_of_block (a := ⟨bw, 0, none⟩) b1).trans h.1.1, (World.cell?_of_block (a := ⟨sb, 0, none⟩) b2).trans h.1.2.1, (World.cell?_of_block (a := ⟨sb, 1, none⟩) b2).trans h.1.2.2⟩, Nat.lt_of_lt_of_le l1 ho.size, Nat.lt_of_lt_of_le l2 ho.size⟩
end
/-- the log, the disk beside it: what both own; the rest stays -/
structure Both (w : World) (own : Nat → Prop) (bd bw most : Nat) (S : St) (v : Value) (ss : List Sm) (nx : Nat) : Prop where
  disk : DH w own bd S
  log : WH w bw bd most v ss nx
  no : ¬ own bw
  noRow : ∀ g, v.ownBlock = some g → ¬ own g
  tab : Tab w
  noTab : ¬ own 0
  tabRow : v.ownBlock ≠ some 0
theorem Both.below {w w' : World} {own : Nat → Prop} {bd bw most : Nat} {S : St} {v : Value} {ss : List Sm} {nx : Nat} (h : Both w own bd bw most S v ss nx) (hb : Below w.heap.size w w') : Both w' own bd bw most S v ss nx :=
  ⟨h.disk.below hb, h.log.below hb, h.no, h.noRow, h.tab.below hb, h.noTab, h.tabRow⟩
/-- behind a call of the disk -/
theorem Both.disked {w w' : World} {own : Nat → Prop} {bd bw most : Nat} {S S' : St} {v : Value} {ss : List Sm} {nx : Nat} (h : Both w own bd bw most S v ss nx) (hH : Held w' (plus own w.heap.size) bd S') (ho : Only (plus own w.heap.size) w w') :
    Both w' (fun b => plus own w.heap.size b ∧ b < w'.heap.size) bd bw most S' v ss nx := by
  have hlt := h.log.lt
  have hst : ∀ k, k < w.heap.size → ¬ own k → w'.heap[k]? = w.heap[k]? := fun k hk hn => ho.block k hk fun e => e.elim hn (by omega)
  refine ⟨DH.shut hH, h.log.stay (hst bw hlt h.no) fun g hg => hst g (h.log.row.lt hg) (h.noRow g hg), fun e => e.1.elim h.no (by omega), fun g hg e => e.1.elim (h.noRow g hg) (by have := h.log.row.lt hg; omega), h.tab.stay (hst _ h.tab.lt h.noTab), fun e => e.1.elim h.noTab (by have := h.tab.lt; omega), h.tabRow⟩
/-- a cell of the log's own is set -/
theorem Both.set {w : World} {own : Nat → Prop} {bd bw most : Nat} {S : St} {v v' : Value} {ss ss' : List Sm} {nx nx' i : Nat} {u : Value} (h : Both w own bd bw most S v ss nx) (hW : WH (w.setCell ⟨bw, i, none⟩ u) bw bd most v' ss' nx') (hno : ∀ g, v'.ownBlock = some g → ¬ own g) (ht : v'.ownBlock ≠ some 0) :
    Both (w.setCell ⟨bw, i, none⟩ u) own bd bw most S v' ss' nx' :=
  ⟨h.disk.frame (fun k _ hk => Below.heap_setCell _ _ _ k fun e => h.no (by cases e; exact hk)) (by simp), hW, h.no, hno, h.tab.stay (Below.heap_setCell _ _ _ _ (h.tab.ne h.log.block (show (4 : Nat) ≠ 20 by decide))), h.noTab, ht⟩
theorem Both.segs {w : World} {own : Nat → Prop} {bd bw most : Nat} {S : St} {v v' : Value} {ss ss' : List Sm} {nx : Nat} (h : Both w own bd bw most S v ss nx) (hr : SR w v' ss') (hno : ∀ g, v'.ownBlock = some g → ¬ own g) (ht : v'.ownBlock ≠ some 0) : Both (w.setCell ⟨bw, 2, none⟩ v') own bd bw most S v' ss' nx := h.set (h.log.segs hr) hno ht
theorem Both.next {w : World} {own : Nat → Prop} {bd bw most : Nat} {S : St} {v : Value} {ss : List Sm} {nx : Nat} (h : Both w own bd bw most S v ss nx) (m : Nat) : Both (w.setCell ⟨bw, 3, none⟩ (.int .i64 m)) own bd bw most S v ss m := h.set (h.log.next m) h.noRow h.tabRow
/-- the row's spare cells have turned: the log, with the elder row -/
theorem Both.grown {w w' : World} {own : Nat → Prop} {bd bw most : Nat} {S : St} {v : Value} {ss : List Sm} {nx : Nat} (h : Both w own bd bw most S v ss nx) (hg : w.grownBy w' v.ownBlock) (hr : SR w' v ss) : Both w' own bd bw most S v ss nx :=
  ⟨h.disk.frame (fun k hk hok => hg.block k hk fun e => h.noRow k e.symm hok) hg.size, ⟨(hg.block bw h.log.lt fun e => h.log.ne e.symm rfl).trans h.log.block, hr⟩, h.no, h.noRow, h.tab.stay (hg.block _ h.tab.lt fun e => h.tabRow e.symm), h.noTab, h.tabRow⟩
/-- a segment as Open leaves it -/
abbrev tidied (s : Sg) : Sg := { s with tl := [], safe := min s.safe s.bytes }
theorem tidied_eq {s : Sg} (ht : s.tl = []) (hs : s.safe ≤ s.data.length) : tidied s = s := by
  cases s with
  | mk f r t sa =>
    simp only at ht
    subst ht
    simp only [Sg.data, List.append_nil] at hs
    simp only [tidied, Sg.bytes, Sg.mk.injEq, true_and]
    exact Nat.min_eq_left hs
theorem tornL_snoc {a : List Sg} {s : Sg} (ha : ∀ t ∈ a, t.tl = []) : tornL (a ++ [s]) = !s.tl.isEmpty := by
  rw [tornL, List.any_append]
  have : (a.any fun s => !s.tl.isEmpty) = false := by rw [List.any_eq_false]; intro t ht; simp [ha t ht]
  rw [this]; simp
/-- all that a call of a log may touch -/
abbrev may (own : Nat → Prop) (bw n : Nat) : Nat → Prop := fun b => plus own n b ∨ b = bw

/-- behind the cut: what is left of a last segment is whole -/
structure Mid (w W : World) (own own1 : Nat → Prop) (bd bw most : Nat) (S S1 : St) (v : Value) (a : List Sg) (s : Sg) (nx : Nat) : Prop where
  both : Both W own1 bd bw most S1 v (ms (a ++ [s])) nx
  up : Up S1
  room : S1.room = S.room
  on : On S1 (a ++ [tidied s])
  sub : ∀ b, own1 b → own b ∨ w.heap.size < b
  only : Only (may own bw w.heap.size) w W
theorem only_may {own : Nat → Prop} {bw n : Nat} {w w' : World} (h : Only (plus own w.heap.size) w w') (_ : n ≤ w.heap.size) : Only (may own bw n) w w' := h.mono fun b _ hb => hb.elim (fun h => Or.inl (Or.inl h)) (fun h => Or.inl (Or.inr (by omega)))
section
variable {own own1 : Nat → Prop} {bd bw most : Nat} {S S1 : St} {v : Value} {a : List Sg} {s : Sg} {n m nx : Nat} {w W W' : World}
theorem Mid.below (h : Mid w W own own1 bd bw most S S1 v a s nx) (hb : Below W.heap.size W W') : Mid w W' own own1 bd bw most S S1 v a s nx :=
  ⟨h.both.below hb, h.up, h.room, h.on, h.sub, h.only.trans (Only.of_below hb)⟩
theorem Mid.start (h : Both w own bd bw most S v (ms (a ++ [s])) nx) (hu : Up S) (ho : On S (a ++ [s])) (ht : s.tl = []) (hs : s.safe ≤ s.data.length) (hb : Below w.heap.size w W) : Mid w W own own bd bw most S S v a s nx :=
  ⟨h.below hb, hu, rfl, by rw [tidied_eq ht hs]; exact ho, fun b hb => Or.inl hb, Only.of_below hb⟩
theorem Mid.cut (h : Both w own bd bw most S v (ms (a ++ [s])) nx) (hu : Up S) (ho : On S (a ++ [s])) (hl : Lg (a ++ [s]) n m) (hm : m ≤ 1048576) (hb : Below w.heap.size w W) (hz : w.heap.size < W.heap.size) :
    Calls Tryz.prog 37 #[.pointer (some ⟨bd, 0, none⟩), .string (nt s.first), .int .i64 (s.bytes : Int)] W fun e w' => e = .returned (.int .i64 0) ∧ Only (plus own W.heap.size) W w' ∧ ∃ own1 S1, Mid w w' own own1 bd bw most S S1 v a s nx := by
  have hB := h.below hb
  have hf : s.first ≤ 1048577 := by have := (hl.rise.2 s (by simp)).2; omega
  have hd := dec_small hf
  have hsz : s.data.length ≤ 262144 := by
    have h2 := Dk.le_sumL' (fun f : Fil => f.data.length) (Dk.getL_some (ho.has s (by simp)))
    exact Nat.le_trans h2 (Nat.le_trans h.disk.held.ok.sum h.disk.held.ok.room)
  have hbs : s.bytes ≤ 262144 := by have : s.data.length = s.bytes + s.tl.length := by rw [Sg.data, List.length_append]; rfl
                                    omega
  obtain ⟨e1, hon⟩ := ho.cut h.disk.held.ok.rising hu hl hf
  refine (Dk.cut_any W hB.disk.open (fresh_plus (Nat.le_refl _)) (nt s.first) (s.bytes : Int) (by rw [nt_size]; omega) (by omega) (by omega)).mono ?_
  rintro e w' ⟨rfl, hH, hO⟩
  rw [nt_list, e1] at hH ⊢
  have hB2 := hB.disked hH hO
  exact ⟨rfl, hO, _, _, hB2, hu.with _, rfl, hon, fun b hb => hb.1.elim Or.inl fun h => Or.inr (by omega), (Only.of_below hb).trans (only_may hO hb.size)⟩
theorem Mid.remove (h : Mid w W own own1 bd bw most S S1 v a s nx) (hl : Lg (a ++ [s]) n m) (hm : m ≤ 1048576) (hz : w.heap.size < W.heap.size) :
    Calls Tryz.prog 33 #[.pointer (some ⟨bd, 0, none⟩), .string (nt s.first)] W fun e w' => e = .returned (.int .i64 0) ∧ Only (plus own1 W.heap.size) W w' ∧ ∃ own2 S2, Both w' own2 bd bw most S2 v (ms (a ++ [s])) nx ∧ Up S2 ∧ S2.room = S.room ∧ On S2 a ∧ (∀ b, own2 b → own b ∨ w.heap.size ≤ b) ∧ Only (may own bw w.heap.size) w w' := by
  have hf : s.first ≤ 1048577 := by have := (hl.rise.2 s (by simp)).2; omega
  have hd := dec_small hf
  obtain ⟨l1, l2, l3, l4, l5, l6, l7⟩ := Lg.snoc.1 hl
  have hl2 : Lg (a ++ [tidied s]) n m := Lg.snoc.2 ⟨l1, l2, l3, l4, l5, Torn.nil, by simp only [Sg.data, List.append_nil]; exact Nat.min_le_right _ _⟩
  obtain ⟨e1, hon⟩ := h.on.drop (a := a) (b := []) (s := tidied s) h.both.disk.held.ok.rising h.up hl2 hf
  rw [List.append_nil] at hon
  refine (Dk.remove_any W h.both.disk.open (nt s.first) (by rw [nt_size]; omega)).mono ?_
  rintro e w' ⟨rfl, hH, hO⟩
  rw [nt_list, show S1.remove (nm s.first) = _ from e1] at hH ⊢
  have hB2 := h.both.disked hH hO
  refine ⟨rfl, hO, _, _, hB2, h.up.with _, h.room, hon, fun b hb => hb.1.elim (fun h1 => (h.sub b h1).imp id Nat.le_of_lt) fun h1 => Or.inr (by omega), h.only.trans (hO.mono fun b hb1 hb => ?_)⟩
  rcases hb with hb | hb
  · exact Or.inl ((h.sub b hb).imp id Nat.le_of_lt)
  · exact Or.inl (Or.inr (by omega))
end

set_option maxRecDepth 100000 in
set_option maxHeartbeats 6400000 in
theorem tidy_any {own : Nat → Prop} {bw bd most : Nat} {S : St} {v : Value} {l : List Sg} {n m nx : Nat} (w : World) (h : Both w own bd bw most S v (ms l) nx) (hu : Up S) (ho : On S l) (hl : Lg l n m) (hm : m ≤ 1048576) :
    Calls Tryz.prog 22 #[.pointer (some ⟨bw, 0, none⟩), .bool (tornL l)] w fun e w' => e = .returned (.int .i64 0) ∧ ∃ own' S' v', Both w' own' bd bw most S' v' (ms (opened l)) nx ∧ Up S' ∧ S'.room = S.room ∧ On S' (opened l) ∧ (∀ b, own' b → own b ∨ w.heap.size ≤ b) ∧ (∀ g, v'.ownBlock = some g → v.ownBlock = some g) ∧ Only (may own bw w.heap.size) w w' := by
  rcases nil_or_snoc l with rfl | ⟨a, s, rfl⟩
  · obtain ⟨a, cap, rfl⟩ := h.log.row.slice
    have c2 := h.log.c2
    have HB := hide h
    clear h
    simp only [ms, List.map_nil, List.length_nil] at c2
    go_enter Tryz.func22, Tryz.ntmps22
    go_wp2
    go_ret
    exact ⟨rfl, own, S, _, HB.out, hu, rfl, ho, fun b hb => Or.inl hb, fun g hg => hg, Only.refl _ _⟩
  · obtain ⟨hl1, hl2, hl3, hl4, hl5, hl6, hl7⟩ := Lg.snoc.1 hl
    have htor := tornL_snoc (s := s) fun t ht => (hl3 t ht).2.1
    obtain ⟨g, o, c, hv, -⟩ := h.log.row.form (by simp [ms])
    have hml : (ms (a ++ [s])).length = a.length + 1 := by simp [ms]
    rw [hml] at hv
    subst hv
    have c0 := h.log.c0
    have c2 := h.log.c2
    have hms : ms (a ++ [s]) = ms a ++ [(s.first, s.bytes)] := by simp [ms]
    have hmsl : (ms a).length = a.length := ms_length a
    obtain ⟨x0, x1, -, -⟩ := WH.lastCells (hms ▸ h.log)
    rw [hmsl] at x0 x1
    obtain ⟨L, hL⟩ : ∃ L, L = a.length := ⟨_, rfl⟩
    rw [← hL] at hml x0 x1 h c2 hmsl
    obtain ⟨K, hK⟩ : ∃ K, K = L + 1 := ⟨_, rfl⟩
    rw [← hK] at hml c2 h
    have hK1 : (K : Int) - 1 = (L : Int) := by omega
    have i1 : (0 : Int) ≤ (L : Int) := by omega
    have i2 : (L : Int) < (K : Int) := by omega
    have i3 : ¬ (L : Int) < 0 := by omega
    have HK := hide hK
    have HL := hide hL
    have hfm : s.first ≤ 1048576 := by have := (hl.rise.2 s (by simp)).2; omega
    have HB := hide h
    have hbw := h.log.lt
    have hno := h.no
    have hold := h.disk.old
    have hLb : L ≤ 64 := by have := ho.len hl h.disk.held.ok; rw [List.length_append, List.length_singleton] at this; omega
    clear hK hL
    obtain ⟨bb, hbb⟩ : ∃ bb, bb = s.bytes := ⟨_, rfl⟩
    have hcut : ∀ W, (Below w.heap.size w W ∧ w.heap.size < W.heap.size) → Calls Tryz.prog 37 #[.pointer (some ⟨bd, 0, none⟩), .string (nt s.first), .int .i64 (bb : Int)] W fun e w' => e = .returned (.int .i64 0) ∧ Only (plus own W.heap.size) W w' ∧ ∃ own1 S1, Mid w w' own own1 bd bw most S S1 (.slice (some ⟨g, o * 2, none⟩) K c) a s nx := fun W hb => by rw [hbb]; exact Mid.cut HB.out hu ho hl hm hb.1 hb.2
    have hnm : ∀ W, Below w.heap.size w W → Calls Tryz.prog 28 #[.int .i64 s.first] W fun e w' => e = .returned (.string (nt s.first)) ∧ Below W.heap.size W w' := fun W hb => nameOf_any _ (by omega) W (HB.out.tab.below hb)
    have hrecs : 0 < bb ↔ s.recs ≠ [] := by
      rw [hbb]
      constructor
      · intro h e; simp [Sg.bytes, e, frs] at h
      · intro h; exact Nat.pos_of_ne_zero fun e => h (frs_len0 e)
    have fin_stay : (s.recs ≠ [] ∨ a = []) → ∀ (own1 : Nat → Prop) (S1 : St) (W : World), Mid w W own own1 bd bw most S S1 (.slice (some ⟨g, o * 2, none⟩) K c) a s nx → Hid (∃ own' S' v', Both W own' bd bw most S' v' (ms (opened (a ++ [s]))) nx ∧ Up S' ∧ S'.room = S.room ∧ On S' (opened (a ++ [s])) ∧ (∀ b, own' b → own b ∨ w.heap.size ≤ b) ∧ (∀ g', v'.ownBlock = some g' → (Value.slice (some ⟨g, o * 2, none⟩) K c).ownBlock = some g') ∧ Only (may own bw w.heap.size) w W) := by
      intro hs own1 S1 W hM
      have e1 : opened (a ++ [s]) = a ++ [tidied s] := by
        rw [opened_snoc, if_neg]
        rintro ⟨h1, h2⟩
        exact hs.elim (fun h => h h1) h2
      have e2 : ms (a ++ [tidied s]) = ms (a ++ [s]) := by simp [ms, Sg.bytes]
      rw [e1, e2]
      exact ⟨own1, S1, _, hM.both, hM.up, hM.room, hM.on, fun b hb => (hM.sub b hb).imp id Nat.le_of_lt, fun g' hg' => hg', hM.only⟩
    have hbx : TS bw bd w.heap.size (.int .i64 s.first) (.int .i64 bb) (w.alloc (.cells #[.int .i64 s.first, .int .i64 bb] SegT)) :=
      ⟨⟨((below_alloc1 w _).cell (p := ⟨bw, 0, none⟩) hbw).trans c0, by simp, by simp⟩, by simp; omega, by simp⟩
    have hb1 := below_alloc1 w (.cells #[.int .i64 s.first, .int .i64 bb] SegT)
    have hz1 : w.heap.size < (w.alloc (.cells #[.int .i64 s.first, .int .i64 bb] SegT)).heap.size := by simp
    have hnsb : ¬ own w.heap.size := fun h => by have := hold _ h; omega
    have HM0 := hide (fun (ht : s.tl = []) => Mid.start HB.out hu ho ht hl7 hb1)
    rw [← hbb] at x1
    have HRC := hide hrecs
    have HBB := hide hbb
    rw [htor]
    clear h htor hbb hrecs hms hml
    by_cases hr : 0 < bb
    · replace fin_stay := fin_stay (Or.inl (HRC.out.1 hr))
      by_cases htl : s.tl = []
      · have hM3 := HM0.out htl
        rw [htl]
        go_enter Tryz.func22, Tryz.ntmps22
        go_wp2
        go_ret
        exact ⟨rfl, (fin_stay _ _ _ hM3).out⟩
      · have htb : (!s.tl.isEmpty) = true := by simpa using htl
        rw [htb]
        go_enter Tryz.func22, Tryz.ntmps22
        go_wp2
        go_region_held3 (TS bw bd w.heap.size (.int .i64 s.first) (.int .i64 bb)) (first | with_reducible exact TS.drew (by assumption) | with_reducible exact TS.call (by assumption) (by assumption) | with_reducible exact TS.only (by assumption) hno hnsb (by assumption) | with_reducible assumption)
          (first | (go_at_call 28; refine (hnm _ (by first | exact hb1 | exact hb1.drew)).mono ?_; rintro e w2 ⟨rfl, hb2⟩; have HB2 : Hid (Below w.heap.size w w2 ∧ w.heap.size < w2.heap.size) := by first | exact ⟨hb1.trans (hb2.mono hb1.size), Nat.lt_of_lt_of_le hz1 hb2.size⟩ | exact ⟨hb1.drew.trans (hb2.mono hb1.drew.size), Nat.lt_of_lt_of_le hz1 hb2.size⟩) | (go_at_call 37; refine (hcut _ (by first | exact HB2.out | exact ⟨HB2.out.1.drew, HB2.out.2⟩)).mono ?_; rintro e w3 ⟨rfl, hO3, own1, S1, hM3⟩))
        have hts3 : TS bw bd w.heap.size (.int .i64 s.first) (.int .i64 bb) w3 := by assumption
        have k2 := hts3.1.2.2
        have hz3 := hts3.2.out.2
        clear hO3 hb2 HB2

        go_wp2
        go_ret
        exact ⟨rfl, (fin_stay _ _ _ hM3).out⟩
    · by_cases hL0 : L = 0
      · replace fin_stay := fin_stay (Or.inr (List.eq_nil_of_length_eq_zero (by rw [← HL.out]; exact hL0)))
        obtain rfl : K = 1 := by have := HK.out; omega
        subst hL0
        simp only [Nat.zero_mul, Nat.add_zero] at x0 x1
        clear hK1 i1 i2 i3 hLb
        by_cases htl : s.tl = []
        · have hM3 := HM0.out htl
          rw [htl]
          go_enter Tryz.func22, Tryz.ntmps22
          go_wp2
          go_ret
          exact ⟨rfl, (fin_stay _ _ _ hM3).out⟩
        · have htb : (!s.tl.isEmpty) = true := by simpa using htl
          rw [htb]
          go_enter Tryz.func22, Tryz.ntmps22
          go_wp2
          go_region_held3 (TS bw bd w.heap.size (.int .i64 s.first) (.int .i64 bb)) (first | with_reducible exact TS.drew (by assumption) | with_reducible exact TS.call (by assumption) (by assumption) | with_reducible exact TS.only (by assumption) hno hnsb (by assumption) | with_reducible assumption)
            (first | (go_at_call 28; refine (hnm _ (by first | exact hb1 | exact hb1.drew)).mono ?_; rintro e w2 ⟨rfl, hb2⟩; have HB2 : Hid (Below w.heap.size w w2 ∧ w.heap.size < w2.heap.size) := by first | exact ⟨hb1.trans (hb2.mono hb1.size), Nat.lt_of_lt_of_le hz1 hb2.size⟩ | exact ⟨hb1.drew.trans (hb2.mono hb1.drew.size), Nat.lt_of_lt_of_le hz1 hb2.size⟩) | (go_at_call 37; refine (hcut _ (by first | exact HB2.out | exact ⟨HB2.out.1.drew, HB2.out.2⟩)).mono ?_; rintro e w3 ⟨rfl, hO3, own1, S1, hM3⟩))
          have hts3 : TS bw bd w.heap.size (.int .i64 s.first) (.int .i64 bb) w3 := by assumption
          have k2 := hts3.1.2.2
          have hz3 := hts3.2.out.2
          clear hO3 hb2 HB2

          go_wp2
          go_ret
          exact ⟨rfl, (fin_stay _ _ _ hM3).out⟩
      · clear fin_stay
        by_cases htl : s.tl = []
        · obtain ⟨w3, hw3⟩ : ∃ w3, w3 = w.alloc (.cells #[.int .i64 s.first, .int .i64 bb] SegT) := ⟨_, rfl⟩
          have hM3 := HM0.out htl
          have hts3 := hbx
          rw [← hw3] at hM3 hts3
          obtain ⟨own1, hown1⟩ : ∃ own1, own1 = own := ⟨_, rfl⟩
          rw [show Mid w w3 own own bd bw most S S (.slice (some ⟨g, o * 2, none⟩) K c) a s nx = Mid w w3 own own1 bd bw most S S (.slice (some ⟨g, o * 2, none⟩) K c) a s nx by rw [hown1]] at hM3
          clear hown1
          have hz3 := hts3.2.out.2
          rw [htl]
          have hno1 := hM3.both.no
          have hnsb1 : ¬ own1 w.heap.size := fun h => by rcases hM3.sub _ h with h | h; exact hnsb h; omega
          have hrem := fun (W : World) (hb : Below w3.heap.size w3 W) => (hM3.below hb).remove hl hm (Nat.lt_of_lt_of_le hz3 hb.size)
          have hnm3 : ∀ W, Below w3.heap.size w3 W → Calls Tryz.prog 28 #[.int .i64 s.first] W fun e w' => e = .returned (.string (nt s.first)) ∧ Below W.heap.size W w' := fun W hb => nameOf_any _ (by omega) W (hM3.both.tab.below hb)
          have c2' := hM3.both.log.c2
          go_enter Tryz.func22, Tryz.ntmps22
          go_wp2
          rw [← hw3]
          clear hw3 hbx hb1 hz1 hnm hcut HM0
          go_region_held3 (TS bw bd w.heap.size (.int .i64 s.first) (.int .i64 bb)) (first | with_reducible exact TS.drew (by assumption) | with_reducible exact TS.call (by assumption) (by assumption) | with_reducible exact TS.only (by assumption) hno1 hnsb1 (by assumption) | with_reducible assumption)
            (first | (go_at_call 28; refine (hnm3 _ (by first | exact Below.refl _ _ | exact (Below.refl _ _).drew)).mono ?_; rintro e w4 ⟨rfl, hb4⟩; have HB4 : Hid (Below w3.heap.size w3 w4) := by first | exact hb4 | exact ((Below.refl _ _).drew).trans hb4) | (go_at_call 33; refine (hrem _ (by first | exact HB4.out | exact HB4.out.drew)).mono ?_; rintro e w5 ⟨rfl, hO5, own2, S2, hB5, hu5, hro5, hon5, hsub5, honly5⟩))
          have d2 := hB5.log.c2
          have y2 := hB5.log.fz 2
          have hlen5 := hB5.log.row.shape.len
          rw [ms_length, List.length_append, List.length_singleton] at hlen5
          have hLc : L ≤ c := by have := HL.out; omega
          clear hO5 hb4 HB4 hlen5
          go_wp2
          go_ret
          refine ⟨rfl, ?_⟩
          have hrr : SR w5 (.slice (some ⟨g, o * 2, none⟩) L c) (ms a) := by
            have h1 := hB5.log.row.shape.take L (by rw [ms_length, List.length_append, List.length_singleton, HL.out]; omega)
            have h2 : (ms (a ++ [s])).take L = ms a := by rw [ms_append]; exact List.take_left' (by rw [ms_length]; exact HL.out.symm)
            rw [h2] at h1
            exact Or.inr ⟨g, o, c, by rw [ms_length, HL.out], h1⟩
          have hop : opened (a ++ [s]) = a := by
            rw [opened_snoc, if_pos ⟨Classical.byContradiction fun h => hr (HRC.out.2 h), fun h => hL0 (by rw [HL.out, h]; rfl)⟩]
          rw [hop]
          exact ⟨own2, S2, _, hB5.segs hrr (fun g' hg' => hB5.noRow g' hg') hB5.tabRow, hu5, hro5, hon5, hsub5, fun g' hg' => hg', honly5.trans (Only.of_set _ (Or.inr rfl) _)⟩
        · have htb : (!s.tl.isEmpty) = true := by simpa using htl
          rw [htb]
          go_enter Tryz.func22, Tryz.ntmps22
          go_wp2
          go_region_held3 (TS bw bd w.heap.size (.int .i64 s.first) (.int .i64 bb)) (first | with_reducible exact TS.drew (by assumption) | with_reducible exact TS.call (by assumption) (by assumption) | with_reducible exact TS.only (by assumption) hno hnsb (by assumption) | with_reducible assumption)
            (first | (go_at_call 28; refine (hnm _ (by first | exact hb1 | exact hb1.drew)).mono ?_; rintro e w2 ⟨rfl, hb2⟩; have HB2 : Hid (Below w.heap.size w w2 ∧ w.heap.size < w2.heap.size) := by first | exact ⟨hb1.trans (hb2.mono hb1.size), Nat.lt_of_lt_of_le hz1 hb2.size⟩ | exact ⟨hb1.drew.trans (hb2.mono hb1.drew.size), Nat.lt_of_lt_of_le hz1 hb2.size⟩) | (go_at_call 37; refine (hcut _ (by first | exact HB2.out | exact ⟨HB2.out.1.drew, HB2.out.2⟩)).mono ?_; rintro e w3 ⟨rfl, hO3, own1, S1, hM3⟩))
          have hts3 : TS bw bd w.heap.size (.int .i64 s.first) (.int .i64 bb) w3 := by assumption
          have k2 := hts3.1.2.2
          have hz3 := hts3.2.out.2
          clear hO3 hb2 HB2

          have hno1 := hM3.both.no
          have hnsb1 : ¬ own1 w.heap.size := fun h => by rcases hM3.sub _ h with h | h; exact hnsb h; omega
          have hrem := fun (W : World) (hb : Below w3.heap.size w3 W) => (hM3.below hb).remove hl hm (Nat.lt_of_lt_of_le hz3 hb.size)
          have hnm3 : ∀ W, Below w3.heap.size w3 W → Calls Tryz.prog 28 #[.int .i64 s.first] W fun e w' => e = .returned (.string (nt s.first)) ∧ Below W.heap.size W w' := fun W hb => nameOf_any _ (by omega) W (hM3.both.tab.below hb)
          have c2' := hM3.both.log.c2
          clear hbx hb1 hz1 hnm hcut HM0
          go_wp2
          go_region_held3 (TS bw bd w.heap.size (.int .i64 s.first) (.int .i64 bb)) (first | with_reducible exact TS.drew (by assumption) | with_reducible exact TS.call (by assumption) (by assumption) | with_reducible exact TS.only (by assumption) hno1 hnsb1 (by assumption) | with_reducible assumption)
            (first | (go_at_call 28; refine (hnm3 _ (by first | exact Below.refl _ _ | exact (Below.refl _ _).drew)).mono ?_; rintro e w4 ⟨rfl, hb4⟩; have HB4 : Hid (Below w3.heap.size w3 w4) := by first | exact hb4 | exact ((Below.refl _ _).drew).trans hb4) | (go_at_call 33; refine (hrem _ (by first | exact HB4.out | exact HB4.out.drew)).mono ?_; rintro e w5 ⟨rfl, hO5, own2, S2, hB5, hu5, hro5, hon5, hsub5, honly5⟩))
          have d2 := hB5.log.c2
          have y2 := hB5.log.fz 2
          have hlen5 := hB5.log.row.shape.len
          rw [ms_length, List.length_append, List.length_singleton] at hlen5
          have hLc : L ≤ c := by have := HL.out; omega
          clear hO5 hb4 HB4 hlen5
          go_wp2
          go_ret
          refine ⟨rfl, ?_⟩
          have hrr : SR w5 (.slice (some ⟨g, o * 2, none⟩) L c) (ms a) := by
            have h1 := hB5.log.row.shape.take L (by rw [ms_length, List.length_append, List.length_singleton, HL.out]; omega)
            have h2 : (ms (a ++ [s])).take L = ms a := by rw [ms_append]; exact List.take_left' (by rw [ms_length]; exact HL.out.symm)
            rw [h2] at h1
            exact Or.inr ⟨g, o, c, by rw [ms_length, HL.out], h1⟩
          have hop : opened (a ++ [s]) = a := by
            rw [opened_snoc, if_pos ⟨Classical.byContradiction fun h => hr (HRC.out.2 h), fun h => hL0 (by rw [HL.out, h]; rfl)⟩]
          rw [hop]
          exact ⟨own2, S2, _, hB5.segs hrr (fun g' hg' => hB5.noRow g' hg') hB5.tabRow, hu5, hro5, hon5, hsub5, fun g' hg' => hg', honly5.trans (Only.of_set _ (Or.inr rfl) _)⟩

set_option maxRecDepth 100000 in
set_option maxHeartbeats 3200000 in
/-- a log is opened on a disk that is up: what lies there, made tidy -/
theorem Open_any {own : Nat → Prop} {bd most : Nat} {S : St} {l : List Sg} {n m : Nat} (w : World) (hD : DH w own bd S) (hu : Up S) (hT : Tab w) (hnT : ¬ own 0) (ho : On S l) (hl : Lg l n m) (h1 : 1 ≤ n) (hm : m ≤ 1048576) (hmo : 1 ≤ most) (hmo2 : most ≤ 65536) :
    Calls Tryz.prog 8 #[.pointer (some ⟨bd, 0, none⟩), .int .i64 most] w fun e w' => ∃ bw own' S' v', e = .returned (.tuple #[.pointer (some ⟨bw, 0, none⟩), .int .i64 0]) ∧ Both w' own' bd bw most S' v' (ms (opened l)) (nxAt l l.length) ∧ Up S' ∧ S'.room = S.room ∧ On S' (opened l) ∧ w.heap.size ≤ bw ∧ (∀ g, v'.ownBlock = some g → w.heap.size ≤ g) ∧ (∀ b, own' b → own b ∨ w.heap.size ≤ b) ∧ Only (plus own w.heap.size) w w' := by
  have hwi : ∀ W, Calls Tryz.prog 20 #[.int .i64 most, .int .i64 1, .int .i64 65536] W fun e w' => e = .returned (.bool true) ∧ W = w' := fun W => by
    refine (within_any most 1 65536 W).mono ?_
    rintro e w' ⟨rfl, rfl⟩
    have e1 : (1 : Int) ≤ (most : Int) := by omega
    have e2 : (most : Int) ≤ 65536 := by omega
    simp [e1, e2]
  obtain ⟨W1, hW1⟩ : ∃ W1, W1 = w.alloc (.cells #[.pointer (some ⟨bd, 0, none⟩), .int .i64 most, .slice none 0 0, .int .i64 1] WalT) := ⟨_, rfl⟩
  have hb1 : Below w.heap.size w W1 := by rw [hW1]; exact below_alloc1 _ _
  have hblk : W1.heap[w.heap.size]? = some (.cells (walC bd most (.slice none 0 0) 1) WalT (0, 0)) := by rw [hW1]; exact heap_alloc_new w _
  have hz1 : W1.heap.size = w.heap.size + 1 := by rw [hW1]; simp
  have hnb : ¬ own w.heap.size := fun h => by have := hD.old _ h; omega
  have hD1 := hD.below hb1
  have hW : WH W1 w.heap.size bd most (.slice none 0 0) [] 1 := ⟨hblk, SR.nil _⟩
  have hL := load_any W1 hD1 hnb hW (hT.below hb1) ho hl h1 hm
  go_enter Tryz.func8, Tryz.ntmps8
  go_wp2_with (first | (go_at_call 20; refine (hwi _).mono ?_; rintro e w1 ⟨rfl, rfl⟩))
  rw [← hW1]
  clear hW1
  refine hL.mono ?_
  rintro e w2 ⟨rfl, v, hW2, hvg, hg2⟩
  have hB2 : Both w2 own bd w.heap.size most S v (ms l) (nxAt l l.length) := by
    refine ⟨hD1.frame (fun k hk hok => hg2.block k hk fun e => by cases e; exact hnb hok) hg2.size, hW2, hnb, fun g hg h => ?_, Tab.grown (hT.below hb1) hW hg2, hnT, fun e => by have := hvg _ e; have := hT.lt; omega⟩
    have := hvg g hg
    have := hD.old g h
    omega
  have hO2 : Only (plus own w.heap.size) w w2 := (Only.of_below hb1).trans (Only.of_grown hg2 fun k e => by cases e; exact Or.inr (Nat.le_refl _))
  have hTd := tidy_any w2 hB2 hu ho hl hm
  have hz2 := hg2.size
  clear hL hwi
  go_wp2_with fail
  refine hTd.mono ?_
  rintro e w3 ⟨rfl, own3, S3, v3, hB3, hu3, hr3, hon3, hsub3, hv3, hO3⟩
  clear hTd
  go_wp2
  go_ret2
  refine ⟨_, own3, S3, v3, rfl, hB3, hu3, hr3, hon3, Nat.le_refl _, fun g hg => ?_, fun b hb => (hsub3 b hb).imp id fun h => by omega, hO2.trans (hO3.mono fun b _ hb => ?_)⟩
  · have := hvg g (hv3 g hg); omega
  · rcases hb with (hb | hb) | hb
    · exact Or.inl hb
    · exact Or.inr (by omega)
    · exact Or.inr (by omega)

end Go.Proofs.YtdlicndbdnfekaaGreatDoor.Wl
