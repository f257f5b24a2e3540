/- Walks over skylarkref02: Sync, Names. -/
import Derived.Test.YtokcknfbanpjjaaEAppend
namespace Go.Proofs.Ytokcknfbanpjjaa.Dk
open Go.RowKit Go.Maps Go.Joins Gk

theorem rc_setField {α : Type} {enc : α → List Value} {k : Nat} (hk : ∀ x, (enc x).length = k) : ∀ (l : List α) (i : Nat) (hi : i < l.length) (j : Nat) (_ : j < k) (x : α) (u : Value) (_ : enc x = (enc l[i]).set j u), rc enc (l.set i x) = (rc enc l).set (i * k + j) u
  | [], _, hi, _, _, _, _, _ => by simp at hi
  | y :: r, 0, _, j, hj, x, u, hx => by
    rw [List.set_cons_zero, rc_cons, rc_cons, Nat.zero_mul, Nat.zero_add, List.set_append_left _ _ (by rw [hk]; exact hj), hx]; rfl
  | y :: r, i + 1, hi, j, hj, x, u, hx => by
    have hi' : i < r.length := by simpa using hi
    rw [List.set_cons_succ, rc_cons, rc_cons, rc_setField hk r i hi' j hj x u hx, List.set_append_right _ _ (by rw [hk, Nat.add_mul]; omega), hk]
    congr 2
    rw [Nat.add_mul]; omega
/-- one cell of an element is another one -/
theorem Row.setField {α : Type} {enc : α → List Value} {k : Nat} {w : World} {e : Nat} {g n cap : Nat} {l : List α} (h : Row w enc e k (.slice (some ⟨g, 0, none⟩) n cap) l) (hk : ∀ x, (enc x).length = k) (i : Nat) (hi : i < l.length) (j : Nat) (hj : j < k) (x : α) (u : Value) (hx : enc x = (enc l[i]).set j u) : Row (w.setCell ⟨g, i * k + j, none⟩ u) enc e k (.slice (some ⟨g, 0, none⟩) n cap) (l.set i x) := by
  rcases h.2 with ⟨e1, h0⟩ | ⟨g, cap', cur, e1, hb, hg, h1, h2, h3, h4⟩
  · cases e1
  · cases e1
    refine ⟨rc_length hk _, Or.inr ⟨g, cap, _, by rw [List.length_set], hb, block_setCell hg _, by rw [List.length_set]; exact h1, h2, by simpa using h3, ?_⟩⟩
    rw [rc_setField hk l i hi j hj x u hx, List.length_set, ← h4, Array.toList_setIfInBounds, List.take_set]

/-- the first k files are safe -/
def syncK (l : Fls) (k : Nat) : Fls := syncL (l.take k) ++ l.drop k
theorem syncK_len (l : Fls) (k : Nat) : (syncK l k).length = l.length := by simp [syncK, syncL]; omega
theorem syncK_zero (l : Fls) : syncK l 0 = l := by simp [syncK, syncL]
theorem syncK_all (l : Fls) : syncK l l.length = syncL l := by simp [syncK]
theorem syncK_at (l : Fls) (k : Nat) (hk : k < l.length) : (syncK l k)[k]'(by rw [syncK_len]; exact hk) = l[k] := by
  simp [syncK, syncL, Nat.min_eq_left (Nat.le_of_lt hk)]
theorem syncK_succ (l : Fls) (k : Nat) (hk : k < l.length) : (syncK l k).set k (l[k].1, ⟨l[k].2.data, l[k].2.data.length⟩) = syncK l (k + 1) := by
  unfold syncK
  rw [List.set_append_right _ _ (by simp [syncL]; omega), List.take_succ_eq_append_getElem hk, syncL, syncL, List.map_append, List.append_assoc, List.length_map, List.length_take, Nat.min_eq_left (Nat.le_of_lt hk), Nat.sub_self]
  congr 1
  rw [List.drop_eq_getElem_cons hk]; rfl

/-- one cell of a disk's row -/
theorem RHeldL.setField {w : World} {own : Nat → Prop} {br room : Nat} {l : Fls} {g n cap : Nat} {fused : Bool} {left : Int} {down : Bool} (h : RHeldL w own br room l (.slice (some ⟨g, 0, none⟩) n cap) fused left down) (i : Nat) (hi : i < l.length) (j : Nat) (hj : j < 3) (x : Bs × Fil) (u : Value) (hx : rcell x = (rcell l[i]).set j u) : RHeldL (w.setCell ⟨g, i * 3 + j, none⟩ u) own br room (l.set i x) (.slice (some ⟨g, 0, none⟩) n cap) fused left down :=
  ⟨(Below.heap_setCell w ⟨g, i * 3 + j, none⟩ u br (Ne.symm (h.rowNe rfl))).trans h.block, Row.setField h.rrow rcell_len i hi j hj x u hx, h.ownD, h.ownR⟩

set_option maxHeartbeats 1600000 in
theorem rSync_any {own : Nat → Prop} {br : Nat} {S : St} (w : World) (h : RHeld w own br S) :
    Calls Try.prog 15 #[.pointer (some ⟨br, 0, none⟩)] w fun e w' => e = .returned (.int .i64 S.sync.1) ∧ RHeld w' own br S.sync.2 ∧ Only own w w' := by
  obtain ⟨v, fused, left, hL, hF, hok⟩ := h
  have HOK := hide hok.sync
  have hmany := hok.many
  have hu2 : ∀ p ∈ S.files, p.2.data.length ≤ 262144 := fun p hp => by
    have h3 := le_sumL' (fun f : Fil => f.data.length) hp
    have h4 := hok.sum
    have h5 := hok.room
    simp only [used] at *
    omega
  have hv : S.sync = S.do syncL := rfl
  rw [hv] at HOK ⊢
  clear hv
  cases ht : (taken S.fuse S.down).1
  · rw [do_no ht] at HOK ⊢
    have hR := ready_at ht hL hF
    clear hL
    go_enter Try.func15, Try.ntmps15
    go_wp2_with fail
    refine (hR _ (Below.refl _ _)).mono ?_
    rintro e w2 ⟨left', rfl, hL2, hF2, ho2, -⟩
    clear hR
    go_wp2
    go_ret
    exact ⟨rfl, ⟨v, fused, left', hL2, hF2, HOK.out⟩, ho2⟩
  · rw [do_yes ht] at HOK ⊢
    have hR := ready_at ht hL hF
    obtain ⟨av, cv, rfl⟩ := own_slice hL.row
    clear hL
    go_enter Try.func15, Try.ntmps15
    go_wp2_with fail
    refine (hR _ (Below.refl _ _)).mono ?_
    rintro e w2 ⟨left', rfl, hL2, hF2, ho2, -⟩
    have hL2' : RHeldL w2 own br S.take.2.room S.files (.slice av S.files.length cv) fused left' S.take.2.down := hL2
    clear hR hL2
    go_wp2
    go_loopw [3] (fun i wr => ∃ k : Nat, k ≤ S.files.length ∧ i = .int .i64 k ∧ RHeldL wr own br S.take.2.room (syncK S.files k) (.slice av S.files.length cv) fused left' S.take.2.down ∧ Only own w wr) (fun i _ => S.files.length - (intOf i).toNat)
    case atStart => exact ⟨0, by omega, rfl, by rw [syncK_zero]; exact hL2', ho2⟩
    case round =>
      obtain ⟨k, hk, rfl, hh, ho⟩ := hrel
      have c1 := hh.c1
      by_cases hlt : k < S.files.length
      · have i1 : (0 : Int) ≤ (k : Int) := by omega
        have i2 : (k : Int) < (S.files.length : Int) := by omega
        have hkl : k < (syncK S.files k).length := by rw [syncK_len]; exact hlt
        obtain ⟨g, cap', eg, r0, r1, r2⟩ := hh.at k hkl
        rw [syncK_len] at eg
        cases eg
        have hat := syncK_at S.files k hlt
        rw [hat] at r0 r1 r2
        have hsz : (txt S.files[k].2.data).size = S.files[k].2.data.length := by rw [Lib.size_eq, txt_list]
        have hb := hu2 _ (List.getElem_mem hlt)
        have hs := hh.setField k hkl 2 (by omega) (S.files[k].1, ⟨S.files[k].2.data, S.files[k].2.data.length⟩) (.int .i64 (S.files[k].2.data.length : Nat)) (by rw [hat]; rfl)
        rw [syncK_succ S.files k hlt] at hs
        have zg : wr.frozen? ⟨g, k * 3 + 2, none⟩ = false := by
          obtain ⟨a, c, cur, e, hg, _⟩ := Gk.own_form hh.row (by omega)
          rw [syncK_len] at e
          cases e
          exact unfrozen_of_block hg _
        have HS := hide (hs.below (Below.refl _ _).drew)
        have HO := hide ((ho.trans (Only.of_set wr (a := ⟨g, k * 3 + 2, none⟩) (hh.ownR g rfl) (.int .i64 (S.files[k].2.data.length : Nat)))).trans (Only.of_below (Below.refl _ _).drew))
        generalize S.files[k].2.data.length = n at *
        generalize txt S.files[k].2.data = dt at *
        have hgb := hh.rowNe (g := g) rfl
        clear hat hs hh ho r0 hL2'
        have hbne : br ≠ g := Ne.symm hgb
        go_wp2_with fail
        go_region_law (fail)
        all_goals
          go_wp2
          go_roundw
          case rel => exact ⟨k + 1, by omega, by go_num, HS.out, HO.out⟩
          case measure => simp [intOf]; omega
      · obtain rfl : k = S.files.length := by omega
        rw [syncK_all] at hh
        go_wp2
        go_ret
        exact ⟨rfl, ⟨_, fused, left', hh, hF2, HOK.out⟩, ho⟩

def senc (x : ByteArray) : List Value := [.string x]
theorem senc_len (x : ByteArray) : (senc x).length = 1 := rfl
theorem senc_one (x : ByteArray) : ∀ u ∈ senc x, u.oneCell' = true := by intro u hu; simp only [senc, List.mem_singleton] at hu; subst hu; rfl
theorem rc_senc (l : List ByteArray) : rc senc l = tcells l := by
  induction l with
  | nil => rfl
  | cons x r ih => rw [rc_cons, ih]; rfl

set_option maxHeartbeats 1600000 in
theorem rNames_any {own : Nat → Prop} {br : Nat} {S : St} (w : World) (h : RHeld w own br S) :
    Calls Try.prog 28 #[.pointer (some ⟨br, 0, none⟩)] w fun e w' => ∃ v, e = .returned v ∧ w'.ownsRow w.heap.size 9 1 v (namesOf S.files).length (tcells (namesOf S.files)) ∧ Below w.heap.size w w' := by
  obtain ⟨v, fused, left, hL, hF, hok⟩ := h
  obtain ⟨av, cv, rfl⟩ := own_slice hL.row
  have hmany := hok.many
  have hnl : (namesOf S.files).length = S.files.length := by simp [namesOf]
  have HL := hide hL
  clear hL
  go_enter Try.func28, Try.ntmps28
  go_wp2
  go_loopw [3, 4] (fun ov i wr => ∃ k : Nat, k ≤ S.files.length ∧ i = .int .i64 k ∧ wr.ownsRow w.heap.size 9 1 ov (namesOf (S.files.take k)).length (rc senc (namesOf (S.files.take k))) ∧ Below w.heap.size w wr) (fun _ i _ => S.files.length - (intOf i).toNat)
  case atStart => exact ⟨0, by omega, rfl, World.ownsRow_nil _ _ _ _, Below.refl _ _⟩
  case round =>
    obtain ⟨k, hk, rfl, hown, hbel⟩ := hrel
    obtain ⟨ao, co, rfl⟩ := Gk.own_slice hown
    have c1 := (HL.out.below hbel).c1
    by_cases hlt : k < S.files.length
    · have i1 : (0 : Int) ≤ (k : Int) := by omega
      have i2 : (k : Int) < (S.files.length : Int) := by omega
      obtain ⟨g, cap', eg, r0, r1, r2⟩ := (HL.out.below hbel).at k hlt
      cases eg
      have hlt' : (namesOf (S.files.take k)).length ≤ 64 := by simp [namesOf]; omega
      have HN := hide (show namesOf (S.files.take (k + 1)) = namesOf (S.files.take k) ++ [txt S.files[k].1] by rw [List.take_succ_eq_append_getElem hlt, namesOf, namesOf, List.map_append]; rfl)
      have HO := hide hown
      have hup := fun g' hg' => (hown.lt g' hg').1
      have hz := hbel.size
      obtain ⟨l1, hl1⟩ : ∃ l1, namesOf (S.files.take (k + 1)) = l1 := ⟨_, rfl⟩
      rw [hl1] at HN
      have HL1 := hide hl1
      clear hl1 hown
      generalize namesOf (S.files.take k) = l0 at *
      generalize txt S.files[k].1 = nm at *
      go_wp2_with (at_builtin; refine wpList_push (enc := senc) (k := 1) rfl (.tmp 14) (.tmp 23) 52 rfl 9 (.string ⟨#[]⟩) 16 Try.underlying52 str_info rfl (by decide) senc_len senc_one w.heap.size _ l0 rfl (Gk.own_below HO.out (below_alloc1 wr _)) wr.heap.size nm rfl (heap_alloc_new wr _) ?c1 ?c2 ?c3 ?_)
      case c1 => omega
      case c2 => omega
      case c3 => simp; omega
      intro v4 w4 ho4 hg4 _
      have hB4 : Below w.heap.size w w4 := (hbel.alloc hz _).grown hg4 (by simp; omega) (fun k hk => hup k hk)
      have ho4' : w4.ownsRow w.heap.size 9 1 v4 l1.length (rc senc l1) := by
        rw [HN.out, List.length_append]; exact ho4
      clear ho4 hg4
      go_wp2
      go_roundw
      case rel => exact ⟨k + 1, by omega, by go_num, by rw [HL1.out]; exact ho4', hB4⟩
      case measure => simp [intOf]; omega
    · obtain rfl : k = S.files.length := by omega
      rw [List.take_length, rc_senc] at hown
      go_wp2
      go_ret
      rw [List.take_length]
      exact ⟨_, rfl, hown, hbel⟩

end Go.Proofs.Ytokcknfbanpjjaa.Dk
