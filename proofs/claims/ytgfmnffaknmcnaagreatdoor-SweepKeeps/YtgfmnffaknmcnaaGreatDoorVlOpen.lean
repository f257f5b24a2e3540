/- The walk over vals: Open, on a disk that is up. -/
import Derived.Test.YtgfmnffaknmcnaaGreatDoorVlPut
namespace Go.Proofs.YtgfmnffaknmcnaaGreatDoor.Vl
open Go.RowKit Go.Joins
open Go.Proofs.YtgfmnffaknmcnaaGreatDoor.Dk (Bs Fil Fls St St.Ok Held Only Rising named getL getL_some getL_none getL_of_mem getL_put mem_putL putL fileOr)

/-- a disk that is up, without a fuse -/
structure Up (S : St) : Prop where
  fuse : S.fuse = -1
  down : S.down = false
theorem Up.take {S : St} (h : Up S) : S.take = (true, S) := by
  obtain ⟨room, files, fuse, down⟩ := S
  have h1 := h.fuse; have h2 := h.down
  simp only at h1 h2
  subst h1 h2
  rfl
theorem Up.do {S : St} (h : Up S) (g : Fls → Fls) : S.do g = (0, { S with files := g S.files }) := by
  unfold St.do; rw [h.take]; rfl
theorem getL_put_ne {α : Type} {l : List (Bs × α)} (hr : Rising l) {k k' : Bs} {a : α} (h : k' ≠ k) : getL k' (putL k a l) = getL k' l := by
  cases hg : getL k' l with
  | some b => exact getL_of_mem hr.put (mem_putL.2 (Or.inr ⟨getL_some hg, h⟩))
  | none =>
    cases hp : getL k' (putL k a l) with
    | none => rfl
    | some b =>
      rcases mem_putL.1 (getL_some hp) with e | ⟨h1, _⟩
      · cases e; exact absurd rfl h
      · exact absurd rfl (getL_none hg _ h1)
/-- a file without what stands behind its last whole frame -/
def tidyF (f : Fil) : Fil := if (frames ⟨f.data.toArray⟩).2 < f.data.length then ⟨f.data.take (frames ⟨f.data.toArray⟩).2, min f.safe (frames ⟨f.data.toArray⟩).2⟩ else f
theorem tidyR_up {S : St} (hu : Up S) (hr : Rising S.files) {n : Nat} (hn : n ∈ nums S) {f : Fil} (hf : getL (nm n) S.files = some f) : (tidyR S n).1 = 0 ∧ Up (tidyR S n).2 ∧ (tidyR S n).2.room = S.room ∧ ∀ k, getL k (tidyR S n).2.files = if k = nm n then some (tidyF f) else getL k S.files := by
  have hb := nums_bound hn
  have hd : dat S n = f.data := dat_get (by omega) hf
  have hle := (frames_end ⟨f.data.toArray⟩).2.1
  have hsz : (ByteArray.mk f.data.toArray).size = f.data.length := by show Array.size _ = _; simp
  unfold tidyR tidyF
  rw [hd]
  by_cases hq : (frames ⟨f.data.toArray⟩).2 < f.data.length
  · rw [if_pos hq, if_pos hq]
    have hc : S.cut (nm n) ((frames ⟨f.data.toArray⟩).2 : Int) = (0, { S with files := putL (nm n) ⟨f.data.take (frames ⟨f.data.toArray⟩).2, min f.safe (frames ⟨f.data.toArray⟩).2⟩ S.files }) := by
      unfold St.cut
      rw [if_neg (by simp [nm_named (show n ≤ 1048577 by omega)]), hf]
      simp only
      rw [if_neg (by omega), hu.do, Int.toNat_natCast]
    rw [hc]
    refine ⟨rfl, ⟨hu.fuse, hu.down⟩, rfl, fun k => ?_⟩
    by_cases hk : k = nm n
    · subst hk; rw [if_pos rfl]; exact getL_put hr _ _
    · rw [if_neg hk]; exact getL_put_ne hr hk
  · rw [if_neg hq, if_neg hq]
    refine ⟨rfl, hu, rfl, fun k => ?_⟩
    by_cases hk : k = nm n
    · subst hk; rw [if_pos rfl, hf]
    · rw [if_neg hk]
theorem nums_same {S S' : St} (hr : Rising S.files) (hr' : Rising S'.files) (h : ∀ n, (getL (nm n) S'.files).isSome = (getL (nm n) S.files).isSome) : nums S' = nums S := by
  refine rise_ext (nums_rise hr') (nums_rise hr) fun n => ?_
  have key : ∀ T : St, Rising T.files → (n ∈ nums T ↔ 1 ≤ n ∧ n ≤ 1048576 ∧ (getL (nm n) T.files).isSome = true) := fun T hT => by
    constructor
    · intro hn
      obtain ⟨f, hf⟩ := nums_get hT hn
      exact ⟨(nums_bound hn).1, (nums_bound hn).2, by rw [hf]; rfl⟩
    · rintro ⟨h1, h2, h3⟩
      obtain ⟨f, hf⟩ := Option.isSome_iff_exists.1 h3
      exact nums_of_get h1 h2 hf
  rw [key S' hr', key S hr, h n]
/-- the files, one by one -/
def opn : List Nat → St → St
  | [], S => S
  | n :: r, S => opn r (tidyR S n).2
theorem opn_snoc (n : Nat) : ∀ (l : List Nat) (S : St), opn (l ++ [n]) S = (tidyR (opn l S) n).2
  | [], _ => rfl
  | _ :: l, _ => opn_snoc n l _
/-- what is known of the disk, up to there -/
structure Opd (S S' : St) (l : List Nat) : Prop where
  up : Up S'
  room : S'.room = S.room
  nums : nums S' = nums S
  here : ∀ n ∈ l, getL (nm n) S'.files = (getL (nm n) S.files).map tidyF
  else_ : ∀ k, (∀ n ∈ l, k ≠ nm n) → getL k S'.files = getL k S.files
theorem Opd.nil {S : St} (h : Up S) : Opd S S [] := ⟨h, rfl, rfl, by simp, fun _ _ => rfl⟩
theorem Opd.next {S S' : St} {l : List Nat} {n : Nat} (h : Opd S S' l) (hr' : Rising S'.files) (hr2 : Rising (tidyR S' n).2.files) (hn : n ∈ Vl.nums S) (hl : n ∉ l) : (tidyR S' n).1 = 0 ∧ Opd S (tidyR S' n).2 (l ++ [n]) := by
  have hn' : n ∈ Vl.nums S' := by rw [h.nums]; exact hn
  obtain ⟨f, hf⟩ := nums_get hr' hn'
  obtain ⟨h1, h2, h3, h4⟩ := tidyR_up h.up hr' hn' hf
  have hne : ∀ m ∈ l, nm m ≠ nm n := fun m hm e => hl (by rw [← nm_inj e]; exact hm)
  have hfS : getL (nm n) S.files = some f := by rw [← h.else_ (nm n) fun m hm e => hne m hm e.symm]; exact hf
  refine ⟨h1, h2, h3.trans h.room, ?_, fun m hm => ?_, fun k hk => ?_⟩
  · rw [← h.nums]
    refine nums_same hr' hr2 fun m => ?_
    rw [h4]
    by_cases e : nm m = nm n
    · rw [if_pos e, e, hf]; rfl
    · rw [if_neg e]
  · rw [h4]
    rcases List.mem_append.1 hm with hm | hm
    · rw [if_neg (hne m hm)]; exact h.here m hm
    · rw [List.mem_singleton.1 hm, if_pos rfl, hfS]; rfl
  · rw [h4, if_neg (hk n (by simp))]
    exact h.else_ k fun m hm => hk m (List.mem_append_left _ hm)
/-- the greatest so far -/
def topL (l : List Nat) : Nat := l.getLast?.getD 0
theorem topL_snoc (l : List Nat) (n : Nat) : topL (l ++ [n]) = n := by rw [topL, List.getLast?_concat]; rfl

section
variable {w0 w w' : World} {own : Nat → Prop} {bd most : Nat} {S : St}
set_option maxRecDepth 100000 in
set_option maxHeartbeats 6400000 in
theorem Open_ok (hD : Held w own bd S) (hold : ∀ b, own b → w0.heap.size ≤ b ∧ b < w.heap.size) (hE : Env w0) (hbase : Below w0.heap.size w0 w) (hu : Up S) (hm1 : 1 ≤ most) (hm2 : most ≤ 65536) :
    Calls Tryz.prog 8 #[.pointer (some ⟨bd, 0, none⟩), .int .i64 most] w fun e w' => ∃ bv own' S', e = .returned (.tuple #[.pointer (some ⟨bv, 0, none⟩), .int .i64 0]) ∧ VH w0 w' own' bd bv most (topL (nums S)) S' ∧ Opd S S' (nums S) ∧ w.heap.size ≤ bv ∧ Stp own (wi own' bv) w w' := by
  have hmf := makeFunc_run
  have m1 : decide ((most : Int) < 1) = false := by simp; omega
  have m2 : decide ((65536 : Int) < (most : Int)) = false := by simp; omega
  obtain ⟨w1, hw1⟩ : ∃ w1, w1 = w.alloc (.cells #[.int .i64 0] ErrT) := ⟨_, rfl⟩
  obtain ⟨w2, hw2⟩ : ∃ w2, w2 = w1.alloc (.cells (valC bd most 0) ValsT) := ⟨_, rfl⟩
  have hb1 : Below w.heap.size w w1 := by rw [hw1]; exact below_alloc1 _ _
  have hz1 : w1.heap.size = w.heap.size + 1 := by rw [hw1]; simp
  have hb2 : Below w1.heap.size w1 w2 := by rw [hw2]; exact below_alloc1 _ _
  have hz2 : w2.heap.size = w.heap.size + 2 := by rw [hw2]; simp; omega
  have hbb := hb1.trans (hb2.mono hb1.size)
  have hEB : w2.heap[w.heap.size]? = some (.cells #[.int .i64 0] ErrT (0, 0)) := keepBlk hb2 (by rw [hw1]; exact heap_alloc_new _ _)
  have hVB : w2.heap[w.heap.size + 1]? = some (.cells (valC bd most 0) ValsT (0, 0)) := by rw [hw2, ← hz1]; exact heap_alloc_new _ _
  have hge := hbase.size
  have h2 : VH w0 w2 own bd (w.heap.size + 1) most 0 S := ⟨hD.below hbb, fun b hb => ⟨(hold b hb).1, by have := (hold b hb).2; omega⟩, hVB, fun hb => by have := (hold _ hb).2; omega, by omega, hE, hbase.trans (hbb.mono hge)⟩
  have hF := Files_any h2
  have HV2 := hide h2
  have hl64 : (nums S).length ≤ 64 := Nat.le_trans nums_len hD.ok.many
  have HRS := hide (nums_rise hD.ok.rising)
  have HOK := hide hD.ok
  obtain ⟨L, hL⟩ : ∃ L, L = nums S := ⟨_, rfl⟩
  rw [← hL] at hF HRS hl64 ⊢
  have HNS := hide hL
  have hw2' : w2 = w1.alloc (.cells #[.pointer (some ⟨bd, 0, none⟩), .int .i64 most, .int .i64 0] ValsT) := hw2
  clear hL h2 hD
  go_enter_defers Tryz.func8, Tryz.ntmps8
  go_wp2_with fail
  refine (refuse_no 5 _).mono ?_
  rintro e w3 ⟨rfl, rfl⟩
  go_wp2_with fail
  refine (refuse_no 1 _).mono ?_
  rintro e w3 ⟨rfl, rfl⟩
  go_wp2_with fail
  rw [← hw1, ← hw2']
  refine hF.mono ?_
  rintro e w4 ⟨v, rfl, hown, hb4⟩
  obtain ⟨a, cap, rfl⟩ := Gk.own_slice hown
  have h4 := HV2.out.below hb4
  have hEB4 := keepBlk hb4 hEB
  have HNO : Hid (∀ g, (Value.slice a L.length cap).ownBlock = some g → w2.heap.size ≤ g ∧ ¬ wi own (w.heap.size + 1) g ∧ g ≠ w.heap.size) := fun g hg => by
    have h1 := (hown.lt g hg).1
    refine ⟨h1, fun e => ?_, by omega⟩
    rcases e with e | e
    · have := (hold g e).2; omega
    · omega
  have HST : Hid (Stp own (wi own (w.heap.size + 1)) w w4) := ⟨fun b hb => hb.imp id fun e => by omega, Only.of_below (hbb.trans (hb4.mono hbb.size))⟩
  have HS0 := hide (Opd.nil hu)
  have hz4 := hb4.size
  have HEZ : Hid (¬ wi own (w.heap.size + 1) w.heap.size) := fun e => by
    rcases e with e | e
    · have := (hold _ e).2; omega
    · omega
  clear hF hw1 hw2 hw2' hb1 hb2 hbb hEB hVB hu hold hmf m1 m2
  go_wp2
  go_loopw [8, 27] (fun _ i wr => ∃ (k : Nat) (own' : Nat → Prop) (S' : St), k ≤ L.length ∧ i = .int .i64 k ∧ VH w0 wr own' bd (w.heap.size + 1) most (topL (L.take k)) S' ∧ Opd S S' (L.take k) ∧ Stp own (wi own' (w.heap.size + 1)) w wr ∧ wr.heap[w.heap.size]? = some (.cells #[.int .i64 0] ErrT (0, 0)) ∧ ¬ wi own' (w.heap.size + 1) w.heap.size ∧ wr.ownsRow w2.heap.size IntT 1 (.slice a L.length cap) L.length (Gk.rc nE L) ∧ (∀ g, (Value.slice a L.length cap).ownBlock = some g → ¬ wi own' (w.heap.size + 1) g)) (fun _ i _ => L.length - (intOf i).toNat)
  case atStart => exact ⟨0, own, S, by omega, rfl, h4, HS0.out, HST.out, hEB4, HEZ.out, hown, fun g hg => (HNO.out g hg).2.1⟩
  case round =>
    obtain ⟨k, own', S', hk, rfl, hV, hOp, hSt, hEb, hEn, hRow, hRn⟩ := hrel
    by_cases hlt : k < L.length
    · have hLi : Gk.Lies wr nE a L := Gk.Row.lies (k := 1) (e := IntT) (n := L.length) (cap := cap) (Gk.own_mono hRow (Nat.zero_le _))
      obtain ⟨b, off, rfl, hblt, hc⟩ := hLi.at nE_len k hlt
      have c0 := hc 0 _ rfl
      rw [Nat.mul_one, Nat.add_zero] at c0
      have hmem : L[k] ∈ nums S := by rw [← HNS.out]; exact List.getElem_mem hlt
      have hmem' : L[k] ∈ nums S' := by rw [hOp.nums]; exact hmem
      have hnin : L[k] ∉ L.take k := fun hm => by
        obtain ⟨j, hj, e⟩ := List.getElem_of_mem hm
        rw [List.length_take] at hj
        rw [List.getElem_take] at e
        have := (List.pairwise_iff_getElem.1 HRS.out) j k (by omega) hlt (by omega)
        omega
      have hTd := tidy_any hV hmem'
      have HTk := hide (List.take_succ_eq_append_getElem hlt)
      generalize L[k] = n at *
      have i1 : (0 : Int) ≤ (k : Int) := by omega
      have i2 : (k : Int) < (L.length : Int) := by omega
      have HOp := hide hOp
      have HSt := hide hSt
      have HV := hide hV
      have HRow := hide hRow
      have HRn := hide hRn
      have HMM := hide (And.intro hmem hnin)
      clear hc hLi hOp hSt hV hRow hRn hmem' hmem hnin h4 hown hEB4
      go_wp2_with fail
      refine hTd.mono ?_
      rintro e w5 ⟨hcode, own5, hV5, hSt5⟩
      have hnx := HOp.out.next HV.out.ok.rising hV5.ok.rising HMM.out.1 HMM.out.2
      have he : e = .returned (.tuple #[]) := by
        rcases hcode with h | h
        · exact h.2
        · exact absurd hnx.1 h.1
      subst he
      have hr5 := hSt5.row HRow.out HRn.out
      have hE5 := hSt5.block (Array.getElem?_eq_some_iff.1 hEb).1 hEn
      have h6 := hV5.topped n
      have c2 := hV5.c2
      have z2 := hV5.fz 2
      have HH6 := hide h6
      have hV5l := hV5.lt
      clear hTd hcode c0
      go_wp2
      obtain ⟨w6, hw6⟩ : ∃ w6, w6 = w5.setCell ⟨w.heap.size + 1, 2, none⟩ (.int .i64 n) := ⟨_, rfl⟩
      have h6 := HH6.out
      have hE6 : w6.heap[w.heap.size]? = some (.cells #[.int .i64 0] ErrT (0, 0)) := by rw [hw6]; exact (Below.heap_setCell _ _ _ w.heap.size (by show w.heap.size ≠ w.heap.size + 1; omega)).trans (hE5.1.trans hEb)
      rw [← hw6] at h6 ⊢
      have hr6 := h6.2.row hr5.1 hr5.2
      clear hw6
      go_roundw
      case rel => exact ⟨k + 1, own5, _, by omega, by go_num, by rw [HTk.out, topL_snoc]; exact h6.1, by rw [HTk.out]; exact hnx.2, (HSt.out.trans hSt5).trans h6.2, hE6, hE5.2, hr6.1, hr6.2⟩
      case measure => simp [intOf]; omega
    · obtain rfl : k = L.length := by omega
      rw [List.take_length] at hV hOp
      have e0 := cell_one hEb
      have e1 := unfrozen_of_block hEb 0
      have HOp := hide hOp
      have HSt := hide hSt
      have HV := hide hV
      clear hOp hSt hV hRow hRn h4 hown hEB4
      go_wp2
      have ho : ¬ own' w.heap.size := fun e => hEn (Or.inl e)
      have hne : w.heap.size ≠ w.heap.size + 1 := by omega
      have d8 : (wr.setCell ⟨w.heap.size, 0, none⟩ (.int .i64 0)).heap[w.heap.size]? = some (.cells #[.int .i64 0] ErrT (0, 0)) := by rw [block_setCell hEb]; rfl
      have hV8 := HV.out.set ho hne hge 0 (.int .i64 0)
      have hO8 := only_sets HSt.out.only (Or.inr (Nat.le_refl _)) 0 (.int .i64 0)
      generalize wr.setCell ⟨w.heap.size, 0, none⟩ (.int .i64 0) = w8 at *
      refine leaves_cons (f := 34) (args := #[.pointer (some ⟨w.heap.size, 0, none⟩)]) (by simp) (by simp [go_sem]) ?_
      refine (open_idle ⟨w.heap.size, 0, none⟩ 0 _ (cell_one d8) (unfrozen_of_block d8 0)).mono ?_
      rintro e u' w9 ⟨rfl, rfl, rfl⟩
      have d9 : (w8.setCell ⟨w.heap.size, 0, none⟩ (.int .i64 0)).heap[w.heap.size]? = some (.cells #[.int .i64 0] ErrT (0, 0)) := by rw [block_setCell d8]; rfl
      have hV9 := hV8.set ho hne hge 0 (.int .i64 0)
      have hO9 := only_sets hO8 (Or.inr (Nat.le_refl _)) 0 (.int .i64 0)
      generalize w8.setCell ⟨w.heap.size, 0, none⟩ (.int .i64 0) = w9 at *
      have r0 := cell_one d9
      simp [Leaves, settle, results, Tryz.results8, go_sem, r0]
      exact ⟨_, _, hV9, HOp.out, HSt.out.sub, hO9⟩
end

end Go.Proofs.YtgfmnffaknmcnaaGreatDoor.Vl
