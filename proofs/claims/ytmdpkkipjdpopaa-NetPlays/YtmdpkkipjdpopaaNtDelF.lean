/- Walks over package slices: DeleteFunc at letters and pairs. -/
import Derived.Test.YtmdpkkipjdpopaaNtDel
namespace Go.Proofs.Ytmdpkkipjdpopaa.Nk
open Go.RowKit Go.Joins Gk

/-- what a closure answers, whatever the row holds meanwhile -/
def AnswersG {α : Type} (g : Nat) (lb : Array Value) (val : α → Value) (p : α → Bool) (w : World) (row : Option Nat) : Prop :=
  ∀ W x, w.grownBy W row → Calls Try.prog g (#[val x] ++ lb) W fun e w' => e = .returned (.bool (p x)) ∧ Below W.heap.size W w'
theorem AnswersG.plain {α : Type} {g : Nat} {lb : Array Value} {val : α → Value} {p : α → Bool} {w : World} {row : Option Nat} (h : AnswersG g lb val p w row) : Answers g lb val p w := fun W x hb => h W x (grown_below hb row)

theorem idxI_cases {α : Type} (p : α → Bool) (l : List α) : (idxI p l = -1 ∧ ∀ x ∈ l, p x = false) ∨ ∃ i, ∃ h : i < l.length, idxI p l = i ∧ p l[i] = true ∧ ∀ x ∈ l.take i, p x = false := by
  unfold idxI
  cases h : l.findIdx? p with
  | none =>
    rw [List.findIdx?_eq_none_iff] at h
    exact Or.inl ⟨rfl, fun x hx => by simpa using h x hx⟩
  | some i =>
    rw [List.findIdx?_eq_some_iff_getElem] at h
    obtain ⟨h1, h2, h3⟩ := h
    refine Or.inr ⟨i, h1, rfl, h2, fun x hx => ?_⟩
    obtain ⟨j, hj, rfl⟩ := List.getElem_of_mem hx
    rw [List.length_take] at hj
    have := h3 j (by omega)
    simpa using this
theorem filter_all {α : Type} {p : α → Bool} {l : List α} (h : ∀ x ∈ l, p x = false) : l.filter (fun x => !p x) = l := List.filter_eq_self.2 fun x hx => by rw [h x hx]; rfl

/-- the list while DeleteFunc goes along it -/
structure Swept {α : Type} (p : α → Bool) (l l' : List α) (i j : Nat) : Prop where
  len : l'.length = l.length
  lo : l'.take i = (l.take j).filter (fun x => !p x)
  hi : l'.drop j = l.drop j
  lt : i < j
  le : j ≤ l.length
theorem Swept.start {α : Type} {p : α → Bool} {l : List α} {i : Nat} (h : i < l.length) (h1 : p l[i] = true) (h2 : ∀ x ∈ l.take i, p x = false) : Swept p l l i (i + 1) :=
  ⟨rfl, by rw [List.take_succ_eq_append_getElem h, List.filter_append, filter_all h2]; simp [h1], rfl, by omega, by omega⟩
theorem Swept.at {α : Type} {p : α → Bool} {l l' : List α} {i j : Nat} (h : Swept p l l' i j) (hj : j < l.length) : l'[j]'(by rw [h.len]; exact hj) = l[j] := by
  have := congrArg (·[0]?) h.hi
  simp only [List.getElem?_drop, Nat.add_zero] at this
  rw [List.getElem?_eq_getElem hj, List.getElem?_eq_getElem (by rw [h.len]; exact hj)] at this
  exact Option.some.inj this
theorem Swept.skip {α : Type} {p : α → Bool} {l l' : List α} {i j : Nat} (h : Swept p l l' i j) (hj : j < l.length) (hp : p l[j] = true) : Swept p l l' i (j + 1) :=
  ⟨h.len, by rw [h.lo, List.take_succ_eq_append_getElem hj, List.filter_append]; simp [hp], by rw [← List.drop_drop, h.hi, List.drop_drop], by have := h.lt; omega, by omega⟩
theorem Swept.keep {α : Type} {p : α → Bool} {l l' : List α} {i j : Nat} (h : Swept p l l' i j) (hj : j < l.length) (hp : p l[j] = false) : Swept p l (l'.set i l[j]) (i + 1) (j + 1) := by
  have hlt := h.lt
  have hil : i < l'.length := by rw [h.len]; omega
  refine ⟨by rw [List.length_set, h.len], ?_, ?_, by omega, by omega⟩
  · rw [List.take_succ_eq_append_getElem hj, List.filter_append, ← h.lo, List.take_succ_eq_append_getElem (by rw [List.length_set]; exact hil)]
    rw [List.take_set_of_le (by omega)]
    simp [hp]
  · rw [List.drop_set_of_lt (by omega), ← List.drop_drop, h.hi, List.drop_drop]

set_option maxHeartbeats 4000000 in
set_option maxRecDepth 100000 in
theorem delFuncL_any (p : Lt → Bool) (fn : Nat) (lb : Array Value) (eg : ∀ args w, (callFunc fn args).run Try.prog w = .ok (.enter fn args) w) (v : Value) (l : List Lt) (w : World) (hr : Row w lenc LetT 4 v l) (hn : l.length ≤ 4611686018427387904) (hp : AnswersG fn lb lval p w v.ownBlock) :
    Calls Try.prog 42 #[v, .func (.func fn) #[] lb] w fun e w' => ∃ v', e = .returned v' ∧ Row w' lenc LetT 4 v' (l.filter fun x => !p x) ∧ v'.ownBlock = v.ownBlock ∧ w.grownBy w' v.ownBlock := by
  obtain ⟨a, cap, rfl⟩ := hr.slice
  have hI := indexL_any p fn lb eg a cap l w hr.lies hn hp.plain
  rcases idxI_cases p l with ⟨e1, hall⟩ | ⟨i0, hi0, e1, hpi, hall⟩
  · rw [e1] at hI
    have HF := hide (filter_all hall)
    clear hall hp e1
    go_enter Try.func42, Try.ntmps42
    go_wp2_with (go_at_call 49; refine hI.mono ?_; rintro e w' ⟨rfl, hb'⟩)
    go_ret
    exact ⟨_, rfl, by rw [HF.out]; exact hr.below hb', rfl, grown_below hb' _⟩
  · rw [e1] at hI
    obtain ⟨g, cap', cur, ev, hg, hc1, hc2, hc3, hc4⟩ := own_form hr (by omega)
    cases ev
    unfold maxLen at hc2
    have HS0 := hide (Swept.start hi0 hpi hall)
    have hne1 : ((i0 : Int) == -1) = false := beq_eq_false_iff_ne.2 (by omega)
    obtain ⟨n, hnn⟩ : ∃ n, n = l.length := ⟨_, rfl⟩
    rw [← hnn] at hr hI hc1 hn hi0 hp ⊢
    have HN := hide hnn
    clear hall e1 hg hc3 hc4 hnn hpi
    go_enter Try.func42, Try.ntmps42
    go_wp2_with (go_at_call 49; refine hI.mono ?_; rintro e w0 ⟨rfl, hb0⟩)
    go_loopw [5, 6, 7] (fun s5 s6 _ wr => ∃ (i j : Nat) (l' : List Lt), s5 = .int .i64 i ∧ s6 = .int .i64 j ∧ w.grownBy wr (some g) ∧ Row wr lenc LetT 4 (.slice (some ⟨g, 0, none⟩) n cap) l' ∧ i < j ∧ j ≤ n ∧ Hid (Swept p l l' i j)) (fun _ s6 _ _ => n - (intOf s6).toNat)
    case atStart => exact ⟨i0, i0 + 1, l, rfl, by go_num, grown_below hb0 _, hr.below hb0, by omega, by omega, HS0⟩
    case round =>
      obtain ⟨i, j, l', rfl, rfl, hgr, hrow, hij, hjn, HS⟩ := hrel
      have hlen : l'.length = n := by rw [HS.out.len, HN.out]
      by_cases hlt : j < n
      · obtain ⟨hgl, hc⟩ := hrow.celled lenc_len j (by omega)
        have hxe : l'[j] = l[j]'(by rw [← HN.out]; exact hlt) := HS.out.at _
        have c0 := hc 0 _ rfl
        have c1 := hc 1 _ rfl
        obtain ⟨c2, c3⟩ := And.intro (hc 2 _ rfl) (hc 3 _ rfl)
        rw [Nat.add_zero] at c0
        clear hc
        obtain ⟨x, hx⟩ : ∃ x, l'[j] = x := ⟨_, rfl⟩
        rw [hx] at c0 c1
        rw [hx] at c2 c3
        rw [hx] at hxe
        have HX := hide hxe
        have i1 : (0 : Int) ≤ (j : Int) := by omega
        have i2 : (j : Int) < (n : Int) := by omega
        have i3 : (0 : Int) ≤ (i : Int) := by omega
        have i4 : (i : Int) < (n : Int) := by omega
        clear hx hxe
        go_wp2_with fail
        obtain ⟨W, hW⟩ : ∃ W, W = wr.alloc (.cells #[.int .i64 x.id, .int .i64 x.fr, .int .i64 x.to, .string x.body] LetT) := ⟨_, rfl⟩
        rw [← hW]
        have hbW : Below wr.heap.size wr W := by rw [hW]; exact below_alloc1 _ _
        have hA : W.heap[wr.heap.size]? = some (.cells #[.int .i64 x.id, .int .i64 x.fr, .int .i64 x.to, .string x.body] LetT (0, 0)) := by rw [hW]; exact heap_alloc_new wr _
        clear hW
        have hgW := grown_trans hgr (grown_below hbW _)
        have hcall := hp W x hgW
        cases hq : p x with
        | true =>
          rw [hq] at hcall
          go_wp2_with (go_at_fn fn; refine hcall.mono ?_; rintro e w2 ⟨rfl, hb2⟩)
          go_roundw
          case rel => exact ⟨i, j + 1, l', rfl, by go_num, grown_trans hgW (grown_below hb2 _), (hrow.below hbW).below hb2, by omega, by omega, HS.out.skip (by rw [← HN.out]; exact hlt) (by rw [← HX.out]; exact hq)⟩
          case measure => simp [intOf]; omega
        | false =>
          rw [hq] at hcall
          have hrW := hrow.below hbW
          have hgW2 := Nat.lt_of_lt_of_le hgl hbW.size
          have hAl := (Array.getElem?_eq_some_iff.1 hA).1
          go_wp2_with (go_at_fn fn; refine hcall.mono ?_; rintro e w2 ⟨rfl, hb2⟩; have hA2 := (hb2.block wr.heap.size hAl).trans hA; have hr2 := hrW.below hb2; have he := fun t u (hu : (#[.int .i64 x.id, .int .i64 x.fr, .int .i64 x.to, .string x.body] : Array Value)[t]? = some u) => (cell_of_block hA2 t).trans hu; have hf := (hr2.celled lenc_len i (by omega)).2; have hz := fun o (ho : o < cap * 4) => (hr2.there o ho).2; have e0 := he 0 _ rfl; have e1 := he 1 _ rfl; obtain ⟨e2, e3⟩ := And.intro (he 2 _ rfl) (he 3 _ rfl); have f0 := hf 0 _ rfl; have f1 := hf 1 _ rfl; obtain ⟨f2, f3⟩ := And.intro (hf 2 _ rfl) (hf 3 _ rfl); rw [Nat.add_zero] at f0; have z0 := hz (i * 4) (by omega); have z1 := hz (i * 4 + 1) (by omega); obtain ⟨z2, z3⟩ := And.intro (hz (i * 4 + 2) (by omega)) (hz (i * 4 + 3) (by omega)); clear he hf hz)
          go_roundw
          case rel =>
            refine ⟨i + 1, j + 1, l'.set i x, by go_num, by go_num, grown_trans (grown_trans hgW (grown_below hb2 _)) (grown_setCells g (lenc x) (i * 4) w2), hr2.set lenc_len i (by omega) x, by omega, by omega, ?_⟩
            have := HS.out.keep (by rw [← HN.out]; exact hlt) (by rw [← HX.out]; exact hq)
            rw [← HX.out] at this
            exact this
          case measure => simp [intOf]; omega
      · obtain rfl : j = n := by omega
        have htk := hrow.take lenc_len i (by omega)
        have hti : (l'.take i).length = i := by rw [List.length_take]; omega
        have hzs : (Value.cells noL).size = 4 := rfl
        have hcl : ∀ ty, (Builtin.clear_ #[45] ty #[.slice (some ⟨g, i * 4, none⟩) (j - i) (cap - i)]).run Try.prog wr = .ok (.tuple #[]) (wr.setCells g (i * 4) (Builtin.zeroCells (Value.cells noL) (j - i)).toList) := fun ty =>
          run_clear_row wr _ _ ty noL Try.underlying45 zero_let (by decide) g _ _ _ (by omega) (fun t ht => hrow.there _ (by rw [hzs] at ht; omega))
        have HF := hide (htk.tail (i * 4) (Builtin.zeroCells (Value.cells noL) (j - i)).toList (by rw [hti]; exact Nat.le_refl _) (by rw [Array.length_toList, size_zeroCells, hzs]; omega))
        have HL := hide (show l'.take i = l.filter (fun x => !p x) by rw [HS.out.lo, HN.out, List.take_length])
        have hic : i < cap := by omega
        have i3 : (0 : Int) ≤ (i : Int) := by omega
        have i4 : (i : Int) ≤ (j : Int) := by omega
        have i5 : (i : Int) ≤ (cap : Int) := by omega
        clear htk hti hp
        go_wp2
        go_ret
        exact ⟨_, rfl, by rw [← HL.out]; exact HF.out, rfl, grown_trans hgr (grown_setCells g _ _ _)⟩
set_option maxHeartbeats 4000000 in
set_option maxRecDepth 100000 in
theorem delFuncP_any (p : Pr → Bool) (fn : Nat) (lb : Array Value) (eg : ∀ args w, (callFunc fn args).run Try.prog w = .ok (.enter fn args) w) (v : Value) (l : List Pr) (w : World) (hr : Row w penc PairT 2 v l) (hn : l.length ≤ 4611686018427387904) (hp : AnswersG fn lb pval p w v.ownBlock) :
    Calls Try.prog 40 #[v, .func (.func fn) #[] lb] w fun e w' => ∃ v', e = .returned v' ∧ Row w' penc PairT 2 v' (l.filter fun x => !p x) ∧ v'.ownBlock = v.ownBlock ∧ w.grownBy w' v.ownBlock := by
  obtain ⟨a, cap, rfl⟩ := hr.slice
  have hI := indexP_any p fn lb eg a cap l w hr.lies hn hp.plain
  rcases idxI_cases p l with ⟨e1, hall⟩ | ⟨i0, hi0, e1, hpi, hall⟩
  · rw [e1] at hI
    have HF := hide (filter_all hall)
    clear hall hp e1
    go_enter Try.func40, Try.ntmps40
    go_wp2_with (go_at_call 54; refine hI.mono ?_; rintro e w' ⟨rfl, hb'⟩)
    go_ret
    exact ⟨_, rfl, by rw [HF.out]; exact hr.below hb', rfl, grown_below hb' _⟩
  · rw [e1] at hI
    obtain ⟨g, cap', cur, ev, hg, hc1, hc2, hc3, hc4⟩ := own_form hr (by omega)
    cases ev
    unfold maxLen at hc2
    have HS0 := hide (Swept.start hi0 hpi hall)
    have hne1 : ((i0 : Int) == -1) = false := beq_eq_false_iff_ne.2 (by omega)
    obtain ⟨n, hnn⟩ : ∃ n, n = l.length := ⟨_, rfl⟩
    rw [← hnn] at hr hI hc1 hn hi0 hp ⊢
    have HN := hide hnn
    clear hall e1 hg hc3 hc4 hnn hpi
    go_enter Try.func40, Try.ntmps40
    go_wp2_with (go_at_call 54; refine hI.mono ?_; rintro e w0 ⟨rfl, hb0⟩)
    go_loopw [5, 6, 7] (fun s5 s6 _ wr => ∃ (i j : Nat) (l' : List Pr), s5 = .int .i64 i ∧ s6 = .int .i64 j ∧ w.grownBy wr (some g) ∧ Row wr penc PairT 2 (.slice (some ⟨g, 0, none⟩) n cap) l' ∧ i < j ∧ j ≤ n ∧ Hid (Swept p l l' i j)) (fun _ s6 _ _ => n - (intOf s6).toNat)
    case atStart => exact ⟨i0, i0 + 1, l, rfl, by go_num, grown_below hb0 _, hr.below hb0, by omega, by omega, HS0⟩
    case round =>
      obtain ⟨i, j, l', rfl, rfl, hgr, hrow, hij, hjn, HS⟩ := hrel
      have hlen : l'.length = n := by rw [HS.out.len, HN.out]
      by_cases hlt : j < n
      · obtain ⟨hgl, hc⟩ := hrow.celled penc_len j (by omega)
        have hxe : l'[j] = l[j]'(by rw [← HN.out]; exact hlt) := HS.out.at _
        have c0 := hc 0 _ rfl
        have c1 := hc 1 _ rfl
        skip
        rw [Nat.add_zero] at c0
        clear hc
        obtain ⟨x, hx⟩ : ∃ x, l'[j] = x := ⟨_, rfl⟩
        rw [hx] at c0 c1
        skip
        rw [hx] at hxe
        have HX := hide hxe
        have i1 : (0 : Int) ≤ (j : Int) := by omega
        have i2 : (j : Int) < (n : Int) := by omega
        have i3 : (0 : Int) ≤ (i : Int) := by omega
        have i4 : (i : Int) < (n : Int) := by omega
        clear hx hxe
        go_wp2_with fail
        obtain ⟨W, hW⟩ : ∃ W, W = wr.alloc (.cells #[.int .i64 x.1, .int .i64 x.2] PairT) := ⟨_, rfl⟩
        rw [← hW]
        have hbW : Below wr.heap.size wr W := by rw [hW]; exact below_alloc1 _ _
        have hA : W.heap[wr.heap.size]? = some (.cells #[.int .i64 x.1, .int .i64 x.2] PairT (0, 0)) := by rw [hW]; exact heap_alloc_new wr _
        clear hW
        have hgW := grown_trans hgr (grown_below hbW _)
        have hcall := hp W x hgW
        cases hq : p x with
        | true =>
          rw [hq] at hcall
          go_wp2_with (go_at_fn fn; refine hcall.mono ?_; rintro e w2 ⟨rfl, hb2⟩)
          go_roundw
          case rel => exact ⟨i, j + 1, l', rfl, by go_num, grown_trans hgW (grown_below hb2 _), (hrow.below hbW).below hb2, by omega, by omega, HS.out.skip (by rw [← HN.out]; exact hlt) (by rw [← HX.out]; exact hq)⟩
          case measure => simp [intOf]; omega
        | false =>
          rw [hq] at hcall
          have hrW := hrow.below hbW
          have hgW2 := Nat.lt_of_lt_of_le hgl hbW.size
          have hAl := (Array.getElem?_eq_some_iff.1 hA).1
          go_wp2_with (go_at_fn fn; refine hcall.mono ?_; rintro e w2 ⟨rfl, hb2⟩; have hA2 := (hb2.block wr.heap.size hAl).trans hA; have hr2 := hrW.below hb2; have he := fun t u (hu : (#[.int .i64 x.1, .int .i64 x.2] : Array Value)[t]? = some u) => (cell_of_block hA2 t).trans hu; have hf := (hr2.celled penc_len i (by omega)).2; have hz := fun o (ho : o < cap * 2) => (hr2.there o ho).2; have e0 := he 0 _ rfl; have e1 := he 1 _ rfl; skip; have f0 := hf 0 _ rfl; have f1 := hf 1 _ rfl; skip; rw [Nat.add_zero] at f0; have z0 := hz (i * 2) (by omega); have z1 := hz (i * 2 + 1) (by omega); skip; clear he hf hz)
          go_roundw
          case rel =>
            refine ⟨i + 1, j + 1, l'.set i x, by go_num, by go_num, grown_trans (grown_trans hgW (grown_below hb2 _)) (grown_setCells g (penc x) (i * 2) w2), hr2.set penc_len i (by omega) x, by omega, by omega, ?_⟩
            have := HS.out.keep (by rw [← HN.out]; exact hlt) (by rw [← HX.out]; exact hq)
            rw [← HX.out] at this
            exact this
          case measure => simp [intOf]; omega
      · obtain rfl : j = n := by omega
        have htk := hrow.take penc_len i (by omega)
        have hti : (l'.take i).length = i := by rw [List.length_take]; omega
        have hzs : (Value.cells (.agg #[.int .i64 0, .int .i64 0])).size = 2 := rfl
        have hcl : ∀ ty, (Builtin.clear_ #[60] ty #[.slice (some ⟨g, i * 2, none⟩) (j - i) (cap - i)]).run Try.prog wr = .ok (.tuple #[]) (wr.setCells g (i * 2) (Builtin.zeroCells (Value.cells (.agg #[.int .i64 0, .int .i64 0])) (j - i)).toList) := fun ty =>
          run_clear_row wr _ _ ty (.agg #[.int .i64 0, .int .i64 0]) Try.underlying60 zero_pair (by decide) g _ _ _ (by omega) (fun t ht => hrow.there _ (by rw [hzs] at ht; omega))
        have HF := hide (htk.tail (i * 2) (Builtin.zeroCells (Value.cells (.agg #[.int .i64 0, .int .i64 0])) (j - i)).toList (by rw [hti]; exact Nat.le_refl _) (by rw [Array.length_toList, size_zeroCells, hzs]; omega))
        have HL := hide (show l'.take i = l.filter (fun x => !p x) by rw [HS.out.lo, HN.out, List.take_length])
        have hic : i < cap := by omega
        have i3 : (0 : Int) ≤ (i : Int) := by omega
        have i4 : (i : Int) ≤ (j : Int) := by omega
        have i5 : (i : Int) ≤ (cap : Int) := by omega
        clear htk hti hp
        go_wp2
        go_ret
        exact ⟨_, rfl, by rw [← HL.out]; exact HF.out, rfl, grown_trans hgr (grown_setCells g _ _ _)⟩

end Go.Proofs.Ytmdpkkipjdpopaa.Nk
