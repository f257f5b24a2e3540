/- The document's answer for rings: Moved. -/
import Derived.Test.YtdgfbkkjeogigaaDoorRfPts
import Derived.Test.YtdgfbkkjeogigaaDoorGArgsT
import Derived.Shelf.SlSortCmp.QuietGrown
namespace Go.Proofs.YtdgfbkkjeogigaaDoor.Rf
open Go.RowKit Go.Joins Gk Rg

set_option maxHeartbeats 3200000 in
set_option maxRecDepth 100000 in
theorem find_same (a : Option Addr) (cap : Nat) (l : List Pt) (hne : 0 < l.length) (hn : l.length ≤ 1024) (key : ByteArray) (hs : key.size ≤ 9223372036854775807) (w : World) (hr : Row w penc2 PoT 2 (.slice a l.length cap) l) :
    Calls Tryd.prog 47 #[.slice a l.length cap, .string key] w fun e w' => e = .returned (.int .i64 (fnd (hashL key.data.toList) l)) ∧ w' = w := by
  have mixed : Tryd.prog.follows .mixedOrders = true := by kernel_rfl
  have hh := fun W => hash_ref key W hs
  obtain ⟨h, hH⟩ : ∃ h, hashL key.data.toList = h := ⟨_, rfl⟩
  rw [hH] at hh ⊢
  clear hH
  obtain ⟨g, cap', e0, hg, hc0⟩ := hr.at penc2_len 0 hne
  cases e0
  go_enter Tryd.func47, Tryd.ntmps47
  go_wp2_with fail
  refine (hh w).mono ?_
  rintro e w1 ⟨rfl, hw1⟩
  obtain rfl := hw1.symm
  go_wp2
  go_loopw [6] (fun iv wr => ∃ k : Nat, k ≤ fstHi h l ∧ iv = .int .i64 k ∧ wr = w) (fun iv _ => l.length + 1 - (intOf iv).toNat)
  case atStart => exact ⟨0, Nat.zero_le _, rfl, rfl⟩
  case round =>
    obtain ⟨k, hk, rfl, rfl⟩ := hrel
    have hfl := fstHi_le h l
    by_cases hkl : k < l.length
    · have j1 : (k : Int) < (l.length : Int) := by omega
      obtain ⟨hgk, hck⟩ := hr.celled penc2_len k hkl
      have d0 := hck 0 _ rfl
      have d1 := hck 1 _ rfl
      rw [Nat.add_zero] at d0
      clear hck
      by_cases hki : k < fstHi h l
      · have hlo := fstHi_lo h l k hkl hki
        generalize hp l[k] = x at d0 hlo
        have hled : ¬ h ≤ x := by omega
        go_wp2_with fail
        exact ⟨⟨k + 1, hki, step_i k, trivial⟩, step_n k (l.length + 1) (by omega)⟩
      · have hFe : fstHi h l = k := by omega
        have HF := hide (fnd_at hkl hFe)
        have hhi := fstHi_hi h l (by omega)
        have hhi' : h ≤ hp l[k] := by subst hFe; exact hhi
        generalize hp l[k] = x at d0 hhi'
        clear hhi hFe
        go_wp2_with fail
        go_ret
        exact ⟨by rw [HF.out]; rfl, rfl⟩
    · have j1 : ¬ (k : Int) < (l.length : Int) := by omega
      have HF := hide (fnd_top hne (show fstHi h l = l.length by omega))
      obtain ⟨hgk, hck⟩ := hr.celled penc2_len 0 hne
      have d1 := hck 1 _ rfl
      clear hck
      go_wp2_with fail
      go_ret
      exact ⟨by rw [HF.out]; rfl, rfl⟩


/-- the numbers, from i on, of the keys whose chain is another one, by two lists of points -/
def mvf (l l' : List Pt) : Nat → List ByteArray → List Int
  | _, [] => []
  | i, k :: r => if fnd (hashL k.data.toList) l = fnd (hashL k.data.toList) l' then mvf l l' (i + 1) r else (i : Int) :: mvf l l' (i + 1) r
theorem mvf_snoc (ws ws' : List Pt) (i : Nat) (l : List ByteArray) (k : ByteArray) : mvf ws ws' i (l ++ [k]) = mvf ws ws' i l ++ (if fnd (hashL k.data.toList) ws = fnd (hashL k.data.toList) ws' then [] else [((i + l.length : Nat) : Int)]) := by
  induction l generalizing i with
  | nil => simp [mvf]
  | cons x r ih =>
    simp only [List.cons_append, mvf, ih, List.length_cons, show i + 1 + r.length = i + (r.length + 1) by omega]
    split <;> simp
theorem mvf_len (ws ws' : List Pt) (i : Nat) (l : List ByteArray) : (mvf ws ws' i l).length ≤ l.length := by
  induction l generalizing i with
  | nil => simp [mvf]
  | cons x r ih => simp only [mvf]; have := ih (i + 1); split <;> simp <;> omega

def FindC (wr : World) (key : ByteArray) (v : Value) (o : Int) : Prop := ∀ (n : Nat) (os : Array Obj), Calls Tryd.prog 47 #[v, .string key] (Go.Sort.grow (wr.drewN n) os) fun e w' => e = .returned (.int .i64 o) ∧ ∃ q os', w' = Go.Sort.grow ((Go.Sort.grow (wr.drewN n) os).drewN q) os'
theorem FindC.use {wr : World} {key : ByteArray} {v : Value} {o : Int} (k : FindC wr key v o) (n : Nat) (os : Array Obj) : Calls Tryd.prog 47 #[v, .string key] (Go.Sort.grow (wr.drewN n) os) fun e w' => e = .returned (.int .i64 o) ∧ ∃ q os', w' = Go.Sort.grow ((Go.Sort.grow (wr.drewN n) os).drewN q) os' := k n os
theorem FindC.of {wr : World} {key : ByteArray} {a : Option Addr} {cap : Nat} {l : List Pt} (hne : 0 < l.length) (hn : l.length ≤ 1024) (hs : key.size ≤ 9223372036854775807) (hr : Row wr penc2 PoT 2 (.slice a l.length cap) l) : FindC wr key (.slice a l.length cap) (fnd (hashL key.data.toList) l) := by
  intro n os
  refine (find_same a cap l hne hn key hs _ (hr.below (Gr.grow (Gr.refl wr) n os).below)).mono ?_
  rintro e w' ⟨rfl, rfl⟩
  exact ⟨rfl, 0, #[], by simp [Go.Sort.grow, World.drewN]⟩

set_option maxHeartbeats 6400000 in
set_option maxRecDepth 100000 in
theorem moved_ref (a a' a'' : Option Addr) (cap cap' cap'' : Nat) (ws ws' : List Int) (ks : List ByteArray) (hM : May ws) (hM' : May ws') (w : World) (hl : Lies w ienc a ws) (hl' : Lies w ienc a' ws') (hk : Lies w tenc a'' ks) (hz : ∀ k ∈ ks, k.size ≤ 9223372036854775807) (hn : ks.length ≤ 17592186044416) :
    Calls Tryd.prog 20 #[.slice a ws.length cap, .slice a' ws'.length cap', .slice a'' ks.length cap''] w fun e w' => ∃ v, e = .returned (.tuple #[v, .int .i64 0]) ∧ w'.ownsRow w.heap.size IntT 1 v (mvf (insAll (pts ws)) (insAll (pts ws')) 0 ks).length (rc ienc (mvf (insAll (pts ws)) (insAll (pts ws')) 0 ks)) ∧ Below w.heap.size w w' := by
  have mixed : Tryd.prog.follows .mixedOrders = true := by kernel_rfl
  have hC := may_ref a cap ws w hl (by have := hM.n2; omega)
  rw [mayB_iff.2 hM] at hC
  have hC' := may_ref a' cap' ws' w hl' (by have := hM'.n2; omega)
  rw [mayB_iff.2 hM'] at hC'
  have hA := all_ref a cap ws hM w hl
  have hA' := fun W (hb : Below w.heap.size w W) => all_ref a' cap' ws' hM' W (hl'.below hb)
  have HL := hide (insAll_pos hM)
  have HL' := hide (insAll_pos hM')
  generalize insAll (pts ws) = l1 at hA HL ⊢
  generalize insAll (pts ws') = l2 at hA' HL' ⊢
  go_enter Tryd.func20, Tryd.ntmps20
  go_wp2_with fail
  refine hC.mono ?_
  rintro e w1 ⟨rfl, hw1⟩
  obtain rfl := hw1.symm
  go_wp2_with fail
  refine hC'.mono ?_
  rintro e w1 ⟨rfl, hw1⟩
  obtain rfl := hw1.symm
  clear hC hC'
  go_wp2_with fail
  refine hA.mono ?_
  rintro e w1 ⟨v1, rfl, ho1, hb1⟩
  go_wp2_with fail
  refine (hA' w1 hb1).mono ?_
  rintro e w2 ⟨v2, rfl, ho2, hb2⟩
  obtain ⟨a1, c1, rfl⟩ := own_slice ho1
  obtain ⟨a2, c2, rfl⟩ := own_slice ho2
  have R1 := hide (own_mono (own_below ho1 hb2) (Nat.zero_le _) : Row w2 penc2 PoT 2 (.slice a1 l1.length c1) l1)
  have R2 := hide (own_mono ho2 (Nat.zero_le _) : Row w2 penc2 PoT 2 (.slice a2 l2.length c2) l2)
  have Bw2 := hb1.trans (hb2.mono hb1.size)
  have HK := hide (hk.below Bw2)
  have HZ := hide hz
  have hn' : ks.length ≤ 9223372036854775807 := by omega
  clear ho1 ho2 hb1 hb2 hA hA' hl hl' hk hz
  go_wp2
  go_loopw [10, 11] (fun v iv wr => ∃ (i : Nat) (o : List Int), i ≤ ks.length ∧ iv = .int .i64 i ∧ (∃ n1, n1 = o.length ∧ wr.ownsRow w2.heap.size IntT 1 v n1 (rc ienc o)) ∧ Below w2.heap.size w2 wr ∧ Hid (o = mvf l1 l2 0 (ks.take i))) (fun _ iv _ => ks.length - (intOf iv).toNat)
  case atStart => exact ⟨0, [], Nat.zero_le _, rfl, ⟨0, rfl, World.ownsRow_nil _ _ _ _⟩, Below.refl _ _, rfl⟩
  case round =>
    obtain ⟨i, o, hi, rfl, ⟨n1, rfl, hown⟩, hbel, HE⟩ := hrel
    obtain ⟨am, cm, rfl⟩ := own_slice hown
    have HOW := hide hown
    clear hown
    by_cases hlt : i < ks.length
    · have i1 : (i : Int) < (ks.length : Int) := by omega
      obtain ⟨bk, off, rfl, hbl, hcc⟩ := (HK.out.below hbel).at tenc_len i hlt
      have c0 := hcc 0 _ rfl
      rw [Nat.mul_one, Nat.add_zero] at c0
      have HT := hide (List.take_succ_eq_append_getElem hlt)
      have hzk := HZ.out ks[i] (List.getElem_mem hlt)
      generalize ks[i] = key at c0 HT hzk
      have HMV := hide (mvf_snoc l1 l2 0 (ks.take i) key)
      have HLT := hide (show (ks.take i).length = i by rw [List.length_take]; omega)
      have hO1 := FindC.of HL.out.1 HL.out.2 hzk (Row.below R1.out hbel)
      have hO2 := FindC.of HL'.out.1 HL'.out.2 hzk (Row.below R2.out hbel)
      generalize fnd (hashL key.data.toList) l1 = o1 at hO1 HMV
      generalize fnd (hashL key.data.toList) l2 = o2 at hO2 HMV
      have u0 := fun n os => cell_grown (w := wr) (a := ⟨bk, off + i, none⟩) (v := .string key) hbl c0 n os
      clear hcc hzk
      by_cases ho : o1 = o2
      · have HME := hide (show o = mvf l1 l2 0 (ks.take (i + 1)) by rw [HT.out, HMV.out, if_pos ho, List.append_nil, HE.out])
        subst ho
        go_wp2_with fail
        go_quiet_grown (first | (go_at_call 47; with_reducible refine Calls.grown_of (FindC.use (by assumption) _ _)))
        have hG := (Gr.grow (Gr.refl wr) nq osq).below
        generalize Go.Sort.grow (wr.drewN nq) osq = w4 at hG ⊢
        go_wp2
        go_roundw
        case rel => exact ⟨i + 1, o, by omega, by go_num, ⟨_, rfl, own_below HOW.out hG⟩, hbel.trans (hG.mono hbel.size), HME.out⟩
        case measure => simp [intOf]; omega
      · have HME := hide (show o ++ [(i : Int)] = mvf l1 l2 0 (ks.take (i + 1)) by rw [HT.out, HMV.out, if_neg ho, HLT.out, Nat.zero_add, HE.out])
        have hll : o.length ≤ i := by rw [HE.out]; exact Nat.le_trans (mvf_len _ _ _ _) (by rw [List.length_take]; omega)
        go_wp2_with fail
        go_quiet_grown (first | (go_at_call 47; with_reducible refine Calls.grown_of (FindC.use (by assumption) _ _)))
        have hG := (Gr.grow (Gr.refl wr) nq osq).below
        generalize Go.Sort.grow (wr.drewN nq) osq = w4 at hG ⊢
        have hB4 := hbel.trans (hG.mono hbel.size)
        have HO4 := hide (own_below HOW.out hG)
        have hz4 := hB4.size
        clear HOW hG u0 hO1 hO2 c0
        go_wp2_with (at_builtin; refine wpList_push (enc := ienc) (k := 1) rfl (.tmp 43) (.tmp 45) 22 rfl IntT (.int .i64 0) 8 Tryd.underlying22 int_info rfl (by decide) ienc_len ienc_one w2.heap.size _ o rfl (own_below HO4.out (below_alloc1 w4 _)) w4.heap.size (i : Int) rfl (heap_alloc_new w4 _) (by omega) (by omega) (by simp; omega) ?_; intro v5 w5 hown5 hg5 hat5; obtain ⟨a5, c5, rfl⟩ := own_slice hown5; have H5 := hide hown5; have B5 := hide ((hB4.alloc hz4 _).grown hg5 (by simp; omega) (fun k e => (HO4.out.lt k e).1)); simp only [List.length_append, List.length_cons, List.length_nil, Nat.zero_add] at H5; clear hown5 hg5 hat5)
        go_roundw
        case rel => exact ⟨i + 1, o ++ [(i : Int)], by omega, by go_num, ⟨_, by simp, H5.out⟩, B5.out, HME.out⟩
        case measure => simp [intOf]; omega
    · have i1 : ¬ (i : Int) < (ks.length : Int) := by omega
      have HEE := hide (show o = mvf l1 l2 0 ks by rw [HE.out, List.take_of_length_le (by omega)])
      go_wp2
      go_ret2
      exact ⟨_, rfl, by rw [← HEE.out]; exact own_mono HOW.out Bw2.size, Bw2.trans (hbel.mono Bw2.size)⟩

set_option maxHeartbeats 3200000 in
theorem moved_ref_no (a a' : Option Addr) (cap cap' : Nat) (v : Value) (ws ws' : List Int) (hM : ¬ (May ws ∧ May ws')) (w : World) (hl : Lies w ienc a ws) (hl' : Lies w ienc a' ws') (hn : ws.length ≤ 9223372036854775807) (hn' : ws'.length ≤ 9223372036854775807) :
    Calls Tryd.prog 20 #[.slice a ws.length cap, .slice a' ws'.length cap', v] w fun e w' => e = .returned (.tuple #[.slice none 0 0, .int .i64 1]) ∧ w' = w := by
  have hC := may_ref a cap ws w hl hn
  have hC' := may_ref a' cap' ws' w hl' hn'
  by_cases h1 : May ws
  · rw [mayB_iff.2 h1] at hC
    rw [mayB_no (fun h2 => hM ⟨h1, h2⟩)] at hC'
    go_enter Tryd.func20, Tryd.ntmps20
    go_wp2_with fail
    refine hC.mono ?_
    rintro e w1 ⟨rfl, hw1⟩
    obtain rfl := hw1.symm
    go_wp2_with fail
    refine hC'.mono ?_
    rintro e w1 ⟨rfl, hw1⟩
    obtain rfl := hw1.symm
    go_wp2
    go_ret2
    exact ⟨rfl, rfl⟩
  · rw [mayB_no h1] at hC
    go_enter Tryd.func20, Tryd.ntmps20
    go_wp2_with fail
    refine hC.mono ?_
    rintro e w1 ⟨rfl, hw1⟩
    obtain rfl := hw1.symm
    go_wp2
    go_ret2
    exact ⟨rfl, rfl⟩

end Go.Proofs.YtdgfbkkjeogigaaDoor.Rf
