/- Walks over ring.go: Moved, Points. -/
import Derived.Test.YtcmdglmcmifflaaDoorRgOwn
namespace Go.Proofs.YtcmdglmcmifflaaDoor.Rg
open Go.RowKit Go.Joins Gk

theorem ienc_one' (x : Int) : ∀ u ∈ ienc x, u.oneCell' = true := by intro u hu; simp only [ienc, List.mem_singleton] at hu; subst hu; rfl
/-- the numbers, from i on, of the keys whose chain is another one -/
def mvd (ws ws' : List Int) : Nat → List ByteArray → List Int
  | _, [] => []
  | i, k :: r => if ow ws (hashL k.data.toList) = ow ws' (hashL k.data.toList) then mvd ws ws' (i + 1) r else (i : Int) :: mvd ws ws' (i + 1) r
theorem mvd_snoc (ws ws' : List Int) (i : Nat) (l : List ByteArray) (k : ByteArray) : mvd ws ws' i (l ++ [k]) = mvd ws ws' i l ++ (if ow ws (hashL k.data.toList) = ow ws' (hashL k.data.toList) then [] else [((i + l.length : Nat) : Int)]) := by
  induction l generalizing i with
  | nil => simp [mvd]
  | cons x r ih =>
    simp only [List.cons_append, mvd, ih, List.length_cons, show i + 1 + r.length = i + (r.length + 1) by omega]
    split <;> simp
theorem mvd_len (ws ws' : List Int) (i : Nat) (l : List ByteArray) : (mvd ws ws' i l).length ≤ l.length := by
  induction l generalizing i with
  | nil => simp [mvd]
  | cons x r ih => simp only [mvd]; have := ih (i + 1); split <;> simp <;> omega

/-- points that answer so, in every world that has grown -/
def OwnC (wr : World) (h : Int) (va vc : Value) (o : Int) : Prop := ∀ (n : Nat) (os : Array Obj), Calls Tryd.prog 68 #[.agg #[va, vc], .int .u64 h] (Go.Sort.grow (wr.drewN n) os) fun e w' => e = .returned (.int .i64 o) ∧ ∃ q os', w' = Go.Sort.grow ((Go.Sort.grow (wr.drewN n) os).drewN q) os'
theorem OwnC.use {wr : World} {h : Int} {va vc : Value} {o : Int} (k : OwnC wr h va vc o) (n : Nat) (os : Array Obj) : Calls Tryd.prog 68 #[.agg #[va, vc], .int .u64 h] (Go.Sort.grow (wr.drewN n) os) fun e w' => e = .returned (.int .i64 o) ∧ ∃ q os', w' = Go.Sort.grow ((Go.Sort.grow (wr.drewN n) os).drewN q) os' := k n os

set_option maxHeartbeats 6400000 in
set_option maxRecDepth 100000 in
theorem moved_yes (a a' a'' : Option Addr) (cap cap' cap'' : Nat) (ws ws' : List Int) (ks : List ByteArray) (hM : May ws) (hM' : May ws') (w : World) (hl : Lies w ienc a ws) (hl' : Lies w ienc a' ws') (hk : Lies w tenc a'' ks) (hz : ∀ k ∈ ks, k.size ≤ 9223372036854775807) (hn : ks.length ≤ 17592186044416) (hT : Tab w) :
    Calls Tryd.prog 59 #[.slice a ws.length cap, .slice a' ws'.length cap', .slice a'' ks.length cap''] w fun e w' => ∃ v, e = .returned (.tuple #[v, .int .i64 0]) ∧ w'.ownsRow w.heap.size IntT 1 v (mvd ws ws' 0 ks).length (rc ienc (mvd ws ws' 0 ks)) ∧ Below w.heap.size w w' := by
  have mixed : Tryd.prog.follows .mixedOrders = true := by kernel_rfl
  have hC := fun W (h : Lies W ienc a ws) => check_any a cap ws W h (by have := hM.n2; omega)
  rw [chk_yes hM] at hC
  have hC' := fun W (h : Lies W ienc a' ws') => check_any a' cap' ws' W h (by have := hM'.n2; omega)
  rw [chk_yes hM'] at hC'
  go_enter Tryd.func59, Tryd.ntmps59
  go_wp2_with fail
  refine (hC w hl).mono ?_
  rintro e w1 ⟨rfl, hw1⟩
  obtain rfl := hw1.symm
  go_wp2_with fail
  refine (hC' w hl').mono ?_
  rintro e w1 ⟨rfl, hw1⟩
  obtain rfl := hw1.symm
  clear hC hC'
  have hI := inOrder_any a cap ws hM w hl hT
  go_wp2_with fail
  refine hI.mono ?_
  rintro e w1 ⟨va1, vc1, l1, rfl, ra1, rc1, hb1, hS1⟩
  have hI' := inOrder_any a' cap' ws' hM' w1 (hl'.below hb1) (hT.below hb1)
  go_wp2_with fail
  refine hI'.mono ?_
  rintro e w2 ⟨va2, vc2, l2, rfl, ra2, rc2, hb2, hS2⟩
  have hp1 : 0 < l1.length := by rw [hS1.perm.length_eq]; exact List.length_pos_iff.2 hM.pts_ne
  have hp2 : 0 < l2.length := by rw [hS2.perm.length_eq]; exact List.length_pos_iff.2 hM'.pts_ne
  have hq1 : l1.length ≤ 100000 := by rw [hS1.perm.length_eq]; have := length_pts_le hM; omega
  have hq2 : l2.length ≤ 100000 := by rw [hS2.perm.length_eq]; have := length_pts_le hM'; omega
  obtain ⟨ga1, ca1, _, rfl, _⟩ := own_form ra1 hp1
  obtain ⟨gc1, cc1, _, rfl, _⟩ := own_form rc1 hp1
  obtain ⟨ga2, ca2, _, rfl, _⟩ := own_form ra2 hp2
  obtain ⟨gc2, cc2, _, rfl, _⟩ := own_form rc2 hp2
  clear hI hI'
  go_wp2
  obtain ⟨W3, hW3⟩ : ∃ W3, (w2.alloc (.cells #[.slice (some ⟨ga1, 0, none⟩) l1.length ca1, .slice (some ⟨gc1, 0, none⟩) l1.length cc1] PtsT)).alloc (.cells #[.slice (some ⟨ga2, 0, none⟩) l2.length ca2, .slice (some ⟨gc2, 0, none⟩) l2.length cc2] PtsT) = W3 := ⟨_, rfl⟩
  have B3 : Below w2.heap.size w2 W3 := by rw [← hW3]; exact below_alloc2 _ _ _
  have x1 : W3.heap[w2.heap.size]? = some (.cells #[.slice (some ⟨ga1, 0, none⟩) l1.length ca1, .slice (some ⟨gc1, 0, none⟩) l1.length cc1] PtsT) := by
    rw [← hW3]; exact ((below_alloc1 _ _).block _ (by simp)).trans (heap_alloc_new w2 _)
  have x2 : W3.heap[w2.heap.size + 1]? = some (.cells #[.slice (some ⟨ga2, 0, none⟩) l2.length ca2, .slice (some ⟨gc2, 0, none⟩) l2.length cc2] PtsT) := by
    rw [← hW3]
    have := heap_alloc_new (w2.alloc (.cells #[.slice (some ⟨ga1, 0, none⟩) l1.length ca1, .slice (some ⟨gc1, 0, none⟩) l1.length cc1] PtsT)) (.cells #[.slice (some ⟨ga2, 0, none⟩) l2.length ca2, .slice (some ⟨gc2, 0, none⟩) l2.length cc2] PtsT)
    rwa [World.size_alloc] at this
  rw [hW3]
  generalize w2.heap.size = b at x1 x2 ⊢
  clear hW3
  have R1 := hide (Row.below (own_mono (B' := 0) (own_below (own_below ra1 hb2) B3) (Nat.zero_le _)) (Below.refl _ _) : Row W3 uenc U64T 1 (.slice (some ⟨ga1, 0, none⟩) l1.length ca1) l1)
  have R2 := hide (Row.below (own_mono (B' := 0) (own_below (own_below rc1 hb2) B3) (Nat.zero_le _)) (Below.refl _ _) : Row W3 cenc IntT 1 (.slice (some ⟨gc1, 0, none⟩) l1.length cc1) l1)
  have R3 := hide (Row.below (own_mono (B' := 0) (own_below ra2 B3) (Nat.zero_le _)) (Below.refl _ _) : Row W3 uenc U64T 1 (.slice (some ⟨ga2, 0, none⟩) l2.length ca2) l2)
  have R4 := hide (Row.below (own_mono (B' := 0) (own_below rc2 B3) (Nat.zero_le _)) (Below.refl _ _) : Row W3 cenc IntT 1 (.slice (some ⟨gc2, 0, none⟩) l2.length cc2) l2)
  have Bw3 : Below w.heap.size w W3 := (hb1.trans (hb2.mono hb1.size)).trans (B3.mono (Nat.le_trans hb1.size hb2.size))
  have HK := hide (hk.below Bw3)
  have y1 : b < W3.heap.size := (Array.getElem?_eq_some_iff.1 x1).1
  have y2 : b + 1 < W3.heap.size := (Array.getElem?_eq_some_iff.1 x2).1
  have HZ := hide hz
  have hn' : ks.length ≤ 9223372036854775807 := by omega
  clear ra1 rc1 ra2 rc2 hb1 hb2 B3 hl hl' hk hT hz
  go_loopw [12, 32] (fun v iv wr => ∃ (i : Nat) (o : List Int), i ≤ ks.length ∧ iv = .int .i64 i ∧ (∃ n1, n1 = o.length ∧ wr.ownsRow W3.heap.size IntT 1 v n1 (rc ienc o)) ∧ Below W3.heap.size W3 wr ∧ Hid (o = mvd ws ws' 0 (ks.take i))) (fun _ iv _ => ks.length - (intOf iv).toNat)
  case atStart => exact ⟨0, [], Nat.zero_le _, rfl, ⟨0, rfl, World.ownsRow_nil _ _ _ _⟩, Below.refl _ _, rfl⟩
  case round =>
    obtain ⟨i, o, hi, rfl, ⟨n1, rfl, hown⟩, hbel, HE⟩ := hrel
    obtain ⟨am, cm, rfl⟩ := own_slice hown
    have HOW := hide hown
    clear hown
    by_cases hlt : i < ks.length
    · have i1 : (i : Int) < (ks.length : Int) := by omega
      obtain ⟨bk, off, rfl, hbl, hcc⟩ := (HK.out.below hbel).at tenc_len i hlt
      have c0 := hcc 0 _ rfl
      rw [Nat.mul_one, Nat.add_zero] at c0
      have HT := hide (List.take_succ_eq_append_getElem hlt)
      have hzk := HZ.out ks[i] (List.getElem_mem hlt)
      generalize ks[i] = key at c0 HT hzk
      have HMV := hide (mvd_snoc ws ws' 0 (ks.take i) key)
      have HLT := hide (show (ks.take i).length = i by rw [List.length_take]; omega)
      have hH := fun W => hash_any key W hzk
      have hr := hashL_range key.data.toList
      have hO1 : OwnC wr (hashL key.data.toList) _ _ _ := fun (n : Nat) (os : Array Obj) => owner_any ga1 ca1 gc1 cc1 (hashL key.data.toList) hr ws l1 hS1 hp1 hq1 (Go.Sort.grow (wr.drewN n) os) ((R1.out.below hbel).below (Gr.grow (Gr.refl wr) n os).below) ((R2.out.below hbel).below (Gr.grow (Gr.refl wr) n os).below)
      have hO2 : OwnC wr (hashL key.data.toList) _ _ _ := fun (n : Nat) (os : Array Obj) => owner_any ga2 ca2 gc2 cc2 (hashL key.data.toList) hr ws' l2 hS2 hp2 hq2 (Go.Sort.grow (wr.drewN n) os) ((R3.out.below hbel).below (Gr.grow (Gr.refl wr) n os).below) ((R4.out.below hbel).below (Gr.grow (Gr.refl wr) n os).below)
      generalize hashL key.data.toList = hh at hH hO1 hO2 HMV
      generalize ow ws hh = o1 at hO1 HMV
      generalize ow ws' hh = o2 at hO2 HMV
      have z1 := (hbel.block b y1).trans x1
      have z2 := (hbel.block (b + 1) y2).trans x2
      have u0 := fun n os => cell_grown (w := wr) (a := ⟨b, 0, none⟩) (v := .slice (some ⟨ga1, 0, none⟩) l1.length ca1) (Nat.lt_of_lt_of_le y1 hbel.size) (by rw [cell_of_block z1]; rfl) n os
      have u1 := fun n os => cell_grown (w := wr) (a := ⟨b, 1, none⟩) (v := .slice (some ⟨gc1, 0, none⟩) l1.length cc1) (Nat.lt_of_lt_of_le y1 hbel.size) (by rw [cell_of_block z1]; rfl) n os
      have u2 := fun n os => cell_grown (w := wr) (a := ⟨b + 1, 0, none⟩) (v := .slice (some ⟨ga2, 0, none⟩) l2.length ca2) (Nat.lt_of_lt_of_le y2 hbel.size) (by rw [cell_of_block z2]; rfl) n os
      have u3 := fun n os => cell_grown (w := wr) (a := ⟨b + 1, 1, none⟩) (v := .slice (some ⟨gc2, 0, none⟩) l2.length cc2) (Nat.lt_of_lt_of_le y2 hbel.size) (by rw [cell_of_block z2]; rfl) n os
      clear z1 z2 hcc hr hzk
      by_cases ho : o1 = o2
      · have HME := hide (show o = mvd ws ws' 0 (ks.take (i + 1)) by rw [HT.out, HMV.out, if_pos ho, List.append_nil, HE.out])
        subst ho
        go_wp2_with (go_at_call 9; refine (hH _).mono ?_; rintro e w' ⟨rfl, hw⟩; obtain rfl := hw.symm)
        go_quiet_grown (first | (go_at_call 68; with_reducible refine Calls.grown_of (OwnC.use (by assumption) _ _)))
        have hG := (Gr.grow (Gr.refl wr) nq osq).below
        go_wp2
        go_roundw
        case rel => exact ⟨i + 1, o, by omega, by go_num, ⟨_, rfl, own_below HOW.out hG⟩, hbel.trans (hG.mono hbel.size), HME.out⟩
        case measure => simp [intOf]; omega
      · have HME := hide (show o ++ [(i : Int)] = mvd ws ws' 0 (ks.take (i + 1)) by rw [HT.out, HMV.out, if_neg ho, HLT.out, Nat.zero_add, HE.out])
        have hll : o.length ≤ i := by rw [HE.out]; exact Nat.le_trans (mvd_len _ _ _ _) (by rw [List.length_take]; omega)
        go_wp2_with (go_at_call 9; refine (hH _).mono ?_; rintro e w' ⟨rfl, hw⟩; obtain rfl := hw.symm)
        go_quiet_grown (first | (go_at_call 68; with_reducible refine Calls.grown_of (OwnC.use (by assumption) _ _)))
        have hG := (Gr.grow (Gr.refl wr) nq osq).below
        generalize Go.Sort.grow (wr.drewN nq) osq = w4 at hG ⊢
        have hB4 := hbel.trans (hG.mono hbel.size)
        have HO4 := hide (own_below HOW.out hG)
        have hz4 := hB4.size
        clear HOW hG u0 u1 u2 u3 hO1 hO2 hH c0
        go_wp2_with (at_builtin; refine wpList_push (enc := ienc) (k := 1) rfl (.tmp 46) (.tmp 48) 22 rfl IntT (.int .i64 0) 8 Tryd.underlying22 int_info rfl (by decide) ienc_len ienc_one' W3.heap.size _ o rfl (own_below HO4.out (below_alloc1 w4 _)) w4.heap.size (i : Int) rfl (heap_alloc_new w4 _) (by omega) (by omega) (by simp; omega) ?_; intro v5 w5 hown5 hg5 hat5; obtain ⟨a5, c5, rfl⟩ := own_slice hown5; have H5 := hide hown5; have B5 := hide ((hB4.alloc hz4 _).grown hg5 (by simp; omega) (fun k e => (HO4.out.lt k e).1)); simp only [List.length_append, List.length_cons, List.length_nil, Nat.zero_add] at H5; clear hown5 hg5 hat5)
        go_roundw
        case rel => exact ⟨i + 1, o ++ [(i : Int)], by omega, by go_num, ⟨_, by simp, H5.out⟩, B5.out, HME.out⟩
        case measure => simp [intOf]; omega
    · have i1 : ¬ (i : Int) < (ks.length : Int) := by omega
      have HEE := hide (show o = mvd ws ws' 0 ks by rw [HE.out, List.take_of_length_le (by omega)])
      go_wp2
      go_ret2
      exact ⟨_, rfl, by rw [← HEE.out]; exact own_mono HOW.out Bw3.size, Bw3.trans (hbel.mono Bw3.size)⟩

end Go.Proofs.YtcmdglmcmifflaaDoor.Rg
