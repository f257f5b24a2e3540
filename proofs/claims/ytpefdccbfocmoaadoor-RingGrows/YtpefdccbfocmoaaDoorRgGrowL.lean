/- RingGrows: when one chain's weight is greater, a key moves to that chain, or not at all; made lesser again, all that moved moves back, and no other one. Proved: for all weights, chains and keys, no condition. -/
import Derived.Test.YtpefdccbfocmoaaDoorRgGrow
import Derived.Test.YtpefdccbfocmoaaDoorGAmong
namespace Go.Proofs.YtpefdccbfocmoaaDoor.Rg
open Go.RowKit Go.Joins Gk

theorem Row.set1 {w : World} {g n cap : Nat} {l : List Int} (h : Row w ienc IntT 1 (.slice (some ⟨g, 0, none⟩) n cap) l) (i : Nat) (hi : i < l.length) (x : Int) : Row (w.setCell ⟨g, i, none⟩ (.int .i64 x)) ienc IntT 1 (.slice (some ⟨g, 0, none⟩) n cap) (l.set i x) := by
  have := h.set ienc_len i hi x
  simpa [ienc, World.setCells] using this

theorem own_room {w : World} {B e k g n c m : Nat} {l : List Value} (h : w.ownsRow B e k (.slice (some ⟨g, 0, none⟩) n c) m l) : n ≤ c := by
  rcases h.2 with ⟨e1, _⟩ | ⟨_, _, _, e1, _, _, h1, _⟩
  · cases e1
  · cases e1; exact h1

set_option maxHeartbeats 6400000 in
set_option maxRecDepth 100000 in
theorem grows_law (a : Option Addr) (cap : Nat) (ws : List Int) (x : Int) (a' : Option Addr) (cap' : Nat) (ks : List ByteArray) (w : World) (hI : IntsAt w a cap ws) (hx : (Lit.int .i64 x).wf = true) (hK : TextsAt w a' cap' ks) (hT : Tab w) :
    Calls Tryd.prog 5 #[.slice a ws.length cap, .int .i64 x, .slice a' ks.length cap'] w fun e w' => e = .returned (.bool true) ∧ Below w.heap.size w w' := by
  have mixed : Tryd.prog.follows .mixedOrders = true := by kernel_rfl
  have hn : ws.length ≤ 9223372036854775807 := Nat.le_trans hI.room hI.max
  have hnil := hI.nil
  have hroom := hK.room
  have hmax := hK.max
  have hl := hI.lies
  have hl' := hK.lies
  have HZ := hide hK.each
  have hxb := bounds_i64 hx
  have hC := fun W (h : Lies W ienc a ws) => check_any a cap ws W h hn
  clear hI hK
  by_cases hM : May ws
  · rw [chk_yes hM] at hC
    have hA := fun W => among_any x (ws.length : Int) W (by have := hM.n1; omega) (by have := hM.n2; omega) hxb.1 hxb.2
    obtain ⟨c, hc⟩ : ∃ c : Nat, x % (ws.length : Int) = (c : Int) := ⟨(x % (ws.length : Int)).toNat, by have := Int.emod_nonneg x (show (ws.length : Int) ≠ 0 by have := hM.n1; omega); omega⟩
    have hcl : c < ws.length := by have := Int.emod_lt_of_pos x (show (0 : Int) < (ws.length : Int) by have := hM.n1; omega); omega
    rw [hc] at hA
    clear hc
    have hy : ws[c] = ws.getD c 0 := by simp [List.getD_eq_getElem?_getD, hcl]
    have hy0 := hM.each ws[c] (List.getElem_mem hcl)
    obtain ⟨y, hyd⟩ : ∃ y, ws.getD c 0 = y := ⟨_, rfl⟩
    rw [hyd] at hy
    rw [hy] at hy0
    by_cases h120 : 120 < y
    · go_enter Tryd.func5, Tryd.ntmps5
      go_wp2_with (first | (go_at_call 18; refine (works_any w hT).mono ?_; rintro e w1 ⟨rfl, hb1⟩) | (go_at_call 15; refine (hC _ (hl.below hb1)).mono ?_; rintro e w2 ⟨rfl, hw2⟩; obtain rfl := hw2.symm) | (go_at_call 24; refine (hA _).mono ?_; rintro e w2 ⟨rfl, hw2⟩; obtain rfl := hw2) | (at_builtin; have hown0 : (w1.alloc (.cells #[] IntT)).ownsRow w1.heap.size IntT 1 (.slice (some ⟨w1.heap.size, 0, none⟩) 0 0) ([] : List Int).length (rc ienc []) := World.ownsRow_made w1 #[] 0 (Nat.le_refl _) (Nat.zero_le _) rfl; refine wpList_append_row (enc := ienc) (k := 1) rfl (.tmp 27) (.tmp 28) 22 rfl IntT (.int .i64 0) 8 Tryd.underlying22 int_info rfl (by decide) ienc_len ienc_one' w1.heap.size _ [] rfl hown0 _ ws _ _ rfl rfl ((hl.below hb1).below (below_alloc1 w1 _)) hnil (by have := hM.n2; simp; omega) (by have := hM.n2; simp; omega) (by simp) ?_; intro v4 w4 hown4 hg4 hat4; rw [List.nil_append] at hown4; obtain ⟨g4, c4, _, rfl, _⟩ := own_form hown4 (by have := hM.n1; omega); have H4 := hide hown4; have B4 := hide (((Below.refl w1.heap.size w1).alloc (Nat.le_refl _) (.cells #[] IntT)).grown hg4 (by simp) (fun k e => (hown0.lt k e).1)); have k4 := (Row.celled (own_mono hown4 (Nat.zero_le _) : Row w4 ienc IntT 1 (.slice (some ⟨g4, 0, none⟩) ws.length c4) ws) ienc_len c hcl).2 0 _ rfl; rw [Nat.mul_one, Nat.add_zero, hy] at k4; have j1 : (c : Int) < (ws.length : Int) := (by omega); have f4 : w4.frozen? ⟨g4, c, none⟩ = false := (Row.there (own_mono hown4 (Nat.zero_le _) : Row w4 ienc IntT 1 (.slice (some ⟨g4, 0, none⟩) ws.length c4) ws) c (by have h := own_room hown4; omega)).2; clear hown4 hg4 hat4 hown0))
      go_ret
      exact ⟨rfl, hb1.trans (B4.out.mono hb1.size)⟩
    · by_cases h60 : 60 < ks.length
      · have h60' : (60 : Int) < (ks.length : Int) := by omega
        go_enter Tryd.func5, Tryd.ntmps5
        go_wp2_with (first | (go_at_call 18; refine (works_any w hT).mono ?_; rintro e w1 ⟨rfl, hb1⟩) | (go_at_call 15; refine (hC _ (hl.below hb1)).mono ?_; rintro e w2 ⟨rfl, hw2⟩; obtain rfl := hw2.symm) | (go_at_call 24; refine (hA _).mono ?_; rintro e w2 ⟨rfl, hw2⟩; obtain rfl := hw2) | (at_builtin; have hown0 : (w1.alloc (.cells #[] IntT)).ownsRow w1.heap.size IntT 1 (.slice (some ⟨w1.heap.size, 0, none⟩) 0 0) ([] : List Int).length (rc ienc []) := World.ownsRow_made w1 #[] 0 (Nat.le_refl _) (Nat.zero_le _) rfl; refine wpList_append_row (enc := ienc) (k := 1) rfl (.tmp 27) (.tmp 28) 22 rfl IntT (.int .i64 0) 8 Tryd.underlying22 int_info rfl (by decide) ienc_len ienc_one' w1.heap.size _ [] rfl hown0 _ ws _ _ rfl rfl ((hl.below hb1).below (below_alloc1 w1 _)) hnil (by have := hM.n2; simp; omega) (by have := hM.n2; simp; omega) (by simp) ?_; intro v4 w4 hown4 hg4 hat4; rw [List.nil_append] at hown4; obtain ⟨g4, c4, _, rfl, _⟩ := own_form hown4 (by have := hM.n1; omega); have H4 := hide hown4; have B4 := hide (((Below.refl w1.heap.size w1).alloc (Nat.le_refl _) (.cells #[] IntT)).grown hg4 (by simp) (fun k e => (hown0.lt k e).1)); have k4 := (Row.celled (own_mono hown4 (Nat.zero_le _) : Row w4 ienc IntT 1 (.slice (some ⟨g4, 0, none⟩) ws.length c4) ws) ienc_len c hcl).2 0 _ rfl; rw [Nat.mul_one, Nat.add_zero, hy] at k4; have j1 : (c : Int) < (ws.length : Int) := (by omega); have f4 : w4.frozen? ⟨g4, c, none⟩ = false := (Row.there (own_mono hown4 (Nat.zero_le _) : Row w4 ienc IntT 1 (.slice (some ⟨g4, 0, none⟩) ws.length c4) ws) c (by have h := own_room hown4; omega)).2; clear hown4 hg4 hat4 hown0))
        obtain ⟨K, hKd⟩ : ∃ K : List ByteArray, K = (ks.take 60) := ⟨_, rfl⟩
        have hKl : Lies w tenc a' K := by rw [hKd]; exact Lies.take hl' tenc_len 60 (by omega)
        have hKz : ∀ k ∈ K, k.size ≤ 9223372036854775807 := fun k hk => Nat.le_trans (HZ.out k (by rw [hKd] at hk; exact List.mem_of_mem_take hk)) (by omega)
        have hKn : K.length ≤ 60 := by rw [hKd]; rw [List.length_take]; omega
        have e60 : (60 : Nat) = K.length := by rw [hKd, List.length_take]; omega
        rw [show Value.slice a' 60 cap' = .slice a' K.length cap' by rw [e60]]
        clear e60 hKd
        have HR5 := hide (show Row (w4.setCell ⟨g4, c, none⟩ (.int .i64 (y + 5))) ienc IntT 1 (.slice (some ⟨g4, 0, none⟩) ws.length c4) (ws.set c (ws.getD c 0 + 5)) by rw [hyd]; exact Row.set1 (own_mono H4.out (Nat.zero_le _)) c hcl (y + 5))
        have hgl : w1.heap.size ≤ g4 := (H4.out.lt g4 rfl).1
        have hB4 : Below w.heap.size w (w4.setCell ⟨g4, c, none⟩ (.int .i64 (y + 5))) := (hb1.trans (B4.out.mono hb1.size)).setCell (p := ⟨g4, c, none⟩) (Nat.le_trans hb1.size hgl) _
        generalize w4.setCell ⟨g4, c, none⟩ (.int .i64 (y + 5)) = w5 at HR5 hB4 ⊢
        have hMm := may_more hM hcl (by rw [hyd]; omega)
        have HGR := hide (fun (h : Int) (p q : Nat) (hp : Owns ws h p) (hq : Owns (ws.set c (ws.getD c 0 + 5)) h q) => grows hcl h hp hq)
        obtain ⟨ms, hms⟩ : ∃ ms, ws.set c (ws.getD c 0 + 5) = ms := ⟨_, rfl⟩
        have HML := hide (show ms.length = ws.length by rw [← hms]; simp)
        rw [hms] at HR5 hMm HGR
        clear hms H4 B4 k4 f4
        have hm1 := moved_yes a (some ⟨g4, 0, none⟩) a' cap c4 cap' ws ms K hM hMm w5 (hl.below hB4) HR5.out.lies (hKl.below hB4) hKz (by omega) (hT.below hB4)
        rw [HML.out] at hm1
        refine hm1.mono ?_
        rintro e w6 ⟨v6, rfl, ho6, hb6⟩
        have hB6 := hB4.trans (hb6.mono hB4.size)
        have hm2 := moved_yes (some ⟨g4, 0, none⟩) a a' c4 cap cap' ms ws K hMm hM w6 (HR5.out.lies.below hb6) (hl.below hB6) (hKl.below hB6) hKz (by omega) (hT.below hB6)
        rw [HML.out, mvd_sym] at hm2
        obtain ⟨a6, c6, rfl⟩ := own_slice ho6
        clear hm1
        go_wp2_with fail
        refine hm2.mono ?_
        rintro e w7 ⟨v7, rfl, ho7, hb7⟩
        obtain ⟨a7, c7, rfl⟩ := own_slice ho7
        have hB7 := hB6.trans (hb7.mono hB6.size)
        have HL6 := hide ((Row.lies (own_mono ho6 (Nat.zero_le _) : Row w6 ienc IntT 1 (.slice a6 _ c6) (mvd ws ms 0 K))).below hb7)
        have HL7 := hide (Row.lies (own_mono ho7 (Nat.zero_le _) : Row w7 ienc IntT 1 (.slice a7 _ c7) (mvd ws ms 0 K)))
        have HR7 := hide ((HR5.out.below hb6).below hb7)
        have HMEM := hide (mvd_mem ws ms 0 K)
        have hlen := mvd_len ws ms 0 K
        generalize mvd ws ms 0 K = mv at HL6 HL7 HMEM hlen ⊢
        clear hm2 ho6 ho7 hb6 hb7 HR5
        go_wp2
        have hmv : mv.length ≤ 9223372036854775807 := by omega
        go_loopw [75] (fun i wr => ∃ k : Nat, k ≤ mv.length ∧ i = .int .i64 k ∧ Below w.heap.size w wr ∧ Below w7.heap.size w7 wr) (fun i _ => mv.length - (intOf i).toNat)
        case atStart => exact ⟨0, Nat.zero_le _, rfl, hB7, Below.refl _ _⟩
        case round =>
          obtain ⟨i, hi, rfl, hBr, hbr⟩ := hrel
          by_cases hlt : i < mv.length
          · have i1 : (i : Int) < (mv.length : Int) := by omega
            obtain ⟨b6, o6, rfl, hb6l, hc6⟩ := (HL6.out.below hbr).at ienc_len i hlt
            obtain ⟨b7, o7, rfl, hb7l, hc7⟩ := (HL7.out.below hbr).at ienc_len i hlt
            have d6 := hc6 0 _ rfl
            have d7 := hc7 0 _ rfl
            rw [Nat.mul_one, Nat.add_zero] at d6 d7
            obtain ⟨j, hj, hjm, hne⟩ := HMEM.out mv[i] (List.getElem_mem hlt)
            rw [Nat.zero_add] at hjm
            rw [hjm] at d6 d7
            have i2 : (j : Int) < (K.length : Int) := by omega
            obtain ⟨bk, ok, rfl, hbkl, hck⟩ := (hKl.below hBr).at tenc_len j hj
            have dk := hck 0 _ rfl
            rw [Nat.mul_one, Nat.add_zero] at dk
            have hks := hKz K[j] (List.getElem_mem hj)
            generalize K[j] = key at dk hks hne
            obtain ⟨p, hp, ep⟩ := hM.ow (hashL key.data.toList)
            obtain ⟨q, hq, eq⟩ := hMm.ow (hashL key.data.toList)
            have hpq := HGR.out _ p q hp hq
            have hO1 := fun W (hb : Below w.heap.size w W) => of_ow a cap ws hM key hks W (hl.below hb) (hT.below hb)
            have hO2 := fun W (hb : Below w.heap.size w W) (hb' : Below w7.heap.size w7 W) => of_ow (some ⟨g4, 0, none⟩) c4 ms hMm key hks W (HR7.out.below hb').lies (hT.below hb)
            rw [ep] at hO1 hne
            rw [eq] at hO2 hne
            rw [HML.out] at hO2
            have hqc : q = c := by rcases hpq with e | e; · exact absurd (by rw [e]) hne
                                   · exact e
            have hpc : p ≠ c := fun e => hne (by rw [e, hqc])
            have hpc' : ¬ (p : Int) = (c : Int) := by omega
            rw [hqc] at hO2
            clear hne hpq hqc hp hq ep eq hc6 hc7 hck hpc hjm
            go_wp2_with fail
            refine (hO2 wr hBr hbr).mono ?_
            rintro e w8 ⟨rfl, hb8⟩
            have hB8 := hBr.trans (hb8.mono hBr.size)
            have hb78 := hbr.trans (hb8.mono hbr.size)
            have dk8 := (hb8.cell (p := ⟨bk, ok + j, none⟩) hbkl).trans dk
            have e7 := (hb8.cell (p := ⟨b7, o7 + i, none⟩) hb7l).trans d7
            go_wp2_with fail
            refine (hO1 w8 hB8).mono ?_
            rintro e w9 ⟨rfl, hb9⟩
            have hB9 := hB8.trans (hb9.mono hB8.size)
            have e9 := (hb9.cell (p := ⟨b7, o7 + i, none⟩) (Nat.lt_of_lt_of_le hb7l hb8.size)).trans e7
            clear d6 d7 dk dk8 e7
            go_wp2_with fail
            exact ⟨⟨i + 1, by omega, by simp, hB9, hb78.trans (hb9.mono hb78.size)⟩, by simp [intOf]; omega⟩
          · have i1 : ¬ (i : Int) < (mv.length : Int) := by omega
            go_wp2
            go_ret
            exact ⟨rfl, hBr⟩
      · have h60' : ¬ (60 : Int) < (ks.length : Int) := by omega
        go_enter Tryd.func5, Tryd.ntmps5
        go_wp2_with (first | (go_at_call 18; refine (works_any w hT).mono ?_; rintro e w1 ⟨rfl, hb1⟩) | (go_at_call 15; refine (hC _ (hl.below hb1)).mono ?_; rintro e w2 ⟨rfl, hw2⟩; obtain rfl := hw2.symm) | (go_at_call 24; refine (hA _).mono ?_; rintro e w2 ⟨rfl, hw2⟩; obtain rfl := hw2) | (at_builtin; have hown0 : (w1.alloc (.cells #[] IntT)).ownsRow w1.heap.size IntT 1 (.slice (some ⟨w1.heap.size, 0, none⟩) 0 0) ([] : List Int).length (rc ienc []) := World.ownsRow_made w1 #[] 0 (Nat.le_refl _) (Nat.zero_le _) rfl; refine wpList_append_row (enc := ienc) (k := 1) rfl (.tmp 27) (.tmp 28) 22 rfl IntT (.int .i64 0) 8 Tryd.underlying22 int_info rfl (by decide) ienc_len ienc_one' w1.heap.size _ [] rfl hown0 _ ws _ _ rfl rfl ((hl.below hb1).below (below_alloc1 w1 _)) hnil (by have := hM.n2; simp; omega) (by have := hM.n2; simp; omega) (by simp) ?_; intro v4 w4 hown4 hg4 hat4; rw [List.nil_append] at hown4; obtain ⟨g4, c4, _, rfl, _⟩ := own_form hown4 (by have := hM.n1; omega); have H4 := hide hown4; have B4 := hide (((Below.refl w1.heap.size w1).alloc (Nat.le_refl _) (.cells #[] IntT)).grown hg4 (by simp) (fun k e => (hown0.lt k e).1)); have k4 := (Row.celled (own_mono hown4 (Nat.zero_le _) : Row w4 ienc IntT 1 (.slice (some ⟨g4, 0, none⟩) ws.length c4) ws) ienc_len c hcl).2 0 _ rfl; rw [Nat.mul_one, Nat.add_zero, hy] at k4; have j1 : (c : Int) < (ws.length : Int) := (by omega); have f4 : w4.frozen? ⟨g4, c, none⟩ = false := (Row.there (own_mono hown4 (Nat.zero_le _) : Row w4 ienc IntT 1 (.slice (some ⟨g4, 0, none⟩) ws.length c4) ws) c (by have h := own_room hown4; omega)).2; clear hown4 hg4 hat4 hown0))
        obtain ⟨K, hKd⟩ : ∃ K : List ByteArray, K = ks := ⟨_, rfl⟩
        have hKl : Lies w tenc a' K := by rw [hKd]; exact hl'
        have hKz : ∀ k ∈ K, k.size ≤ 9223372036854775807 := fun k hk => Nat.le_trans (HZ.out k (by rw [hKd] at hk; exact hk)) (by omega)
        have hKn : K.length ≤ 60 := by rw [hKd]; omega
        rw [← hKd]
        clear hKd
        have HR5 := hide (show Row (w4.setCell ⟨g4, c, none⟩ (.int .i64 (y + 5))) ienc IntT 1 (.slice (some ⟨g4, 0, none⟩) ws.length c4) (ws.set c (ws.getD c 0 + 5)) by rw [hyd]; exact Row.set1 (own_mono H4.out (Nat.zero_le _)) c hcl (y + 5))
        have hgl : w1.heap.size ≤ g4 := (H4.out.lt g4 rfl).1
        have hB4 : Below w.heap.size w (w4.setCell ⟨g4, c, none⟩ (.int .i64 (y + 5))) := (hb1.trans (B4.out.mono hb1.size)).setCell (p := ⟨g4, c, none⟩) (Nat.le_trans hb1.size hgl) _
        generalize w4.setCell ⟨g4, c, none⟩ (.int .i64 (y + 5)) = w5 at HR5 hB4 ⊢
        have hMm := may_more hM hcl (by rw [hyd]; omega)
        have HGR := hide (fun (h : Int) (p q : Nat) (hp : Owns ws h p) (hq : Owns (ws.set c (ws.getD c 0 + 5)) h q) => grows hcl h hp hq)
        obtain ⟨ms, hms⟩ : ∃ ms, ws.set c (ws.getD c 0 + 5) = ms := ⟨_, rfl⟩
        have HML := hide (show ms.length = ws.length by rw [← hms]; simp)
        rw [hms] at HR5 hMm HGR
        clear hms H4 B4 k4 f4
        have hm1 := moved_yes a (some ⟨g4, 0, none⟩) a' cap c4 cap' ws ms K hM hMm w5 (hl.below hB4) HR5.out.lies (hKl.below hB4) hKz (by omega) (hT.below hB4)
        rw [HML.out] at hm1
        refine hm1.mono ?_
        rintro e w6 ⟨v6, rfl, ho6, hb6⟩
        have hB6 := hB4.trans (hb6.mono hB4.size)
        have hm2 := moved_yes (some ⟨g4, 0, none⟩) a a' c4 cap cap' ms ws K hMm hM w6 (HR5.out.lies.below hb6) (hl.below hB6) (hKl.below hB6) hKz (by omega) (hT.below hB6)
        rw [HML.out, mvd_sym] at hm2
        obtain ⟨a6, c6, rfl⟩ := own_slice ho6
        clear hm1
        go_wp2_with fail
        refine hm2.mono ?_
        rintro e w7 ⟨v7, rfl, ho7, hb7⟩
        obtain ⟨a7, c7, rfl⟩ := own_slice ho7
        have hB7 := hB6.trans (hb7.mono hB6.size)
        have HL6 := hide ((Row.lies (own_mono ho6 (Nat.zero_le _) : Row w6 ienc IntT 1 (.slice a6 _ c6) (mvd ws ms 0 K))).below hb7)
        have HL7 := hide (Row.lies (own_mono ho7 (Nat.zero_le _) : Row w7 ienc IntT 1 (.slice a7 _ c7) (mvd ws ms 0 K)))
        have HR7 := hide ((HR5.out.below hb6).below hb7)
        have HMEM := hide (mvd_mem ws ms 0 K)
        have hlen := mvd_len ws ms 0 K
        generalize mvd ws ms 0 K = mv at HL6 HL7 HMEM hlen ⊢
        clear hm2 ho6 ho7 hb6 hb7 HR5
        go_wp2
        have hmv : mv.length ≤ 9223372036854775807 := by omega
        go_loopw [75] (fun i wr => ∃ k : Nat, k ≤ mv.length ∧ i = .int .i64 k ∧ Below w.heap.size w wr ∧ Below w7.heap.size w7 wr) (fun i _ => mv.length - (intOf i).toNat)
        case atStart => exact ⟨0, Nat.zero_le _, rfl, hB7, Below.refl _ _⟩
        case round =>
          obtain ⟨i, hi, rfl, hBr, hbr⟩ := hrel
          by_cases hlt : i < mv.length
          · have i1 : (i : Int) < (mv.length : Int) := by omega
            obtain ⟨b6, o6, rfl, hb6l, hc6⟩ := (HL6.out.below hbr).at ienc_len i hlt
            obtain ⟨b7, o7, rfl, hb7l, hc7⟩ := (HL7.out.below hbr).at ienc_len i hlt
            have d6 := hc6 0 _ rfl
            have d7 := hc7 0 _ rfl
            rw [Nat.mul_one, Nat.add_zero] at d6 d7
            obtain ⟨j, hj, hjm, hne⟩ := HMEM.out mv[i] (List.getElem_mem hlt)
            rw [Nat.zero_add] at hjm
            rw [hjm] at d6 d7
            have i2 : (j : Int) < (K.length : Int) := by omega
            obtain ⟨bk, ok, rfl, hbkl, hck⟩ := (hKl.below hBr).at tenc_len j hj
            have dk := hck 0 _ rfl
            rw [Nat.mul_one, Nat.add_zero] at dk
            have hks := hKz K[j] (List.getElem_mem hj)
            generalize K[j] = key at dk hks hne
            obtain ⟨p, hp, ep⟩ := hM.ow (hashL key.data.toList)
            obtain ⟨q, hq, eq⟩ := hMm.ow (hashL key.data.toList)
            have hpq := HGR.out _ p q hp hq
            have hO1 := fun W (hb : Below w.heap.size w W) => of_ow a cap ws hM key hks W (hl.below hb) (hT.below hb)
            have hO2 := fun W (hb : Below w.heap.size w W) (hb' : Below w7.heap.size w7 W) => of_ow (some ⟨g4, 0, none⟩) c4 ms hMm key hks W (HR7.out.below hb').lies (hT.below hb)
            rw [ep] at hO1 hne
            rw [eq] at hO2 hne
            rw [HML.out] at hO2
            have hqc : q = c := by rcases hpq with e | e; · exact absurd (by rw [e]) hne
                                   · exact e
            have hpc : p ≠ c := fun e => hne (by rw [e, hqc])
            have hpc' : ¬ (p : Int) = (c : Int) := by omega
            rw [hqc] at hO2
            clear hne hpq hqc hp hq ep eq hc6 hc7 hck hpc hjm
            go_wp2_with fail
            refine (hO2 wr hBr hbr).mono ?_
            rintro e w8 ⟨rfl, hb8⟩
            have hB8 := hBr.trans (hb8.mono hBr.size)
            have hb78 := hbr.trans (hb8.mono hbr.size)
            have dk8 := (hb8.cell (p := ⟨bk, ok + j, none⟩) hbkl).trans dk
            have e7 := (hb8.cell (p := ⟨b7, o7 + i, none⟩) hb7l).trans d7
            go_wp2_with fail
            refine (hO1 w8 hB8).mono ?_
            rintro e w9 ⟨rfl, hb9⟩
            have hB9 := hB8.trans (hb9.mono hB8.size)
            have e9 := (hb9.cell (p := ⟨b7, o7 + i, none⟩) (Nat.lt_of_lt_of_le hb7l hb8.size)).trans e7
            clear d6 d7 dk dk8 e7
            go_wp2_with fail
            exact ⟨⟨i + 1, by omega, by simp, hB9, hb78.trans (hb9.mono hb78.size)⟩, by simp [intOf]; omega⟩
          · have i1 : ¬ (i : Int) < (mv.length : Int) := by omega
            go_wp2
            go_ret
            exact ⟨rfl, hBr⟩
  · rw [chk_no hM] at hC
    go_enter Tryd.func5, Tryd.ntmps5
    go_wp2_with (first | (go_at_call 18; refine (works_any w hT).mono ?_; rintro e w1 ⟨rfl, hb1⟩) | (go_at_call 15; refine (hC _ (hl.below hb1)).mono ?_; rintro e w2 ⟨rfl, hw2⟩; obtain rfl := hw2.symm))
    go_ret
    exact ⟨rfl, hb1⟩
end Go.Proofs.YtpefdccbfocmoaaDoor.Rg
