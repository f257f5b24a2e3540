/- Layer 9: TableFull: the law's walk. -/
import Derived.Test.YthdempdiibjabaaTbTk
import Derived.Test.YthdempdiibjabaaTbEff
namespace Go.Proofs.Ythdempdiibjabaa.Tb
open Go.RowKit Go.Joins Go.Proofs.Ythdempdiibjabaa.Gk Go.Proofs.Ythdempdiibjabaa.Oq Go.Proofs.Ythdempdiibjabaa.Sp

/-- the rows that fill a table -/
def kyB (i : Nat) : ByteArray := ⟨#[UInt8.ofNat (97 + i / 256), UInt8.ofNat i]⟩
def fuR (v : ByteArray) (i : Nat) : Rw := ⟨kyB i, 1 + (i : Int), v⟩
def fuL (v : ByteArray) (n : Nat) : List Rw := (List.range n).map (fuR v)
theorem fuL_len (v : ByteArray) (n : Nat) : (fuL v n).length = n := by simp [fuL]
theorem fuL_succ (v : ByteArray) (n : Nat) : fuL v (n + 1) = fuL v n ++ [fuR v n] := by simp [fuL, List.range_succ]
theorem fuL_at (v : ByteArray) (n i : Nat) (h : i < (fuL v n).length) : (fuL v n)[i] = fuR v i := by simp [fuL]

theorem row?_puts' : ∀ {m l : List Rw}, Rise m → ∀ q, row? (puts l m) q = (row? m q).or (row? l q)
  | [], _, _, q => by simp [puts, row?]
  | r :: m, l, h, q => by
    show row? (puts (put l r) m) q = _
    rw [row?_puts' h.cons, row?_put, row?_cons]
    by_cases e : r.key = q
    · subst e
      have : row? m r.key = none := by
        rw [row?, List.find?_eq_none]; intro z hz hc; exact B4.ne (h.head z hz) (of_decide_eq_true hc).symm
      rw [this, if_pos rfl, if_pos rfl]; rfl
    · rw [if_neg e, if_neg e]
theorem puts_nil' {R : List Rw} (h : Rise R) : puts [] R = R :=
  Rise.ext (puts_rise List.Pairwise.nil) h fun q => by
    rw [row?_puts' h, show row? ([] : List Rw) q = none from rfl]
    cases row? R q <;> rfl
theorem u8n (n : Nat) : (UInt8.ofNat n).toNat = n % 256 := rfl
theorem kyB_lt {i j : Nat} (h : i < j) (hj : j < 4096) : B4 (kyB i) (kyB j) = true := by
  have t1 : (UInt8.ofNat (97 + i / 256)).toNat = 97 + i / 256 := by rw [u8n]; omega
  have t2 : (UInt8.ofNat (97 + j / 256)).toNat = 97 + j / 256 := by rw [u8n]; omega
  have t3 : (UInt8.ofNat i).toNat = i % 256 := by rw [u8n]
  have t4 : (UInt8.ofNat j).toNat = j % 256 := by rw [u8n]
  show bytesBefore [UInt8.ofNat (97 + i / 256), UInt8.ofNat i] [UInt8.ofNat (97 + j / 256), UInt8.ofNat j] = true
  simp only [bytesBefore]
  by_cases e : i / 256 = j / 256
  · have h1 : UInt8.ofNat (97 + i / 256) = UInt8.ofNat (97 + j / 256) := by rw [e]
    have h2 : UInt8.ofNat i < UInt8.ofNat j := by rw [UInt8.lt_iff_toNat_lt, t3, t4]; omega
    rw [h1]
    generalize UInt8.ofNat (97 + j / 256) = x
    generalize UInt8.ofNat i = y at *
    generalize UInt8.ofNat j = z at *
    simp [h2]
  · have h1 : UInt8.ofNat (97 + i / 256) < UInt8.ofNat (97 + j / 256) := by rw [UInt8.lt_iff_toNat_lt, t1, t2]; omega
    generalize UInt8.ofNat (97 + i / 256) = x at *
    generalize UInt8.ofNat (97 + j / 256) = x' at *
    generalize UInt8.ofNat i = y at *
    generalize UInt8.ofNat j = z at *
    simp [h1]
abbrev zz : ByteArray := ⟨#[122, 122]⟩
theorem kyB_zz {i : Nat} (h : i < 4096) : kyB i ≠ zz := by
  intro e
  have h1 : (kyB i).data.toList = zz.data.toList := by rw [e]
  have h2 : UInt8.ofNat (97 + i / 256) = 122 := by
    have := congrArg List.head? h1
    simpa [kyB] using this
  have h3 := congrArg UInt8.toNat h2
  have t1 : (UInt8.ofNat (97 + i / 256)).toNat = 97 + i / 256 := by rw [u8n]; omega
  rw [t1] at h3
  have : (122 : UInt8).toNat = 122 := rfl
  omega
theorem fuL_mem {v : ByteArray} {n : Nat} {r : Rw} (h : r ∈ fuL v n) : ∃ i, i < n ∧ r = fuR v i := by
  unfold fuL at h
  obtain ⟨i, hi, rfl⟩ := List.mem_map.1 h
  exact ⟨i, List.mem_range.1 hi, rfl⟩
theorem fuL_in (v : ByteArray) {n i : Nat} (h : i < n) : fuR v i ∈ fuL v n := List.mem_map.2 ⟨i, List.mem_range.2 h, rfl⟩
theorem fuL_tok {v : ByteArray} (hv : v.size ≤ 4096) : Tok (fuL v 4096) := by
  refine ⟨?_, by rw [fuL_len]; exact Nat.le_refl _, fun r hr => ?_⟩
  · rw [Rise, List.pairwise_iff_getElem]
    intro i j hi hj hij
    rw [fuL_len] at hj
    rw [fuL_at, fuL_at]
    exact kyB_lt hij hj
  · obtain ⟨i, hi, rfl⟩ := fuL_mem hr
    have h1 : (kyB i).size = 2 := rfl
    exact ⟨by show 1 ≤ (kyB i).size; omega, by show (kyB i).size ≤ 64; omega, by show 1 ≤ 1 + (i : Int); omega, by show 1 + (i : Int) ≤ _; omega, hv⟩
theorem fuL_zz (v : ByteArray) : row? (fuL v 4096) zz = none := by
  rw [row?, List.find?_eq_none]
  intro r hr
  obtain ⟨i, hi, rfl⟩ := fuL_mem hr
  intro hc
  exact kyB_zz hi (of_decide_eq_true hc)
theorem fuL_seven {v : ByteArray} (hv : v.size ≤ 4096) : row? (fuL v 4096) (kyB 7) = some (fuR v 7) := by
  have h := (fuL_tok hv).rise.row? (r := fuR v 7) (fuL_in v (by omega))
  exact h
theorem full_take {v : ByteArray} (hv : v.size ≤ 4096) : takes [] (fuL v 4096) = (0, fuL v 4096) := by
  have h := fuL_tok hv
  have h1 := freshN_le [] (fuL v 4096)
  have h2 := h.len
  rw [takes_ok (chkR_ok h.each h.rise) (by simp; omega), puts_nil' h.rise]
theorem full_more {v : ByteArray} (_ : v.size ≤ 4096) : takes (fuL v 4096) [⟨zz, 1, ⟨#[]⟩⟩] = (22, fuL v 4096) := by
  refine takes_full (by kernel_rfl) ?_
  have : there (fuL v 4096) zz = false := by unfold there; rw [fuL_zz]; rfl
  show 4096 < (fuL v 4096).length + ((if there (fuL v 4096) zz then 0 else 1) + 0)
  rw [this, fuL_len]; simp
theorem full_add {v : ByteArray} (_ : v.size ≤ 4096) : dos (fuL v 4096) [⟨1, zz, ⟨#[]⟩, 1, 0, 0⟩] = (⟨[Tb.rs 22 0 nix], 0, 0⟩, fuL v 4096) := by
  rw [dos_one _ (by kernel_rfl)]
  have : one (fuL v 4096) ⟨1, zz, ⟨#[]⟩, 1, 0, 0⟩ = (Tb.rs 22 0 nix, fuL v 4096) := by
    unfold one
    rw [if_neg (by decide)]
    simp only
    rw [fuL_zz]
    simp only
    rw [if_pos (Or.inl True.intro), if_neg (by decide), if_pos (by rw [fuL_len]; omega)]
  rw [this]
theorem full_swap {v : ByteArray} (hv : v.size ≤ 4096) : dos (fuL v 4096) [⟨4, kyB 7, ⟨#[]⟩, 0, 0, 0⟩, ⟨1, zz, ⟨#[]⟩, 1, 0, 0⟩] = (⟨[Tb.rs 0 8 nix, Tb.rs 0 1 nix], 0, 0⟩, put (del (fuL v 4096) (kyB 7)) ⟨zz, 1, ⟨#[]⟩⟩) := by
  have hz : row? (del (fuL v 4096) (kyB 7)) zz = none := by rw [row?_del, if_neg (kyB_zz (by omega)), fuL_zz]
  have hl := del_old (fuL_tok hv).rise (fuL_seven hv)
  rw [fuL_len] at hl
  have h1 : one (fuL v 4096) ⟨4, kyB 7, ⟨#[]⟩, 0, 0, 0⟩ = (Tb.rs 0 8 nix, del (fuL v 4096) (kyB 7)) := by
    unfold one
    rw [if_neg (by decide)]
    simp only
    rw [fuL_seven hv]
    simp [fuR]
  have h2 : one (del (fuL v 4096) (kyB 7)) ⟨1, zz, ⟨#[]⟩, 1, 0, 0⟩ = (Tb.rs 0 1 nix, put (del (fuL v 4096) (kyB 7)) ⟨zz, 1, ⟨#[]⟩⟩) := by
    unfold one
    rw [if_neg (by decide)]
    simp only
    rw [hz]
    simp only
    rw [if_pos (Or.inl True.intro), if_neg (by decide), if_neg (by omega)]
  have hr : runs (fuL v 4096) [⟨4, kyB 7, ⟨#[]⟩, 0, 0, 0⟩, ⟨1, zz, ⟨#[]⟩, 1, 0, 0⟩] = ([Tb.rs 0 8 nix, Tb.rs 0 1 nix], put (del (fuL v 4096) (kyB 7)) ⟨zz, 1, ⟨#[]⟩⟩) := by
    unfold runs; rw [h1]; unfold runs; rw [h2]; rfl
  rw [dos_ok (ops := [⟨4, kyB 7, ⟨#[]⟩, 0, 0, 0⟩, ⟨1, zz, ⟨#[]⟩, 1, 0, 0⟩]) ?_ (by simp) (by simp) ?_, hr]
  · intro x hx
    simp only [List.mem_cons, List.not_mem_nil, or_false] at hx
    rcases hx with rfl | rfl
    · kernel_rfl
    · kernel_rfl
  · intro _ r hr'
    rw [hr] at hr'
    simp only [List.mem_cons, List.not_mem_nil, or_false] at hr'
    rcases hr' with rfl | rfl <;> rfl
theorem full_len {v : ByteArray} (hv : v.size ≤ 4096) : (put (del (fuL v 4096) (kyB 7)) ⟨zz, 1, ⟨#[]⟩⟩).length = 4096 := by
  have hz : row? (del (fuL v 4096) (kyB 7)) zz = none := by rw [row?_del, if_neg (kyB_zz (by omega)), fuL_zz]
  have hl := del_old (fuL_tok hv).rise (fuL_seven hv)
  rw [fuL_len] at hl
  have h := put_new (l := del (fuL v 4096) (kyB 7)) (r := ⟨zz, 1, ⟨#[]⟩⟩) (del_rise (fuL_tok hv).rise _) hz
  rw [h]; omega

theorem conv_two (W : World) {k : Nat} (hk : k < 4096) :
    (convert 51 9 (.slice (some ⟨W.heap.size, 0, none⟩) 2 2)).run Try.prog (W.alloc (.cells #[.int .u8 (97 + (k : Int) / 256), .int .u8 ((k : Int) % 256)] 5)) = .ok (.string (kyB k)) (W.alloc (.cells #[.int .u8 (97 + (k : Int) / 256), .int .u8 ((k : Int) % 256)] 5)) := by
  exact run_convert_bytes_back (P := Try.prog) _ 51 9 5 ⟨W.heap.size, 0, none⟩ 2 [UInt8.ofNat (97 + k / 256), UInt8.ofNat k] Try.underlying51 Try.underlying5 Try.underlying9 (fun j hj => by
    rw [Go.WideShapes.add_plain, Nat.zero_add, cell_of_block (heap_alloc_new W _)]
    match j, hj with
    | 0, _ =>
      show some (Value.int .u8 (97 + (k : Int) / 256)) = some (Value.int .u8 ((UInt8.ofNat (97 + k / 256)).toNat : Int))
      rw [u8n, show ((97 + k / 256) % 256) = 97 + k / 256 by omega]
      simp
    | 1, _ =>
      show some (Value.int .u8 ((k : Int) % 256)) = some (Value.int .u8 ((UInt8.ofNat k).toNat : Int))
      rw [u8n]
      simp)

set_option maxRecDepth 100000 in
set_option maxHeartbeats 1600000 in
theorem full_law (val : ByteArray) (w : World) (hv : val.size ≤ 140737488351232) :
    Calls Try.prog 4 #[.string val] w fun e w' => e = .returned (.bool true) ∧ Below w.heap.size w w' := by
  go_enter Try.func4, Try.ntmps4
  go_wp2_with fail
  refine (New_tb w).mono ?_
  rintro e w1 ⟨bt, rfl, ht1, lt1, hb1⟩
  go_wp2_with fail
  refine (works_tb w1).mono ?_
  rintro e w2 ⟨rfl, hb⟩
  have hb2 := hb1.trans (hb.mono hb1.size)
  have ht2 := ht1.below hb
  clear hb ht1 hb1
  by_cases h20 : 20 < val.size
  case' pos =>
    have i1 : (20 : Int) < (val.size : Int) := by omega
    go_wp2_with fail
    have hvs : (val.extract 0 20).size ≤ 4096 := by rw [ByteArray.size_extract]; omega
    clear i1 h20
    generalize val.extract 0 20 = v at hvs
  case' neg =>
    have i1 : ¬ (20 : Int) < (val.size : Int) := by omega
    go_wp2_with fail
    have hvs : val.size ≤ 4096 := by omega
    clear i1 h20
    obtain ⟨v, hvv⟩ : ∃ v, v = val := ⟨_, rfl⟩
    rw [← hvv] at hvs
    rw [← hvv]
    clear hvv
  all_goals
    have hz2 := hb2.size
    go_loopw [4, 5] (fun x i wr => ∃ k : Nat, k ≤ 4096 ∧ i = .int .i64 k ∧ wr.ownsRow w2.heap.size RowT 3 x k (rc rwenc (fuL v k)) ∧ Below w2.heap.size w2 wr) (fun _ i _ => 4096 - (intOf i).toNat)
    case atStart => exact ⟨0, by omega, rfl, World.ownsRow_nil _ _ _ _, Below.refl _ _⟩
    case round =>
      obtain ⟨k, hk, rfl, hown, hbel⟩ := hrel
      obtain ⟨a0, c0, rfl⟩ := own_slice hown
      have HO := hide hown
      clear hown
      by_cases hk' : k < 4096
      · have j1 : (k : Int) < 4096 := by omega
        have j2 : (0 : Int) ≤ (k : Int) := by omega
        have hcv := conv_two wr hk'
        have hwr := hbel.size
        have hfl := fuL_len v k
        have HP : Hid (wr.ownsRow w2.heap.size RowT 3 (.slice a0 k c0) (fuL v k).length (rc rwenc (fuL v k))) := by rw [hfl]; exact HO.out
        have HF := hide (fuL_succ v k)
        have HN : Hid (∀ o o' : Obj, ((wr.alloc o).alloc o').heap[wr.heap.size + 1]? = some o') := fun o o' => by
          have := heap_alloc_new (wr.alloc o) o'
          rwa [show (wr.alloc o).heap.size = wr.heap.size + 1 by simp] at this
        have HB : Hid (∀ o o' : Obj, Below w2.heap.size w2 ((wr.alloc o).alloc o')) := fun o o' => (hbel.alloc hwr o).alloc (by simp; omega) o'
        have HFl := hide hfl
        clear hfl hbel
        go_wp2_with (at_builtin; refine wpList_push (enc := rwenc) (k := 3) rfl (.tmp 24) (.tmp 37) RowsT rfl RowT noRw 40 Try.underlying26 row_info rfl (by decide) rwenc_len rwenc_one w2.heap.size _ (fuL v k) rfl ((HP.out.alloc _).alloc _) (wr.heap.size + 1) (fuR v k) rfl (HN.out _ _) (by rw [HFl.out]; omega) (by rw [HFl.out]; omega) (HB.out _ _).size ?_; intro v5 w5 hown5 hg5 hat5; have B5 := hide ((HB.out _ _).grown hg5 (HB.out _ _).size (fun k e => (HP.out.lt k e).1)); rw [← HF.out, fuL_len] at hown5; obtain ⟨a5, c5, rfl⟩ := Gk.own_slice hown5; have H5 := hide hown5; clear hown5 hg5 hat5)
        exact ⟨⟨k + 1, by omega, by go_num, H5.out, B5.out⟩, by simp [intOf]; omega⟩
      · obtain ⟨F, hF⟩ : ∃ F, F = fuL v 4096 := ⟨_, rfl⟩
        have hk4 : k = 4096 := by omega
        have hFl : F.length = 4096 := by rw [hF]; exact fuL_len v 4096
        have HO' : Hid (wr.ownsRow w2.heap.size RowT 3 (.slice a0 k c0) k (rc rwenc F)) := by rw [hF, ← hk4]; exact HO.out
        clear HO
        obtain rfl : k = F.length := hk4.trans hFl.symm
        have HT1 : Hid (takes [] F = (0, F)) := by rw [hF]; exact full_take hvs
        have HT2 : Hid (takes F [⟨zz, 1, ⟨#[]⟩⟩] = (22, F)) := by rw [hF]; exact full_more hvs
        have HD1 : Hid (dos F [⟨1, zz, ⟨#[]⟩, 1, 0, 0⟩] = (⟨[Tb.rs 22 0 nix], 0, 0⟩, F)) := by rw [hF]; exact full_add hvs
        have HD2 : Hid (dos F [⟨4, kyB 7, ⟨#[]⟩, 0, 0, 0⟩, ⟨1, zz, ⟨#[]⟩, 1, 0, 0⟩] = (⟨[Tb.rs 0 8 nix, Tb.rs 0 1 nix], 0, 0⟩, put (del F (kyB 7)) ⟨zz, 1, ⟨#[]⟩⟩)) := by rw [hF]; exact full_swap hvs
        have HPL : Hid ((put (del F (kyB 7)) ⟨zz, 1, ⟨#[]⟩⟩).length = 4096) := by rw [hF]; exact full_len hvs
        have h7 : 7 < F.length := by omega
        have HK7 : Hid (F[7].key = kyB 7) := by subst hF; rw [fuL_at]; rfl
        have bb : ((F.length : Int) != 4096) = false := by rw [hFl]; rfl
        have nn : ¬ (F.length : Int) < 4096 := by omega
        have n7 : (7 : Int) < (F.length : Int) := by omega
        clear hF hk4 hk hk' hvs
        have htr := ht2.below hbel
        have hRw := RL.of_own HO'.out
        have hTk := Take_tb bt [] a0 c0 F wr htr hRw.lies (by omega)
        rw [HT1.out] at hTk
        have hbr := hb2.trans (hbel.mono hz2)
        have HFL := hide hFl
        clear hFl
        go_wp2_with fail
        refine hTk.mono ?_
        rintro e w3 ⟨rfl, ht3, hu3⟩
        have hR3 := hRw.turn htr hu3
        have hb3 := turn_below hbr lt1 hu3
        clear hTk hRw htr hu3 hbr hbel HO'
        go_wp2_with fail
        refine (Len_tb bt F w3 ht3).mono ?_
        rintro e w4 ⟨rfl, hw4⟩
        rw [hw4]
        clear hw4
        have hba := below_a1 w3 (.cells #[.string zz, .int .i64 1, .string ⟨#[]⟩] RowT)
        have hza := heap_alloc_new w3 (.cells #[.string zz, .int .i64 1, .string ⟨#[]⟩] RowT)
        have hTk := Take_tb bt F (some ⟨w3.heap.size, 0, none⟩) 1 [(⟨zz, 1, ⟨#[]⟩⟩ : Rw)] _ (ht3.below hba) (Or.inr ⟨_, 0, rfl, (Array.getElem?_eq_some_iff.1 hza).1, fun j u hj => by rw [rc_one] at hj; rw [cell_of_block hza]; simpa [rwenc] using hj⟩) (by simp)
        rw [HT2.out] at hTk
        go_wp2_with fail
        refine hTk.mono ?_
        rintro e w5 ⟨rfl, ht5, hu5⟩
        have hR5 := (hR3.below hba).turn (ht3.below hba) hu5
        have hb5 := turn_below (hb3.trans (hba.mono hb3.size)) lt1 hu5
        clear hTk hR3 ht3 hu5 hb3 hba hza
        have hba := below_a1 w5 (.cells (rc oenc [(⟨1, zz, ⟨#[]⟩, 1, 0, 0⟩ : Opn)]).toArray OpT)
        have hza := heap_alloc_new w5 (.cells (rc oenc [(⟨1, zz, ⟨#[]⟩, 1, 0, 0⟩ : Opn)]).toArray OpT)
        have hDo := Do_tb bt F (some ⟨w5.heap.size, 0, none⟩) 1 [⟨1, zz, ⟨#[]⟩, 1, 0, 0⟩] _ (ht5.below hba) (ops_lie hza)
        rw [HD1.out] at hDo
        go_wp2_with fail
        refine hDo.mono ?_
        rintro e w6 ⟨ra, rcap, rl, rfl, hD⟩
        have hR6 := (hR5.below hba).turn (ht5.below hba) hD.turn
        have hb6 := turn_below (hb5.trans (hba.mono hb5.size)) lt1 hD.turn
        have ht6 := hD.tab
        obtain ⟨R, g, rfl, hR, rfl, hg, d0, d1, d2, d3, -⟩ := hD.single
        simp only [List.length_cons, List.length_nil]
        clear hDo hR5 ht5 hD hb5 hba hza d1 d2 d3
        obtain ⟨rb, ro, rfl, hrl, hc⟩ := hR6.lies.at (k := 3) rwenc_len 7 h7
        have c7 := hc 0 _ rfl
        rw [Nat.add_zero, HK7.out] at c7
        clear hc
        obtain ⟨k7, hk7⟩ : ∃ k7, k7 = kyB 7 := ⟨_, rfl⟩
        rw [← hk7] at c7 HD2 HPL
        clear hk7 HK7
        obtain ⟨T7, hT7⟩ : ∃ T7, T7 = put (del F k7) ⟨zz, 1, ⟨#[]⟩⟩ := ⟨_, rfl⟩
        rw [← hT7] at HPL HD2
        clear hT7
        have hba := below_a2 w6 (.cells #[.int .i64 0, .int .i64 0] FltT) (.cells (rc oenc [(⟨4, k7, ⟨#[]⟩, 0, 0, 0⟩ : Opn), ⟨1, zz, ⟨#[]⟩, 1, 0, 0⟩]).toArray OpT)
        have hza := heap_alloc_new (w6.alloc (.cells #[.int .i64 0, .int .i64 0] FltT)) (.cells (rc oenc [(⟨4, k7, ⟨#[]⟩, 0, 0, 0⟩ : Opn), ⟨1, zz, ⟨#[]⟩, 1, 0, 0⟩]).toArray OpT)
        rw [show (w6.alloc (.cells #[.int .i64 0, .int .i64 0] FltT)).heap.size = w6.heap.size + 1 by simp] at hza
        have hfa := ((below_a1 (w6.alloc (.cells #[.int .i64 0, .int .i64 0] FltT)) (.cells (rc oenc [(⟨4, k7, ⟨#[]⟩, 0, 0, 0⟩ : Opn), ⟨1, zz, ⟨#[]⟩, 1, 0, 0⟩]).toArray OpT)).block w6.heap.size (by simp)).trans (heap_alloc_new w6 _)
        have hDo := Do_tb bt F (some ⟨w6.heap.size + 1, 0, none⟩) 2 [⟨4, k7, ⟨#[]⟩, 0, 0, 0⟩, ⟨1, zz, ⟨#[]⟩, 1, 0, 0⟩] _ (ht6.below hba) (ops_lie hza)
        rw [HD2.out] at hDo
        go_wp2_with fail
        refine hDo.mono ?_
        rintro e w7 ⟨ra, rcap7, rl, rfl, hD⟩
        have hb7 := turn_below (hb6.trans (hba.mono hb6.size)) lt1 hD.turn
        have ht7 := hD.tab
        have hf7 := (hD.turn.block _ (Array.getElem?_eq_some_iff.1 hfa).1 (by have := ht6.lt; show w6.heap.size ≠ bt; omega)).trans hfa
        have hrl7 : rl.length = 2 := by have := congrArg List.length hD.eqs; simpa using this
        rw [hrl7]
        have y0 : w7.cell? ⟨w6.heap.size, 0, none⟩ = some (.int .i64 0) := cellB hf7 0 rfl
        have y1 : w7.cell? ⟨w6.heap.size, 1, none⟩ = some (.int .i64 0) := cellB hf7 1 rfl
        have q0 := unfrozen_of_block hf7 0
        have q1 := unfrozen_of_block hf7 1
        have hz6 := hb6.size
        clear hDo ht6 hD hb6 hba hza hR6 hfa hrl7 d0
        have ht8 : TH ((w7.setCell ⟨w6.heap.size, 0, none⟩ (.int .i64 0)).setCell ⟨w6.heap.size, 1, none⟩ (.int .i64 0)) bt T7 := ht7.other hf7 (by decide) (by decide) (fun k hk => set2_other w7 w6.heap.size k hk _ _)
        have hb8 : Below w.heap.size w ((w7.setCell ⟨w6.heap.size, 0, none⟩ (.int .i64 0)).setCell ⟨w6.heap.size, 1, none⟩ (.int .i64 0)) := set2_below hb7 hz6 _ _
        have e4 : ((T7.length : Int) == 4096) = true := by rw [HPL.out]; rfl
        go_wp2_with fail
        refine (Len_tb bt T7 _ ht8).mono ?_
        rintro e w9 ⟨rfl, hw9⟩
        have ht9 := hw9 ▸ ht8
        have hb9 := hw9 ▸ hb8
        clear ht8 hb8 hw9 ht7 hb7 hf7 y0 y1 q0 q1
        have hDr := Drop_tb bt T7 ⟨nix, nix⟩ w9 ht9
        rw [all_has] at hDr
        go_wp2_with fail
        refine hDr.mono ?_
        rintro e w10 ⟨rfl, ht10, hu10⟩
        have hb10 := turn_below hb9 lt1 hu10
        clear hDr ht9 hb9 hu10
        go_wp2
        go_ret
        exact ⟨rfl, hb10⟩

end Go.Proofs.Ythdempdiibjabaa.Tb
