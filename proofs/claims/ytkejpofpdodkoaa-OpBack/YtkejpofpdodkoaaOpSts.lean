/- Layer 8: OpStamps: a request of operations that may be is one itself, whatever their order. -/
import Derived.Test.YtkejpofpdodkoaaOpEnc
import Derived.Test.YtkejpofpdodkoaaOpArgs
import Derived.Test.YtkejpofpdodkoaaGRow
namespace Go.Proofs.Ytkejpofpdodkoaa.Oq
open Go.RowKit Go.Joins Go.Proofs.Ytkejpofpdodkoaa.Gk

theorem op_info : (Try.prog.info? 29).map (fun i => (i.zero, i.size, i.bytes)) = some (some (.agg #[.int .i64 0, .string ⟨#[]⟩, .string ⟨#[]⟩, .int .i64 0, .int .i64 0, .int .i64 0]), 6, 64) := by kernel_rfl

theorem st_client (n : Int) : within (wrap64 ((IntKind.u64.wrap n).tmod 1001)) 0 1000 = true := by
  rw [within_iff, IntKind.wrap_u64, wrap64]
  have h : 0 ≤ n % 18446744073709551616 := by omega
  rw [Int.tmod_eq_emod_of_nonneg h]
  omega
theorem st_seq (n : Int) : within (wrap64 (1 + wrap64 ((IntKind.u64.wrap n).tmod 1048576))) 1 1048576 = true := by
  rw [within_iff, IntKind.wrap_u64, wrap64, wrap64]
  have h : 0 ≤ n % 18446744073709551616 := by omega
  rw [Int.tmod_eq_emod_of_nonneg h]
  omega
theorem st_may {c s : Int} {L : List Opn} (hc : within c 0 1000 = true) (hs : within s 1 1048576 = true) (hl : L.length ≤ 32) (ha : L.all Opn.may = true) : Req.may ⟨c, s, L⟩ = decide (0 < L.length) := by
  unfold Req.may asked
  rw [hc, hs, ha]
  simp only [Bool.and_true, Bool.true_and, within]
  rw [← Bool.decide_and]
  exact decide_eq_decide.2 (by omega)
theorem own_liesO {w : World} {B n : Nat} {v : Value} {l : List Opn} (h : w.ownsRow B 29 6 v n (rc oenc l)) (hn : n = l.length) : ∃ a cap, v = .slice a n cap ∧ Gk.Lies w oenc a l := by
  subst hn
  have h0 : Row w oenc 29 6 v l := Gk.own_mono h (Nat.zero_le _)
  obtain ⟨a, cap, rfl⟩ := Gk.own_slice h
  exact ⟨a, cap, rfl, h0.lies⟩
theorem all_snoc {L : List Opn} {x : Opn} (h : L.all Opn.may = true) (hx : x.may = true) : (L ++ [x]).all Opn.may = true := by
  rw [List.all_append, h]; simp [hx]

set_option maxRecDepth 100000 in
set_option maxHeartbeats 4000000 in
theorem stamps_law (a : Option Addr) (cap : Nat) (l : List Opn) (client seq : Int) (w : World) (hat : OpsAt w a cap l) :
    Calls Try.prog 6 #[.slice a l.length cap, .int .i64 client, .int .i64 seq] w fun e w' => e = .returned (.bool true) ∧ Below w.heap.size w w' := by
  have hl := hat.lies
  have hln : l.length ≤ 9223372036854775807 := Nat.le_trans hat.room hat.max
  have hcl := hide (st_client client)
  have hsq := hide (st_seq seq)
  go_enter Try.func6, Try.ntmps6
  go_wp2_with fail
  refine (works_op w).mono ?_
  rintro e w1 ⟨rfl, hb1⟩
  go_wp2
  go_loopw [7, 8] (fun v i wr => ∃ (k : Nat) (L : List Opn), k ≤ l.length ∧ i = .int .i64 k ∧ L.length ≤ 32 ∧ Hid (L.all Opn.may = true) ∧ wr.ownsRow w.heap.size 29 6 v L.length (rc oenc L) ∧ Below w.heap.size w wr) (fun _ i _ => l.length - (intOf i).toNat)
  case atStart => exact ⟨0, [], by omega, rfl, by simp, hide rfl, World.ownsRow_nil _ _ _ _, hb1⟩
  case round =>
    obtain ⟨k, L, hk, rfl, hL, hmay, hown, hbel⟩ := hrel
    have hwr := hbel.size
    obtain ⟨aL, cL, rfl⟩ := Gk.own_slice hown
    clear hb1
    by_cases hgo : k < l.length ∧ L.length < 32
    · obtain ⟨hlt, h32⟩ := hgo
      have g1 : ((k : Int) < (l.length : Int)) := by omega
      have g2 : ((L.length : Int) < 32) := by omega
      obtain ⟨b, off, rfl, hbl, hc⟩ := (hl.later (fun b _ _ h => hbel.block b h) hwr).at oenc_len k hlt
      have c0 := hc 0 _ rfl
      have c1 := hc 1 _ rfl
      have c2 := hc 2 _ rfl
      have c3 := hc 3 _ rfl
      have c4 := hc 4 _ rfl
      have c5 := hc 5 _ rfl
      rw [Nat.add_zero] at c0
      clear hc
      generalize l[k] = x at *
      go_wp2_with fail
      refine (Check_op x _).mono ?_
      rintro e w2 ⟨rfl, hb2⟩
      have hbel2 := hbel.trans (hb2.mono hwr)
      have hown2 := Gk.own_below hown hb2
      have hz2 := hb2.size
      have d0 := (hb2.cell (p := ⟨b, off + k * 6, none⟩) hbl).trans c0
      have d1 := (hb2.cell (p := ⟨b, off + k * 6 + 1, none⟩) hbl).trans c1
      have d2 := (hb2.cell (p := ⟨b, off + k * 6 + 2, none⟩) hbl).trans c2
      have d3 := (hb2.cell (p := ⟨b, off + k * 6 + 3, none⟩) hbl).trans c3
      have d4 := (hb2.cell (p := ⟨b, off + k * 6 + 4, none⟩) hbl).trans c4
      have d5 := (hb2.cell (p := ⟨b, off + k * 6 + 5, none⟩) hbl).trans c5
      clear c0 c1 c2 c3 c4 c5 hown hbel
      cases hx : x.may
      · rw [show chkI false = 80 from rfl]
        go_wp2
        go_roundw
        case rel => exact ⟨k + 1, L, by omega, by go_num, hL, hmay, hown2, hbel2⟩
        case measure => simp [intOf]; omega
      · rw [show chkI true = 0 from rfl]
        go_wp2_with (at_builtin; refine wpList_push (enc := oenc) rfl (.tmp 31) (.tmp 36) 22 rfl 29 _ 64 Try.underlying22 op_info rfl (by decide) oenc_len oenc_one w.heap.size _ L rfl (hown2.alloc _) w2.heap.size x rfl ?p1 (by omega) (by omega) (by simp; omega) ?_)
        case p1 => exact heap_alloc_new w2 _
        intro v3 w3 hown3 hg3 hat3
        have hbel3 : Below w.heap.size w w3 := (hbel2.alloc (by omega) _).grown hg3 (by simp; omega) (fun k hk => (hown2.lt k hk).1)
        obtain ⟨a3, cc3, rfl⟩ := Gk.own_slice hown3
        clear hg3 hat3 hown2 hbel2 d0 d1 d2 d3 d4 d5
        have hL1 : (L ++ [x]).length = L.length + 1 := by simp
        have hmx := hide (all_snoc hmay.out hx)
        generalize L ++ [x] = L1 at *
        clear hmay
        go_wp2
        go_roundw
        case rel => exact ⟨k + 1, L1, by omega, by go_num, by omega, hmx, by rw [hL1]; exact hown3, hbel3⟩
        case measure => simp [intOf]; omega
    · have hstop : Hid (((k : Int) < (l.length : Int) ∧ ¬ (L.length : Int) < 32) ∨ ¬ (k : Int) < (l.length : Int)) := by
        by_cases h1 : k < l.length
        · exact Or.inl ⟨by omega, by omega⟩
        · exact Or.inr (by omega)
      clear hgo
      obtain ⟨aO, cO, eO, hlO⟩ := own_liesO hown rfl
      cases eO
      have hLm := hide (st_may hcl.out hsq.out hL hmay.out)
      have hrv : L.reverse.length = L.length := List.length_reverse
      have hLr := hide (st_may (L := L.reverse) hcl.out hsq.out (by omega) (by rw [List.all_reverse]; exact hmay.out))
      clear hl hat hmay hown
      rcases hstop.out with ⟨g1, g2⟩ | g1
      all_goals
        go_wp2
        obtain ⟨w0, hw0⟩ : ∃ w0 : World, w0 = wr := ⟨_, rfl⟩
        rw [← hw0] at hbel hwr hlO ⊢
        clear hw0
        go_loopw [9, 40] (fun v i wx => ∃ j : Nat, j ≤ L.length ∧ i = .int .i64 j ∧ wx.ownsRow w0.heap.size 29 6 v j (rc oenc (L.reverse.take j)) ∧ Below w0.heap.size w0 wx) (fun _ i _ => L.length - (intOf i).toNat)
        case atStart => exact ⟨0, by omega, rfl, World.ownsRow_nil _ _ _ _, Below.refl _ _⟩
        case round =>
          clear hstop
          obtain ⟨j, hj, rfl, hown, hbx⟩ := hrel
          have hzx := hbx.size
          obtain ⟨wx, hwx⟩ : ∃ wx : World, wx = wr := ⟨_, rfl⟩
          rw [← hwx] at hown hbx hzx ⊢
          clear hwx
          obtain ⟨aR, cR, rfl⟩ := Gk.own_slice hown
          by_cases hlt : j < L.length
          · have hjl : j < L.reverse.length := by rw [hrv]; exact hlt
            have HT := hide (List.take_succ_eq_append_getElem hjl)
            have HR := hide (List.getElem_reverse hjl)
            obtain ⟨q, hq⟩ : ∃ q, q = L.length - 1 - j := ⟨_, rfl⟩
            have hqi : (L.length : Int) - 1 - (j : Int) = (q : Int) := by omega
            have hql : q < L.length := by omega
            have HQ : Hid (L.reverse[j] = L[q]) := by
              show _ = _
              rw [HR.out]
              congr 1
              exact hq.symm
            clear HR hq
            obtain ⟨b, off, rfl, hbl, hc⟩ := (hlO.below hbx).at oenc_len q hql
            have c0 := hc 0 _ rfl
            have c1 := hc 1 _ rfl
            have c2 := hc 2 _ rfl
            have c3 := hc 3 _ rfl
            have c4 := hc 4 _ rfl
            have c5 := hc 5 _ rfl
            rw [Nat.add_zero] at c0
            clear hc
            generalize L[q] = x at *
            have hTl : (L.reverse.take j).length = j := by rw [List.length_take, hrv, Nat.min_eq_left hj]
            have hTl' := hide hTl
            have hown' : wx.ownsRow w0.heap.size 29 6 (.slice aR j cR) (L.reverse.take j).length (rc oenc (L.reverse.take j)) := by rw [hTl]; exact hown
            clear hTl hown
            go_wp2_with (at_builtin; refine wpList_push (enc := oenc) rfl (.tmp 43) (.tmp 52) 22 rfl 29 _ 64 Try.underlying22 op_info rfl (by decide) oenc_len oenc_one w0.heap.size _ (L.reverse.take j) rfl (hown'.alloc _) wx.heap.size x rfl ?p1 (by rw [hTl'.out]; omega) (by rw [hTl'.out]; omega) (by simp; omega) ?_)
            case p1 => exact heap_alloc_new wx _
            intro v3 w3 hown3 hg3 hat3
            have hbx3 : Below w0.heap.size w0 w3 := (hbx.alloc hzx _).grown hg3 (by simp; omega) (fun k hk => (hown'.lt k hk).1)
            rw [← HQ.out, ← HT.out] at hown3
            obtain ⟨a3, cc3, rfl⟩ := Gk.own_slice hown3
            clear hg3 hat3 hown' hbx c0 c1 c2 c3 c4 c5
            go_wp2
            go_roundw
            case rel => exact ⟨j + 1, by omega, by go_num, hown3, hbx3⟩
            case measure => simp [intOf]; omega
          · have hjl : j = L.length := by omega
            subst hjl
            rw [show L.reverse.take L.length = L.reverse by rw [← hrv]; exact List.take_length] at hown
            obtain ⟨aS, cS, eS, hlS⟩ := own_liesO hown hrv.symm
            cases eS
            have hbw := hbel.trans (hbx.mono hwr)
            have hzw := hbw.size
            have hlX := hlO.below hbx
            clear hown hbx hbel hlO
            by_cases h0 : L.length = 0
            · have hm1 : Req.may ⟨wrap64 ((IntKind.u64.wrap client).tmod 1001), wrap64 (1 + wrap64 ((IntKind.u64.wrap seq).tmod 1048576)), L⟩ = false := by rw [hLm.out]; exact decide_eq_false (by omega)
              have hm2 : Req.may ⟨wrap64 ((IntKind.u64.wrap client).tmod 1001), wrap64 (1 + wrap64 ((IntKind.u64.wrap seq).tmod 1048576)), L.reverse⟩ = false := by rw [hLr.out, hrv]; exact decide_eq_false (by omega)
              have hz0 : ((L.length : Int) == 0) = true := by rw [beq_iff_eq]; omega
              have hrv' := hide hrv
              clear h0 hrv
              go_wp2_with fail
              refine (CheckAll_op ⟨_, _, L⟩ aL cL _ hlX (by show L.length ≤ _; omega)).mono ?_
              rintro e w5 ⟨rfl, hb5⟩
              rw [hm1, show chkI false = 80 from rfl]
              have hb6 := hbw.trans (hb5.mono hzw)
              have hC := CheckAll_op ⟨wrap64 ((IntKind.u64.wrap client).tmod 1001), wrap64 (1 + wrap64 ((IntKind.u64.wrap seq).tmod 1048576)), L.reverse⟩ aR cR w5 (hlS.below hb5) (by show L.reverse.length ≤ _; rw [hrv'.out]; omega)
              rw [Req.v] at hC
              simp only [hrv'.out] at hC
              rw [hm2, show chkI false = 80 from rfl] at hC
              go_wp2_with fail
              refine hC.mono ?_
              rintro e w7 ⟨rfl, hb7⟩
              have hb8 := hb6.trans (hb7.mono hb6.size)
              go_wp2
              go_ret
              exact ⟨rfl, hb8⟩
            · have hm1 : Req.may ⟨wrap64 ((IntKind.u64.wrap client).tmod 1001), wrap64 (1 + wrap64 ((IntKind.u64.wrap seq).tmod 1048576)), L⟩ = true := by rw [hLm.out]; exact decide_eq_true (by omega)
              have hm2 : Req.may ⟨wrap64 ((IntKind.u64.wrap client).tmod 1001), wrap64 (1 + wrap64 ((IntKind.u64.wrap seq).tmod 1048576)), L.reverse⟩ = true := by rw [hLr.out, hrv]; exact decide_eq_true (by omega)
              have hz0 : ((L.length : Int) == 0) = false := by rw [beq_eq_false_iff_ne]; omega
              have hrv' := hide hrv
              clear h0 hrv
              go_wp2_with fail
              refine (CheckAll_op ⟨_, _, L⟩ aL cL _ hlX (by show L.length ≤ _; omega)).mono ?_
              rintro e w5 ⟨rfl, hb5⟩
              rw [hm1, show chkI true = 0 from rfl]
              have hb6 := hbw.trans (hb5.mono hzw)
              have hC := CheckAll_op ⟨wrap64 ((IntKind.u64.wrap client).tmod 1001), wrap64 (1 + wrap64 ((IntKind.u64.wrap seq).tmod 1048576)), L.reverse⟩ aR cR w5 (hlS.below hb5) (by show L.reverse.length ≤ _; rw [hrv'.out]; omega)
              rw [Req.v] at hC
              simp only [hrv'.out] at hC
              rw [hm2, show chkI true = 0 from rfl] at hC
              go_wp2_with fail
              refine hC.mono ?_
              rintro e w7 ⟨rfl, hb7⟩
              have hb8 := hb6.trans (hb7.mono hb6.size)
              go_wp2
              go_ret
              exact ⟨rfl, hb8⟩

end Go.Proofs.Ytkejpofpdodkoaa.Oq
