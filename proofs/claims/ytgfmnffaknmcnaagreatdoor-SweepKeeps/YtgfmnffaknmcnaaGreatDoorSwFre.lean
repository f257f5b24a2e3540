/- Layer 12: a walk over sweep.go: Free, where all that is named can be freed. -/
import Derived.Test.YtgfmnffaknmcnaaGreatDoorSwCpy
import Derived.Test.YtgfmnffaknmcnaaGreatDoorVlFreshP
namespace Go.Proofs.YtgfmnffaknmcnaaGreatDoor.Sw
open Go.RowKit Go.Joins Go.Sort Go.Maps Gk
open Go.Proofs.YtgfmnffaknmcnaaGreatDoor.Dk (St Rising getL fileOr)
open Go.Proofs.YtgfmnffaknmcnaaGreatDoor.Vl (VH Up nums dat putS In Cln Stp wi PlT nm remS nE)

/-- files without those that were struck -/
def idl (N D : List Int) : Int → Option Value := fun x => if x ∈ N ∧ x ∉ D then some (.agg #[]) else none
theorem idl_nil (N : List Int) : idl N [] = setF N := by funext x; simp [idl, setF]
theorem idl_del (N D : List Int) (x : Int) : delF (idl N D) x = idl N (D ++ [x]) := by
  funext y
  by_cases e : y = x
  · subst e; rw [delF_same]; simp [idl]
  · rw [delF_other _ e]; simp [idl, e]
theorem idl_unit (N D : List Int) (y : Int) (v : Value) (h : idl N D y = some v) : v = .agg #[] := by
  unfold idl at h
  split at h
  · exact (Option.some.inj h).symm
  · cases h
/-- numbers as integers -/
abbrev zs (l : List Nat) : List Int := l.map (fun (n : Nat) => (n : Int))
theorem zs_rc (l : List Nat) : rc nenc' (zs l) = rc nE l := by
  induction l with
  | nil => rfl
  | cons x r ih => rw [show zs (x :: r) = (x : Int) :: zs r from rfl, rc_cons, rc_cons, ih]; rfl
theorem zs_mem {l : List Nat} {n : Nat} : (n : Int) ∈ zs l ↔ n ∈ l := by
  rw [List.mem_map]
  exact ⟨fun ⟨m, hm, e⟩ => by rwa [← Int.ofNat.inj e], fun h => ⟨n, h, rfl⟩⟩
/-- all of some files are removed -/
def remA (S : St) : List Nat → St
  | [] => S
  | n :: r => remA (remS S n) r
theorem remA_snoc (S : St) (l : List Nat) (n : Nat) : remA S (l ++ [n]) = remS (remA S l) n := by
  induction l generalizing S with
  | nil => rfl
  | cons x r ih => exact ih _
theorem rising_rem {S : St} {n : Nat} (h : Rising S.files) : Rising (remS S n).files := h.del
theorem remA_rise (S : St) (l : List Nat) (h : Rising S.files) : Rising (remA S l).files := by
  induction l generalizing S with
  | nil => exact h
  | cons x r ih => exact ih _ (rising_rem h)
theorem remA_nums {S : St} (h : Rising S.files) (l : List Nat) (m : Nat) : m ∈ nums (remA S l) ↔ m ∈ nums S ∧ m ∉ l := by
  induction l generalizing S with
  | nil => simp [remA]
  | cons x r ih =>
    rw [remA, ih (rising_rem h), Vl.remS_nums h]
    simp only [List.mem_cons]
    constructor
    · rintro ⟨⟨h1, h2⟩, h3⟩; exact ⟨h1, fun e => e.elim h2 h3⟩
    · rintro ⟨h1, h2⟩; exact ⟨⟨h1, fun e => h2 (Or.inl e)⟩, fun e => h2 (Or.inr e)⟩
theorem remA_get {S : St} (l : List Nat) (k : List UInt8) (hk : ∀ n ∈ l, k ≠ nm n) : getL k (remA S l).files = getL k S.files := by
  induction l generalizing S with
  | nil => rfl
  | cons x r ih =>
    rw [remA, ih fun n hn => hk n (by simp [hn])]
    show getL k (Dk.delL (nm x) S.files) = _
    rw [Dk.getL_delL, if_neg (hk x (by simp))]
theorem remA_up {S : St} (h : Up S) (l : List Nat) : Up (remA S l) := by
  induction l generalizing S with
  | nil => exact h
  | cons x r ih => exact ih ⟨h.fuse, h.down⟩

section
variable {w0 w : World} {own : Nat → Prop} {bd bv most top : Nat} {S : St}
theorem vh_grown {w' : World} (h : VH w0 w own bd bv most top S) {g : Nat} (hg : w.grownBy w' (some g)) (h1 : ¬ wi own bv g) (h2 : w0.heap.size ≤ g) : VH w0 w' own bd bv most top S :=
  ⟨h.disk.frame fun k hk ho => hg.block k hk fun e => h1 (Or.inl (by cases e; exact ho)), fun b hb => ⟨(h.old b hb).1, Nat.lt_of_lt_of_le (h.old b hb).2 hg.size⟩, (hg.block bv h.lt fun e => h1 (Or.inr (Option.some.inj e.symm))).trans h.block, h.no, h.ge, h.env, h.base.trans ⟨hg.os, hg.tape, hg.output, hg.size, fun k hk => hg.block k (Nat.lt_of_lt_of_le hk h.base.size) fun e => by have e := Option.some.inj e; omega⟩⟩
/-- what Free has, behind some files -/
structure FrL (w0 w : World) (own : Nat → Prop) (bd bv most top : Nat) (S : St) (bm : Nat) (N D : List Int) (Fs : List Nat) (wr : World) : Prop where
  out : ∃ (own' : Nat → Prop) (c : Nat), VH w0 wr own' bd bv most top (remA S Fs) ∧ Stp (wi own bv) (wi own' bv) w wr ∧ MapF intKs wr bm c (idl N (D ++ zs Fs)) ∧ ¬ wi own' bv bm

set_option maxHeartbeats 3200000 in
set_option maxRecDepth 100000 in
theorem Free_any (h : VH w0 w own bd bv most top S) (hu : Up S) (fa : Option Addr) (fc : Nat) (F : List Nat) (al : Option Addr) (cl : Nat) (l : List Pc) (hF : Lies w nenc' fa (zs F)) (hFb : ∀ b off, fa = some ⟨b, off, none⟩ → ¬ wi own bv b) (hFn : F.length ≤ 64) (hFd : F.Nodup) (hFm : ∀ f ∈ F, f ∈ nums S) (hl : Lies w penc al l) (hln : l.length ≤ 4096) (hfl : ∀ p ∈ l, I64 p.1) (hno : ∀ f ∈ F, ∀ p ∈ l, p.1 ≠ (f : Int)) :
    Calls Tryz.prog 13 #[.pointer (some ⟨bv, 0, none⟩), .slice fa F.length fc, .slice al l.length cl] w fun e w' => e = .returned (.tuple #[.int .i64 F.length, .int .i64 0]) ∧ ∃ own' : Nat → Prop, VH w0 w' own' bd bv most top (remA S F) ∧ Stp (wi own bv) (wi own' bv) w w' := by
  have mixed : Tryz.prog.follows .mixedOrders = true := by kernel_rfl
  have hT := many_any al l.length cl w
  rw [decide_eq_false (by omega)] at hT
  have hFi := Vl.Files_any h
  go_enter Tryz.func13, Tryz.ntmps13
  go_wp2_with fail
  refine hT.mono ?_
  rintro e w1 ⟨rfl, hw1⟩
  obtain rfl := hw1.symm
  clear hT
  go_wp2_with fail
  refine hFi.mono ?_
  rintro e w2 ⟨v2, rfl, hr2, hb2⟩
  obtain ⟨a2, c2, rfl⟩ := own_slice hr2
  have hl2 : Lies w2 nenc' a2 (zs (nums S)) := by
    have := Row.lies (enc := nE) (k := 1) (e := Vl.IntT) (n := (nums S).length) (cap := c2) (own_mono hr2 (Nat.zero_le _))
    rcases this with h0 | ⟨b, off, e, hlt, hc⟩
    · exact Or.inl (by rw [h0]; rfl)
    · exact Or.inr ⟨b, off, e, hlt, fun j u hj => hc j u (by rw [zs_rc] at hj; exact hj)⟩
  have hnl : (nums S).length ≤ 64 := Nat.le_trans Vl.nums_len h.ok.many
  have hS := setOf_any a2 c2 (zs (nums S)) w2 hl2 (by rw [List.length_map]; omega) (fun x hx => by
    obtain ⟨n, hn, rfl⟩ := List.mem_map.1 hx
    have := Vl.nums_bound hn
    show -9223372036854775808 ≤ (n : Int) ∧ (n : Int) ≤ 9223372036854775807
    omega)
  rw [List.length_map] at hS
  clear hFi
  go_wp2_with fail
  refine hS.mono ?_
  rintro e w3 ⟨bm, rfl, hbm, hM, hb3⟩
  have hb03 := hb2.trans (hb3.mono hb2.size)
  have hnew : ∀ b, w.heap.size ≤ b → ¬ wi own bv b := fun b hb e => by
    rcases e with e | e
    · have := (h.old b e).2; omega
    · have := h.lt; omega
  have hbm0 : w.heap.size ≤ bm := Nat.le_trans hb2.size hbm
  have HH := hide h
  have HN := hide (hnew bm hbm0)
  have HM := hide hM
  have HB := hide hb03
  clear hS hr2 hl2 hb2 hb3 hM hnew hbm h
  go_wp2
  go_loopw [24] (fun i wr => ∃ k : Nat, k ≤ l.length ∧ i = .int .i64 k ∧ MapF intKs wr bm (nums S).length (idl (zs (nums S)) ((l.take k).map (·.1))) ∧ Below w.heap.size w wr) (fun i _ => l.length - (intOf i).toNat)
  case atStart => exact ⟨0, Nat.zero_le _, rfl, by rw [show (l.take 0).map (·.1) = ([] : List Int) from rfl, idl_nil]; exact HM.out, HB.out⟩
  case round =>
    clear HM HB hb03
    obtain ⟨k, hk, rfl, hM, hb⟩ := hrel
    by_cases hlt : k < l.length
    · obtain ⟨b, off, rfl, hbl, hc⟩ := (hl.below hb).at penc_len k hlt
      have i1 : (0 : Int) ≤ (k : Int) := by omega
      have i2 : (k : Int) < (l.length : Int) := by omega
      have c0 := hc 0 _ rfl
      have c1 := hc 1 _ rfl
      have c2 := hc 2 _ rfl
      rw [Nat.add_zero] at c0
      have hx := hfl l[k] (List.getElem_mem hlt)
      have hnx : (l.take (k + 1)).map (·.1) = (l.take k).map (·.1) ++ [l[k].1] := by rw [List.take_succ_eq_append_getElem hlt, List.map_append]; rfl
      generalize l[k] = x at c0 c1 c2 hx hnx
      obtain ⟨x0, x1, x2⟩ := x
      replace c0 : wr.cell? ⟨b, off + k * 3, none⟩ = some (.int .i64 x0) := c0
      replace c1 : wr.cell? ⟨b, off + k * 3 + 1, none⟩ = some (.int .i64 x1) := c1
      replace c2 : wr.cell? ⟨b, off + k * 3 + 2, none⟩ = some (.int .i64 x2) := c2
      obtain ⟨w1, hw1⟩ : ∃ w1, w1 = wr.alloc (.cells #[.int .i64 x0, .int .i64 x1, .int .i64 x2] PlT) := ⟨_, rfl⟩
      have hb1 : Below wr.heap.size wr w1 := by rw [hw1]; exact below_alloc1 _ _
      obtain ⟨w2, hrun, hM2, hg2⟩ := (hM.below hb1).drop (t := SetT) (e := UnT) Tryz.underlying106 hx 0
      have hrun' : (Builtin.delete_ #[SetT, 3] 0 #[.map (some bm), .int .i64 x0]).run Tryz.prog (wr.alloc (.cells #[.int .i64 x0, .int .i64 x1, .int .i64 x2] PlT)) = .ok (.tuple #[]) w2 := by rw [← hw1]; exact hrun
      have hb2 : Below w.heap.size w w2 := (hb.trans (hb1.mono hb.size)).grown hg2 (Nat.le_trans hb.size hb1.size) fun g' e => by cases e; exact hbm0
      have hM2' : MapF intKs w2 bm (nums S).length (idl (zs (nums S)) ((l.take (k + 1)).map (·.1))) := by rw [hnx, ← idl_del]; exact hM2
      have HF := hide (And.intro hM2' hb2)
      clear hc hrun hM2 hM2' hb2 hg2 hM hb hnx hx hw1 hb1
      go_wp2
      go_roundw
      case rel => exact ⟨k + 1, by omega, by go_num, HF.out.1, HF.out.2⟩
      case measure => simp [intOf]; omega
    · obtain rfl : k = l.length := by omega
      have i2 : ¬ (l.length : Int) < (l.length : Int) := by omega
      rw [List.take_length] at hM
      have hS0 : FrL w0 w own bd bv most top S bm (zs (nums S)) (l.map (·.1)) [] wr := ⟨own, (nums S).length, HH.out.below hb, Stp.below hb, by rw [show zs [] = [] from rfl, List.append_nil]; exact hM, HN.out⟩
      have HS0 := hide hS0
      clear hS0 hM hb hl
      go_wp2
      go_loopw [11, 34] (fun rv i wr => ∃ k : Nat, k ≤ F.length ∧ rv = .int .i64 k ∧ i = .int .i64 k ∧ FrL w0 w own bd bv most top S bm (zs (nums S)) (l.map (·.1)) (F.take k) wr) (fun _ i _ => F.length - (intOf i).toNat)
      case atStart => exact ⟨0, Nat.zero_le _, rfl, rfl, HS0.out⟩
      case round =>
        clear HS0
        obtain ⟨k, hk, rfl, rfl, hL⟩ := hrel
        obtain ⟨own', c, hV, hst, hM, hbn⟩ := hL.out
        by_cases hlt : k < F.length
        · have hFr : Lies wr nenc' fa (zs F) := hF.later (fun b off e hlt => (hst.block hlt (hFb b off e)).1) hst.only.size
          obtain ⟨b, off, rfl, hbl, hc⟩ := hFr.at nenc'_len k (by rw [List.length_map]; exact hlt)
          have i1 : (0 : Int) ≤ (k : Int) := by omega
          have i2 : (k : Int) < (F.length : Int) := by omega
          have c0 := hc 0 _ rfl
          rw [Nat.mul_one, Nat.add_zero] at c0
          have hmS := hFm F[k] (List.getElem_mem hlt)
          have hnk : F[k] ∉ F.take k := fun e => by
            have := hFd
            rw [← List.take_append_drop k F, List.drop_eq_getElem_cons hlt, List.nodup_append] at this
            exact this.2.2 _ e _ (List.mem_cons_self ..) rfl
          have hnD : ∀ p ∈ l, p.1 ≠ (F[k] : Int) := hno F[k] (List.getElem_mem hlt)
          have htk : F.take (k + 1) = F.take k ++ [F[k]] := List.take_succ_eq_append_getElem hlt
          rw [show (zs F)[k]'(by rw [List.length_map]; exact hlt) = (F[k] : Int) from List.getElem_map ..] at c0
          generalize F[k] = x at c0 hmS hnk hnD htk
          have hxb := Vl.nums_bound hmS
          have hxI : I64 (x : Int) := by show -9223372036854775808 ≤ (x : Int) ∧ (x : Int) ≤ 9223372036854775807; omega
          have hH := has_any wr hM (x : Int) hxI (fun y v e => idl_unit _ _ y v e)
          have hyes : (idl (zs (nums S)) (l.map (·.1) ++ zs (F.take k)) (x : Int)).isSome = true := by
            have h1 : (x : Int) ∈ zs (nums S) := zs_mem.2 hmS
            have h2 : (x : Int) ∉ l.map (·.1) ++ zs (F.take k) := by
              rw [List.mem_append]
              rintro (e | e)
              · obtain ⟨p, hp, e⟩ := List.mem_map.1 e
                exact hnD p hp e
              · exact hnk (zs_mem.1 e)
            unfold idl; rw [if_pos ⟨h1, h2⟩]; rfl
          rw [hyes] at hH
          have hris : Rising (remA S (F.take k)).files := hV.ok.rising
          have hmR : x ∈ nums (remA S (F.take k)) := (remA_nums HH.out.ok.rising _ x).2 ⟨hmS, hnk⟩
          obtain ⟨ff, hff⟩ := Vl.nums_get hris hmR
          have hrm := (remA_up hu (F.take k)).rem (show x ≤ 1048577 by omega) hff
          have HL := hide (And.intro hV (And.intro hst (And.intro hM hbn)))
          have HR := hide (And.intro hrm (And.intro hmR htk))
          clear hL hV hst hM hbn hrm hmR htk hc hyes hnD hnk hmS hff hris hFr
          go_wp2_with fail
          refine hH.mono ?_
          rintro e w1 ⟨rfl, hb1⟩
          have hV1 := HL.out.1.below hb1
          have hRm := Vl.Remove_yes hV1 HR.out.2.1 (by rw [HR.out.1])
          rw [HR.out.1] at hRm
          have HB1 := hide hb1
          clear hH hV1 hb1
          go_wp2_with fail
          refine hRm.mono ?_
          rintro e w2 ⟨rfl, own2, hV2, hst2⟩
          obtain ⟨hM2, hbn2⟩ := MapF.step (HL.out.2.2.1.below HB1.out) HL.out.2.2.2 hst2
          obtain ⟨w3, hrun, hM3, hg3⟩ := hM2.drop (t := SetT) (e := UnT) Tryz.underlying106 hxI 0
          have hrun' : (Builtin.delete_ #[SetT, 3] 0 #[.map (some bm), .int .i64 (x : Int)]).run Tryz.prog w2 = .ok (.tuple #[]) w3 := hrun
          have hst02 : Stp (wi own bv) (wi own2 bv) w w2 := (HL.out.2.1.trans (Stp.below HB1.out)).trans hst2
          have hst3 : Stp (wi own bv) (wi own2 bv) w w3 := ⟨hst02.sub, hst02.only.trans (Dk.Only.of_grown hg3 fun g e => by cases e; exact Or.inr hbm0)⟩
          have hV3 : VH w0 w3 own2 bd bv most top (remA S (F.take (k + 1))) := by
            rw [HR.out.2.2, remA_snoc]
            exact vh_grown hV2 hg3 hbn2 (Nat.le_trans HH.out.base.size hbm0)
          have hM3' : MapF intKs w3 bm c (idl (zs (nums S)) (l.map (·.1) ++ zs (F.take (k + 1)))) := by
            rw [HR.out.2.2, show zs (F.take k ++ [x]) = zs (F.take k) ++ [(x : Int)] from List.map_append, ← List.append_assoc, ← idl_del]
            exact hM3
          have HF3 : Hid (FrL w0 w own bd bv most top S bm (zs (nums S)) (l.map (·.1)) (F.take (k + 1)) w3) := ⟨own2, c, hV3, hst3, hM3', hbn2⟩
          clear hRm hrun hM3 hM3' hV3 hst3 hst02 hM2 hg3 hV2 hst2 hbn2 HL HR HB1 c0
          go_wp2
          go_roundw
          case rel => exact ⟨k + 1, by omega, by go_num, by go_num, HF3.out⟩
          case measure => simp [intOf]; omega
        · obtain rfl : k = F.length := by omega
          have i2 : ¬ (F.length : Int) < (F.length : Int) := by omega
          rw [List.take_length] at hV
          have HE : Hid (∃ own' : Nat → Prop, VH w0 wr own' bd bv most top (remA S F) ∧ Stp (wi own bv) (wi own' bv) w wr) := ⟨own', hV, hst⟩
          clear hV hst hM hbn hL
          go_wp2
          go_ret2
          exact ⟨rfl, HE.out⟩
end

end Go.Proofs.YtgfmnffaknmcnaaGreatDoor.Sw
