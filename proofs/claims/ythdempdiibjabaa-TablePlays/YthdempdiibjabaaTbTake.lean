/- Layer 9: Take: the plain mathematics; walks over rows.go: isRow, checkRows, fresh. -/
import Derived.Test.YthdempdiibjabaaTbRows
namespace Go.Proofs.Ythdempdiibjabaa.Tb
open Go.RowKit Go.Joins Go.Proofs.Ythdempdiibjabaa.Gk Go.Proofs.Ythdempdiibjabaa.Oq Go.Proofs.Ythdempdiibjabaa.Sp

def Rw.okB (r : Rw) : Bool := decide (1 ≤ r.key.size) && decide (r.key.size ≤ 64) && decide (1 ≤ r.stamp) && decide (r.stamp ≤ 1099511627776) && decide (r.val.size ≤ 4096)
theorem Rw.okB_iff (r : Rw) : r.okB = true ↔ r.Ok := by
  unfold Rw.okB
  simp only [Bool.and_eq_true, decide_eq_true_eq]
  exact ⟨fun ⟨⟨⟨⟨a, b⟩, c⟩, d⟩, e⟩ => ⟨a, b, c, d, e⟩, fun h => ⟨⟨⟨⟨h.k1, h.k2⟩, h.s1⟩, h.s2⟩, h.v⟩⟩
/-- keys rise -/
def riseB : List Rw → Bool
  | a :: b :: r => B4 a.key b.key && riseB (b :: r)
  | _ => true
theorem riseB_rise : ∀ {l : List Rw}, riseB l = true → Rise l
  | [], _ => List.Pairwise.nil
  | [_], _ => List.pairwise_singleton ..
  | a :: b :: r, h => by
    simp only [riseB, Bool.and_eq_true] at h
    have ih := riseB_rise h.2
    refine List.pairwise_cons.2 ⟨fun x hx => ?_, ih⟩
    rcases List.mem_cons.1 hx with rfl | hx
    · exact h.1
    · exact B4.tr h.1 (ih.head x hx)
theorem rise_riseB : ∀ {l : List Rw}, Rise l → riseB l = true
  | [], _ => rfl
  | [_], _ => rfl
  | a :: b :: r, h => by
    simp only [riseB, Bool.and_eq_true]
    exact ⟨h.head b (List.mem_cons_self ..), rise_riseB h.cons⟩
theorem riseB_at : ∀ {l : List Rw} {i : Nat} (h : i + 1 < l.length), B4 l[i].key l[i + 1].key = false → riseB l = false
  | [], _, h, _ => by simp at h
  | [_], i, h, _ => by simp at h
  | a :: b :: r, 0, _, hb => by simp only [riseB]; rw [show B4 a.key b.key = false from hb]; rfl
  | a :: b :: r, i + 1, h, hb => by
    have := riseB_at (l := b :: r) (i := i) (by simpa using h) (by simpa using hb)
    simp only [riseB]; rw [this]; simp
theorem riseB_all : ∀ {l : List Rw}, (∀ i (h : i + 1 < l.length), B4 l[i].key l[i + 1].key = true) → riseB l = true
  | [], _ => rfl
  | [_], _ => rfl
  | a :: b :: r, h => by
    simp only [riseB, Bool.and_eq_true]
    refine ⟨h 0 (by simp), riseB_all fun i hi => ?_⟩
    have := h (i + 1) (by simpa using hi)
    simpa using this
/-- how many have keys that are not there -/
def freshN (l : List Rw) : List Rw → Nat
  | [] => 0
  | r :: m => (if there l r.key then 0 else 1) + freshN l m
theorem freshN_snoc : ∀ (l m : List Rw) (r : Rw), freshN l (m ++ [r]) = freshN l m + if there l r.key then 0 else 1
  | _, [], _ => by simp [freshN]
  | l, x :: m, r => by
    show (if there l x.key then 0 else 1) + freshN l (m ++ [r]) = _
    rw [freshN_snoc l m r]
    show _ = (if there l x.key then 0 else 1) + freshN l m + _
    omega
theorem freshN_le : ∀ (l m : List Rw), freshN l m ≤ m.length
  | _, [] => by simp [freshN]
  | l, r :: m => by
    have := freshN_le l m
    show (if there l r.key then 0 else 1) + freshN l m ≤ m.length + 1
    split <;> omega
/-- rows put in, one by one -/
def puts (l : List Rw) : List Rw → List Rw
  | [] => l
  | r :: m => puts (put l r) m
theorem puts_snoc : ∀ (m l : List Rw) (r : Rw), puts l (m ++ [r]) = put (puts l m) r
  | [], _, _ => rfl
  | x :: m, l, r => by show puts (put l x) (m ++ [r]) = _; rw [puts_snoc m]; rfl
/-- what Take's code is -/
def chkR (rows : List Rw) : Int := if rows.all Rw.okB then if riseB rows then 0 else 4 else 80
/-- what Take comes to -/
def takes (l rows : List Rw) : Int × List Rw := if chkR rows ≠ 0 then (chkR rows, l) else if 4096 < l.length + freshN l rows then (22, l) else (0, puts l rows)

theorem put_app {a l : List Rw} {r : Rw} (ha : ∀ x ∈ a, B4 x.key r.key = true) : put (a ++ l) r = a ++ put l r := by
  unfold put below above
  rw [List.filter_append, List.filter_append]
  have e1 : a.filter (fun x => B4 x.key r.key) = a := List.filter_eq_self.2 ha
  have e2 : a.filter (fun x => B4 r.key x.key) = [] := List.filter_eq_nil_iff.2 fun x hx => by rw [B4.asym (ha x hx)]; simp
  rw [e1, e2, List.nil_append, List.append_assoc]
/-- the merge's step -/
theorem merge_step {all early : List Rw} {r : Rw} (he : Rise early) (ha : ∀ x ∈ all, B4 x.key r.key = true) :
    put (all ++ early) r = (all ++ early.take (pos early r.key) ++ [r]) ++ early.drop (pos early r.key + if there early r.key then 1 else 0) := by
  rw [put_app ha]
  unfold put
  rw [List.append_assoc, List.append_assoc]
  congr 1
  rw [take_pos he]
  congr 1
  show r :: above early r.key = [r] ++ _
  congr 1
  unfold there
  cases hr : row? early r.key with
  | none => simp only [Option.isSome_none, Bool.false_eq_true, if_false, Nat.add_zero]; exact (drop_no he hr).symm
  | some x => simp only [Option.isSome_some, if_true]; exact (drop_yes he hr).symm
theorem puts_rise : ∀ {m l : List Rw}, Rise l → Rise (puts l m)
  | [], _, h => h
  | r :: m, _, h => puts_rise (m := m) (put_rise h r)
theorem row?_none_of_not {l : List Rw} {k : ByteArray} (h : there l k = false) : row? l k = none := by
  unfold there at h
  cases hr : row? l k with
  | none => rfl
  | some r => rw [hr] at h; cases h
theorem row?_some_of {l : List Rw} {k : ByteArray} (h : there l k = true) : ∃ r, row? l k = some r := by
  unfold there at h
  cases hr : row? l k with
  | none => rw [hr] at h; cases h
  | some r => exact ⟨r, rfl⟩
theorem put_there {l : List Rw} {r : Rw} {k : ByteArray} (h : r.key ≠ k) : there (put l r) k = there l k := by
  unfold there; rw [row?_put, if_neg h]
theorem fresh_put : ∀ {m l : List Rw} {r : Rw}, (∀ x ∈ m, r.key ≠ x.key) → freshN (put l r) m = freshN l m
  | [], _, _, _ => rfl
  | x :: m, l, r, h => by
    show (if there (put l r) x.key then 0 else 1) + freshN (put l r) m = _
    rw [put_there (h x (List.mem_cons_self ..)), fresh_put fun y hy => h y (List.mem_cons_of_mem _ hy)]
    rfl
theorem put_lenT {l : List Rw} (h : Rise l) (r : Rw) : (put l r).length = l.length + if there l r.key then 0 else 1 := by
  cases ht : there l r.key
  · rw [put_new h (row?_none_of_not ht)]; rfl
  · obtain ⟨x, hx⟩ := row?_some_of ht
    rw [put_old h hx]; rfl
theorem puts_len : ∀ {m l : List Rw}, Rise l → Rise m → (puts l m).length = l.length + freshN l m
  | [], _, _, _ => rfl
  | r :: m, l, h, hm => by
    show (puts (put l r) m).length = l.length + ((if there l r.key then 0 else 1) + freshN l m)
    rw [puts_len (put_rise h r) hm.cons, put_lenT h, fresh_put fun x hx => B4.ne (hm.head x hx)]
    omega
theorem puts_mem : ∀ {m l : List Rw} {x : Rw}, x ∈ puts l m → x ∈ l ∨ x ∈ m
  | [], _, _, h => Or.inl h
  | r :: m, l, x, h => by
    rcases puts_mem (m := m) h with h | h
    · rcases mem_put h with rfl | h
      · exact Or.inr (List.mem_cons_self ..)
      · exact Or.inl h
    · exact Or.inr (List.mem_cons_of_mem _ h)
theorem Tok.puts {l m : List Rw} (h : Tok l) (hm : ∀ r ∈ m, r.Ok) (hr : Rise m) (hl : l.length + freshN l m ≤ 4096) : Tok (puts l m) :=
  ⟨puts_rise h.rise, by rw [puts_len h.rise hr]; exact hl, fun x hx => (puts_mem hx).elim (h.each x) (hm x)⟩

set_option maxRecDepth 100000 in
set_option maxHeartbeats 1600000 in
theorem isRow_any (x : Rw) (w : World) : Calls Try.prog 60 #[x.v] w fun e w' => e = .returned (.bool x.okB) ∧ Below w.heap.size w w' := by
  obtain ⟨key, stamp, val⟩ := x
  unfold Rw.okB
  simp only
  have hb := below_a1 w (.cells #[.string key, .int .i64 stamp, .string val] RowT)
  go_enter Try.func60, Try.ntmps60
  go_wp2_with fail
  all_goals go_ret
  all_goals
    refine ⟨congrArg (fun b => Ending.returned (.bool b)) ?_, hb⟩
    rw [Bool.eq_iff_iff]
    simp
    first | done | omega | (intros; omega)

theorem less_list : ∀ (a b : List UInt8), Op.bytesLess a b = bytesBefore a b
  | [], [] => rfl
  | _ :: _, [] => rfl
  | [], _ :: _ => rfl
  | a :: r, b :: t => by
    simp only [Op.bytesLess, bytesBefore, less_list r t]
theorem less_b4 (a b : ByteArray) : Op.bytesLess a.toList b.toList = B4 a b := by rw [less_list, Lib.toList_data, Lib.toList_data]; rfl

set_option maxRecDepth 100000 in
set_option maxHeartbeats 1600000 in
theorem checkRows_any (a : Option Addr) (cap : Nat) (l : List Rw) (w : World) (hl : Lies w rwenc a l) (hn : l.length ≤ 9223372036854775807) :
    Calls Try.prog 38 #[.slice a l.length cap] w fun e w' => e = .returned (.int .i64 (chkR l)) ∧ Below w.heap.size w w' := by
  obtain ⟨c, hc⟩ : ∃ c, c = chkR l := ⟨_, rfl⟩
  rw [← hc]
  have HC := hide hc
  clear hc
  go_enter Try.func38, Try.ntmps38
  go_wp2
  go_loopw [8] (fun i wr => ∃ k : Nat, k ≤ l.length ∧ i = .int .i64 k ∧ Hid (∀ x ∈ l.take k, x.okB = true) ∧ Below w.heap.size w wr) (fun i _ => l.length - (intOf i).toNat)
  case atStart => exact ⟨0, Nat.zero_le _, rfl, hide (by simp), Below.refl _ _⟩
  case round =>
    obtain ⟨k, hk, rfl, HM, hbel⟩ := hrel
    by_cases hlt : k < l.length
    · obtain ⟨b, off, rfl, hbl, hc⟩ := (hl.below hbel).at (k := 3) rwenc_len k hlt
      have c0 := hc 0 _ rfl
      have c1 := hc 1 _ rfl
      have c2 := hc 2 _ rfl
      rw [Nat.add_zero] at c0
      clear hc
      have HT := hide (List.take_succ_eq_append_getElem hlt)
      have HX := hide (List.getElem_mem hlt)
      have i3 : (0 : Int) ≤ (k : Int) := by omega
      have i4 : (k : Int) < (l.length : Int) := by omega
      generalize l[k] = x at *
      have hI := fun W => isRow_any x W
      cases hx : x.okB
      · rw [hx] at hI
        have H80 : Hid (c = 80) := by
          show _ = _
          rw [HC.out]
          unfold chkR
          rw [if_neg]
          intro h
          have := List.all_eq_true.1 h x HX.out
          rw [hx] at this; cases this
        go_wp2_with fail
        refine (hI _).mono ?_
        rintro e w1 ⟨rfl, hb1⟩
        have hb2 := (below_a1 wr _).trans (hb1.mono (by simp))
        have hbel1 := hbel.trans (hb2.mono hbel.size)
        clear hb1 hb2
        go_wp2
        go_ret
        exact ⟨by rw [H80.out]; rfl, hbel1⟩
      · rw [hx] at hI
        have HN : Hid (∀ y ∈ l.take (k + 1), y.okB = true) := by
          show ∀ y ∈ l.take (k + 1), y.okB = true
          rw [HT.out]
          intro y hy
          rcases List.mem_append.1 hy with h | h
          · exact HM.out y h
          · rw [List.mem_singleton.1 h]; exact hx
        go_wp2_with fail
        refine (hI _).mono ?_
        rintro e w1 ⟨rfl, hb1⟩
        have hb2 := (below_a1 wr _).trans (hb1.mono (by simp))
        have hbel1 := hbel.trans (hb2.mono hbel.size)
        clear hb1 hb2 hbel HM HT HX hI c0 c1 c2
        go_wp2
        go_roundw
        case rel => exact ⟨k + 1, by omega, by go_num, HN, hbel1⟩
        case measure => simp [intOf]; omega
    · obtain rfl : k = l.length := by omega
      rw [List.take_length] at HM
      have HA : Hid (l.all Rw.okB = true) := List.all_eq_true.2 HM.out
      clear HM
      obtain ⟨w1, hw1⟩ : ∃ w1 : World, w1 = wr := ⟨_, rfl⟩
      rw [← hw1] at hbel ⊢
      clear hw1
      go_wp2
      go_loopw [5] (fun i wx => ∃ q : Nat, 1 ≤ q ∧ (q ≤ l.length ∨ q = 1) ∧ i = .int .i64 q ∧ Hid (∀ i (h : i + 1 < l.length), i + 1 < q → B4 l[i].key l[i + 1].key = true) ∧ Below w1.heap.size w1 wx) (fun i _ => l.length - (intOf i).toNat)
      case atStart => exact ⟨1, by omega, by omega, rfl, hide (fun i h h1 => by omega), Below.refl _ _⟩
      case round =>
        obtain ⟨q, hq1, hq2, rfl, HR, hbx⟩ := hrel
        have hb2 := hbel.trans (hbx.mono hbel.size)
        by_cases hql : q < l.length
        · obtain ⟨p, hp⟩ : ∃ p, q = p + 1 := ⟨q - 1, by omega⟩
          have hpl : p < l.length := by omega
          have hpq : (q : Int) - 1 = (p : Int) := by omega
          have j1 : (0 : Int) ≤ (p : Int) := by omega
          have j2 : (p : Int) < (l.length : Int) := by omega
          have j3 : (q : Int) < (l.length : Int) := by omega
          have j4 : (0 : Int) ≤ (q : Int) := by omega
          have hwq : IntKind.i64.wrap ((q : Int) - 1) = (p : Int) := by rw [IntKind.wrap_i64]; omega
          obtain ⟨rb, ro, era, hrbl, hcp⟩ := (hl.below hb2).at (k := 3) rwenc_len p hpl
          obtain ⟨rb', ro', era', _, hcq⟩ := (hl.below hb2).at (k := 3) rwenc_len q hql
          rw [era] at era'
          cases era'
          subst era
          have kp := hcp 0 _ rfl
          have kq := hcq 0 _ rfl
          rw [Nat.add_zero] at kp kq
          have HB0 : Hid (B4 l[p].key l[q].key = false → riseB l = false) := fun h => riseB_at (i := p) (by omega) (by subst hp; exact h)
          have HB1 : Hid (B4 l[p].key l[q].key = true → ∀ i (h : i + 1 < l.length), i + 1 < q + 1 → B4 l[i].key l[i + 1].key = true) := fun h i hi h1 => by
            by_cases e : i + 1 < q
            · exact HR.out i hi e
            · obtain rfl : i = p := by omega
              subst hp; exact h
          clear hcp hcq hp HR
          generalize (l[p]'hpl).key = kP at *
          generalize l[q].key = kQ at *
          cases hB : B4 kP kQ
          · have H4 : Hid (c = 4) := by
              show _ = _
              rw [HC.out]
              unfold chkR
              rw [if_pos HA.out, HB0.out hB]; rfl
            have hL := hB
            rw [← less_b4] at hL
            go_wp2
            go_quiet (fail)
            go_wp2
            go_ret
            exact ⟨by rw [H4.out]; rfl, below_drewN hb2 _⟩
          · have HR2 := hide (HB1.out hB)
            have hL := hB
            rw [← less_b4] at hL
            go_wp2
            go_quiet (fail)
            go_wp2
            go_roundw
            case rel => exact ⟨q + 1, by omega, by omega, by go_num, HR2, below_drewN hbx _⟩
            case measure => simp [intOf]; omega
        · have j3 : ¬ (q : Int) < (l.length : Int) := by omega
          have H0 : Hid (c = 0) := by
            show _ = _
            rw [HC.out]
            unfold chkR
            rw [if_pos HA.out, riseB_all (fun i h => HR.out i h (by omega))]; rfl
          go_wp2_with fail
          go_ret
          exact ⟨by rw [H0.out]; rfl, hb2⟩

set_option maxRecDepth 100000 in
set_option maxHeartbeats 1600000 in
theorem fresh_any (a a' : Option Addr) (cap cap' : Nat) (l m : List Rw) (w : World) (hok : Tok l) (hl : Lies w rwenc a l) (hm : Lies w rwenc a' m) (hn : m.length ≤ 1000000) :
    Calls Try.prog 39 #[.slice a l.length cap, .slice a' m.length cap'] w fun e w' => e = .returned (.int .i64 (freshN l m : Nat)) ∧ Below w.heap.size w w' := by
  have hF := fun k W (hb : Below w.heap.size w W) => find_any a cap k l hok.rise (by have := hok.len; omega) W (hl.below hb)
  go_enter Try.func39, Try.ntmps39
  go_wp2
  go_loopw [5, 12] (fun v i wr => ∃ k : Nat, k ≤ m.length ∧ i = .int .i64 k ∧ v = .int .i64 (freshN l (m.take k) : Nat) ∧ Below w.heap.size w wr) (fun _ i _ => m.length - (intOf i).toNat)
  case atStart => exact ⟨0, Nat.zero_le _, rfl, rfl, Below.refl _ _⟩
  case round =>
    obtain ⟨k, hk, rfl, rfl, hbel⟩ := hrel
    by_cases hlt : k < m.length
    · obtain ⟨b, off, rfl, hbl, hc⟩ := (hm.below hbel).at (k := 3) rwenc_len k hlt
      have c0 := hc 0 _ rfl
      have c1 := hc 1 _ rfl
      have c2 := hc 2 _ rfl
      rw [Nat.add_zero] at c0
      clear hc
      have HS : Hid (freshN l (m.take (k + 1)) = freshN l (m.take k) + if there l m[k].key then 0 else 1) := by
        show _ = _
        rw [List.take_succ_eq_append_getElem hlt, freshN_snoc]
      have hfl := freshN_le l (m.take k)
      rw [List.length_take] at hfl
      have i3 : (0 : Int) ≤ (k : Int) := by omega
      have i4 : (k : Int) < (m.length : Int) := by omega
      generalize m[k] = x at *
      generalize freshN l (m.take k) = f at *
      have hb0 := hbel.trans ((below_a1 wr (.cells #[.string x.key, .int .i64 x.stamp, .string x.val] RowT)).mono hbel.size)
      have hFx := hF x.key _ hb0
      cases ht : there l x.key
      all_goals
        rw [ht] at hFx HS
        go_wp2_with fail
        refine hFx.mono ?_
        rintro e w1 ⟨rfl, hg1⟩
        have hbel1 := hb0.trans (hg1.below.mono hb0.size)
        clear hg1 hb0 hbel c0 c1 c2
        go_wp2
        go_roundw
        case rel => exact ⟨k + 1, by omega, by go_num, by rw [HS.out]; simp, hbel1⟩
        case measure => simp [intOf]; omega
    · obtain rfl : k = m.length := by omega
      rw [List.take_length]
      go_wp2
      go_ret
      exact ⟨rfl, hbel⟩

end Go.Proofs.Ythdempdiibjabaa.Tb
