/- Layer 12: walks over sweep.go: tooMany, sizesMayBe, Live, Plan. Layer 12: a walk over sweep.go: Plan. -/
import Derived.Test.YtgfmnffaknmcnaaGreatDoorSwLiv
namespace Go.Proofs.YtgfmnffaknmcnaaGreatDoor.Sw
open Go.RowKit Go.Joins Go.Sort Gk

set_option maxRecDepth 100000 in
theorem many_any (a : Option Addr) (n cap : Nat) (w : World) : Calls Tryz.prog 52 #[.slice a n cap] w fun e w' => e = .returned (.bool (decide (4096 < n))) ∧ w' = w := by
  by_cases h : 4096 < n
  · have h1 : (4096 : Int) < (n : Int) := by omega
    rw [decide_eq_true h]
    go_enter Tryz.func52, Tryz.ntmps52
    go_wp2
    go_ret
    exact ⟨rfl, rfl⟩
  · have h1 : ¬ (4096 : Int) < (n : Int) := by omega
    rw [decide_eq_false h]
    go_enter Tryz.func52, Tryz.ntmps52
    go_wp2
    go_ret
    exact ⟨rfl, rfl⟩
/-- sizes that may be: files rise, from 1 on, none greater than a disk -/
def szOk : Int → List Sz → Bool
  | _, [] => true
  | f, s :: r => if s.1 ≤ f ∨ s.2 < 0 ∨ 262144 < s.2 then false else szOk s.1 r
set_option maxRecDepth 100000 in
theorem szOk_drop {l : List Sz} {f : Int} (k : Nat) (h : k < l.length) : szOk f (l.drop k) = if l[k].1 ≤ f ∨ l[k].2 < 0 ∨ 262144 < l[k].2 then false else szOk l[k].1 (l.drop (k + 1)) := by
  rw [List.drop_eq_getElem_cons h, szOk]

set_option maxHeartbeats 1600000 in
set_option maxRecDepth 100000 in
theorem mayBe_any (a : Option Addr) (cap : Nat) (l : List Sz) (w : World) (hl : Lies w szE a l) (hn : l.length ≤ 9223372036854775807) :
    Calls Tryz.prog 69 #[.slice a l.length cap] w fun e w' => e = .returned (.bool (szOk 0 l)) ∧ Below w.heap.size w w' := by
  obtain ⟨r, hr⟩ : ∃ r, r = szOk 0 l := ⟨_, rfl⟩
  rw [← hr]
  have HR := hide hr
  clear hr
  go_enter Tryz.func69, Tryz.ntmps69
  go_wp2
  go_loopw [3, 8] (fun bv i wr => ∃ (k : Nat) (f : Int), k ≤ l.length ∧ i = .int .i64 k ∧ bv = .int .i64 f ∧ Hid (r = szOk f (l.drop k)) ∧ Below w.heap.size w wr) (fun _ i _ => l.length - (intOf i).toNat)
  case atStart => exact ⟨0, 0, Nat.zero_le _, rfl, rfl, HR, Below.refl _ _⟩
  case round =>
    obtain ⟨k, f, hk, rfl, rfl, hre, hb⟩ := hrel
    by_cases hlt : k < l.length
    · obtain ⟨b, off, rfl, hbl, hc⟩ := (hl.below hb).at szE_len k hlt
      have i1 : (0 : Int) ≤ (k : Int) := by omega
      have i2 : (k : Int) < (l.length : Int) := by omega
      have c0 := hc 0 _ rfl
      have c1 := hc 1 _ rfl
      rw [Nat.add_zero] at c0
      have hre := hre.out
      rw [szOk_drop k hlt] at hre
      have hbx := below_alloc1 wr (.cells #[.int .i64 l[k].1, .int .i64 l[k].2] SzT)
      generalize l[k] = x at c0 c1 hre hbx
      have HB := hide (And.intro hb hbx)
      clear hc hb hbx
      by_cases h1 : x.1 ≤ f
      · rw [if_pos (Or.inl h1)] at hre
        subst hre
        go_wp2
        go_ret
        exact ⟨rfl, HB.out.1.trans (HB.out.2.mono HB.out.1.size)⟩
      · by_cases h2 : x.2 < 0
        · rw [if_pos (Or.inr (Or.inl h2))] at hre
          subst hre
          go_wp2
          go_ret
          exact ⟨rfl, HB.out.1.trans (HB.out.2.mono HB.out.1.size)⟩
        · by_cases h3 : 262144 < x.2
          · rw [if_pos (Or.inr (Or.inr h3))] at hre
            subst hre
            go_wp2
            go_ret
            exact ⟨rfl, HB.out.1.trans (HB.out.2.mono HB.out.1.size)⟩
          · rw [if_neg (by omega)] at hre
            have HRE := hide hre
            clear hre
            go_wp2
            exact ⟨⟨k + 1, x.1, by omega, by go_num, rfl, HRE, HB.out.1.trans (HB.out.2.mono HB.out.1.size)⟩, by simp [intOf]; omega⟩
    · obtain rfl : k = l.length := by omega
      have i2 : ¬ (l.length : Int) < (l.length : Int) := by omega
      have hre := hre.out
      rw [List.drop_length, szOk] at hre
      subst hre
      go_wp2
      go_ret
      exact ⟨rfl, hb⟩

/-- a map of sizes -/
def mapS (A : List Sz) : Int → Option Value := A.foldl (fun F q => updF F q.1 (.int .i64 q.2)) fun _ => none
theorem mapS_snoc (A : List Sz) (q : Sz) : mapS (A ++ [q]) = updF (mapS A) q.1 (.int .i64 q.2) := by simp [mapS, List.foldl_append]
theorem mapS_some (A : List Sz) {f : Int} {v : Value} (h : mapS A f = some v) : ∃ q ∈ A, q.1 = f ∧ v = .int .i64 q.2 := by
  induction A using snocRec with
  | h0 => cases h
  | h1 A q ih =>
    rw [mapS_snoc] at h
    by_cases e : f = q.1
    · subst e
      rw [updF_same] at h
      exact ⟨q, by simp, rfl, (Option.some.inj h).symm⟩
    · rw [updF_other _ _ e] at h
      obtain ⟨r, hr, h2⟩ := ih h
      exact ⟨r, by simp [hr], h2⟩
theorem mapS_none (A : List Sz) {f : Int} (h : mapS A f = none) : ∀ q ∈ A, q.1 ≠ f := by
  induction A using snocRec with
  | h0 => simp
  | h1 A q ih =>
    rw [mapS_snoc] at h
    by_cases e : f = q.1
    · subst e
      rw [updF_same] at h; cases h
    · rw [updF_other _ _ e] at h
      intro r hr
      rcases List.mem_append.1 hr with hm | hm
      · exact ih h r hm
      · rw [List.mem_singleton.1 hm]; exact fun e' => e e'.symm
theorem mapS_look {L : List Pc} {A : List Sz} (h : Lbs L A) (f : Int) : (mapS A f).getD (.int .i64 0) = .int .i64 (of L f) := by
  cases hm : mapS A f with
  | none => rw [h.look (mapS_none A hm)]; rfl
  | some v =>
    obtain ⟨q, hq, rfl, rfl⟩ := mapS_some A hm
    rw [h.each q hq]; rfl
/-- is a file to be swept -/
def low (L : List Pc) (pc : Int) (s : Sz) : Bool := decide (of L s.1 * 100 < pc * s.2)
/-- the files that are swept: not the last one -/
def planL (L : List Pc) (pc : Int) (l : List Sz) : List Int := (l.dropLast.filter (low L pc)).map (·.1)
def planK (L : List Pc) (pc : Int) (l : List Sz) (k : Nat) : List Int := ((l.dropLast.take k).filter (low L pc)).map (·.1)
theorem planK_end (L : List Pc) (pc : Int) (l : List Sz) : planK L pc l l.length = planL L pc l := by
  unfold planK planL
  rw [List.take_of_length_le (by rw [List.length_dropLast]; omega)]
theorem planK_succ (L : List Pc) (pc : Int) {l : List Sz} {k : Nat} (h : k < l.length) : planK L pc l (k + 1) = planK L pc l k ++ (if k + 1 < l.length ∧ low L pc l[k] = true then [l[k].1] else []) := by
  unfold planK
  by_cases h1 : k + 1 < l.length
  · have hd : k < l.dropLast.length := by rw [List.length_dropLast]; omega
    rw [List.take_succ_eq_append_getElem hd, List.filter_append, List.map_append]
    have e : l.dropLast[k] = l[k] := by simp
    rw [e]
    by_cases h2 : low L pc l[k] = true
    · rw [if_pos ⟨h1, h2⟩]; simp [h2]
    · rw [if_neg (fun h => h2 h.2)]; simp [h2]
  · rw [if_neg (fun h => h1 h.1), List.append_nil, List.take_of_length_le (by rw [List.length_dropLast]; omega), List.take_of_length_le (by rw [List.length_dropLast]; omega)]
theorem planK_len (L : List Pc) (pc : Int) (l : List Sz) (k : Nat) : (planK L pc l k).length ≤ k := by
  unfold planK
  rw [List.length_map]
  exact Nat.le_trans (List.length_filter_le _ _) (by rw [List.length_take]; omega)

end Go.Proofs.YtgfmnffaknmcnaaGreatDoor.Sw

namespace Go.Proofs.YtgfmnffaknmcnaaGreatDoor.Sw
open Go.RowKit Go.Joins Go.Sort Gk

def nenc (x : Int) : List Value := [.int .i64 x]
set_option maxRecDepth 100000 in
theorem nenc_len (x : Int) : (nenc x).length = 1 := rfl
set_option maxRecDepth 100000 in
theorem nenc_one (x : Int) : ∀ u ∈ nenc x, u.oneCell' = true := by intro u hu; simp [nenc] at hu; rw [hu]; rfl
abbrev NT : TypeId := 3
set_option maxRecDepth 100000 in
theorem n_info : (Tryz.prog.info? NT).map (fun i => (i.zero, i.size, i.bytes)) = some (some (.int .i64 0), 1, 8) := by kernel_rfl
abbrev MpT : TypeId := 126

theorem szOk_each : ∀ {l : List Sz} {f : Int}, szOk f l = true → ∀ s ∈ l, f < s.1 ∧ 0 ≤ s.2 ∧ s.2 ≤ 262144
  | [], _, _ => by simp
  | s :: r, f, h => by
    rw [szOk] at h
    split at h
    · cases h
    · rename_i hn
      intro q hq
      rcases List.mem_cons.1 hq with rfl | hq
      · omega
      · have := szOk_each h q hq
        omega
set_option maxRecDepth 100000 in
theorem szOk_rise : ∀ {l : List Sz} {f : Int}, szOk f l = true → l.Pairwise fun a b => a.1 < b.1
  | [], _, _ => List.Pairwise.nil
  | s :: r, f, h => by
    rw [szOk] at h
    split at h
    · cases h
    · exact List.pairwise_cons.2 ⟨fun q hq => (szOk_each h q hq).1, szOk_rise h⟩
set_option maxRecDepth 100000 in
theorem zero_int (w : World) : (zeroValue 3).run Tryz.prog w = .ok (.int .i64 0) w := by kernel_rfl
/-- what Plan answers -/
structure PlanR (w0 w : World) (szs : List Sz) (l : List Pc) (pc : Int) (v : Value) : Prop where
  out : (szOk 0 szs = false ∧ v = .tuple #[.slice none 0 0, .int .i64 1]) ∨ (szOk 0 szs = true ∧ 4096 < l.length ∧ v = .tuple #[.slice none 0 0, .int .i64 2]) ∨ (szOk 0 szs = true ∧ l.length ≤ 4096 ∧ ¬ (1 ≤ pc ∧ pc ≤ 100) ∧ v = .tuple #[.slice none 0 0, .int .i64 1]) ∨
    (szOk 0 szs = true ∧ l.length ≤ 4096 ∧ (1 ≤ pc ∧ pc ≤ 100) ∧ ∃ L f, Onc l L ∧ v = .tuple #[f, .int .i64 0] ∧ w.ownsRow w0.heap.size NT 1 f (planL L pc szs).length (rc nenc (planL L pc szs)))

set_option maxHeartbeats 3200000 in
set_option maxRecDepth 100000 in
theorem Plan_any (a : Option Addr) (cap : Nat) (szs : List Sz) (al : Option Addr) (cl : Nat) (l : List Pc) (pc : Int) (w : World) (hs : Lies w szE a szs) (hn : szs.length ≤ 1000000) (hl : Lies w penc al l) (hfs : ∀ s ∈ szs, I64 s.1) (hfl : ∀ p ∈ l, I64 p.1) :
    Calls Tryz.prog 28 #[.slice a szs.length cap, .slice al l.length cl, .int .i64 pc] w fun e w' => ∃ v, e = .returned v ∧ PlanR w w' szs l pc v ∧ Below w.heap.size w w' := by
  have mixed : Tryz.prog.follows .mixedOrders = true := by kernel_rfl
  have hM := mayBe_any a cap szs w hs (by omega)
  have hT := fun W => many_any al l.length cl W
  cases hok : szOk 0 szs with
  | false =>
    rw [hok] at hM
    go_enter Tryz.func28, Tryz.ntmps28
    go_wp2_with fail
    refine hM.mono ?_
    rintro e w1 ⟨rfl, hb1⟩
    clear hM hT
    go_wp2
    go_ret2
    exact ⟨_, rfl, ⟨Or.inl ⟨hok, rfl⟩⟩, hb1⟩
  | true =>
    rw [hok] at hM
    by_cases hlong : 4096 < l.length
    · rw [decide_eq_true hlong] at hT
      go_enter Tryz.func28, Tryz.ntmps28
      go_wp2_with fail
      refine hM.mono ?_
      rintro e w1 ⟨rfl, hb1⟩
      clear hM
      go_wp2_with (first | (go_at_call 52; refine (hT _).mono ?_; rintro e w2 ⟨rfl, hw2⟩; obtain rfl := hw2.symm))
      go_ret2
      exact ⟨_, rfl, ⟨Or.inr (Or.inl ⟨hok, hlong, rfl⟩)⟩, hb1⟩
    · rw [decide_eq_false hlong] at hT
      by_cases hpc : 1 ≤ pc ∧ pc ≤ 100
      · go_enter Tryz.func28, Tryz.ntmps28
        go_wp2_with fail
        refine hM.mono ?_
        rintro e w1 ⟨rfl, hb1⟩
        clear hM
        obtain ⟨p1, p2⟩ := hpc
        have p3 : ¬ pc < 1 := by omega
        have p4 : ¬ 100 < pc := by omega
        have hmk := @run_makeMap Tryz.prog
        have hbm := below_alloc1 w1 (.map #[] 0)
        have hMp := MapF.made intKs w1
        have hLB := liveBytes_any al cl l (w1.alloc (.map #[] 0)) (hl.below (hb1.trans (hbm.mono hb1.size))) (by omega)
        go_wp2_with (first | (go_at_call 52; refine (hT _).mono ?_; rintro e w2 ⟨rfl, hw2⟩; obtain rfl := hw2.symm))
        refine hLB.mono ?_
        rintro e w2 ⟨v2, rfl, L, hO, hr2, hb2⟩
        have hz1 : (w1.alloc (.map #[] 0)).heap.size = w1.heap.size + 1 := by simp
        have hM2 := hMp.below hb2
        have hLb := lbs_lbs hO.ord
        have hAn : (lbs L).length ≤ 4096 := Nat.le_trans (lbs_len L) (Nat.le_trans hO.len (by omega))
        have hAf : ∀ q ∈ lbs L, I64 q.1 := fun q hq => by
          obtain ⟨p, hp, e⟩ := hLb.from_ q hq
          rw [← e]; exact hfl p ((hO.mem p).1 hp)
        have hbW : Below w.heap.size w w2 := (hb1.trans (hbm.mono hb1.size)).trans (hb2.mono (by have := hb1.size; omega))
        have hB0 : w.heap.size ≤ w1.heap.size := hb1.size
        obtain ⟨A, hA⟩ : ∃ A, A = lbs L := ⟨_, rfl⟩
        rw [← hA] at hr2 hLb hAn hAf
        have hr2' := own_mono hr2 (Nat.zero_le _)
        obtain ⟨av, cv, rfl⟩ := own_slice hr2
        have HK := hide (And.intro hLb hO)
        generalize w1.heap.size = bm at *
        have HRB := hide (And.intro hb1 (And.intro hb2 hr2))
        have HM2 := hide hM2
        clear hLB hMp hmk hbm hA hb1 hb2 hr2 hz1 hLb hO hM2 hT HRB
        go_wp2
        generalize (decide (pc < 1) || decide (100 < pc)) = d0
        generalize decide (pc < 1) = d1
        generalize decide (100 < pc) = d2
        go_loopw [29] (fun i wr => ∃ k : Nat, k ≤ A.length ∧ i = .int .i64 k ∧ MapF intKs wr bm k (mapS (A.take k)) ∧ wr.ownsRow 0 SzT 2 (.slice av A.length cv) A.length (rc szE A) ∧ Below w.heap.size w wr) (fun i _ => A.length - (intOf i).toNat)
        case atStart => exact ⟨0, Nat.zero_le _, rfl, HM2.out, hr2', hbW⟩
        case round =>
          clear hbW hr2' HM2
          obtain ⟨k, hk, rfl, hM, hrow, hb⟩ := hrel
          by_cases hlt : k < A.length
          · obtain ⟨g, cap', e1, hgl, hc⟩ := Row.at hrow szE_len k hlt
            cases e1
            have i1 : (0 : Int) ≤ (k : Int) := by omega
            have i2 : (k : Int) < (A.length : Int) := by omega
            have c0 := hc 0 _ rfl
            have c1 := hc 1 _ rfl
            rw [Nat.add_zero] at c0
            have hf := hAf A[k] (List.getElem_mem hlt)
            have hnx : mapS (A.take (k + 1)) = updF (mapS (A.take k)) A[k].1 (.int .i64 A[k].2) := by rw [List.take_succ_eq_append_getElem hlt, mapS_snoc]
            generalize A[k] = x at c0 c1 hf hnx
            have hbx := below_alloc1 wr (.cells #[.int .i64 x.1, .int .i64 x.2] SzT)
            obtain ⟨w4, hrun, hM4, hg4⟩ := (hM.below hbx).put (t := MpT) (e := 3) Tryz.underlying126 (by omega) hf (.int .i64 x.2)
            have hrun' : (Instr.mapUpdate MpT (.map (some bm)) (.int .i64 x.1) (.int .i64 x.2)).run Tryz.prog (wr.alloc (.cells #[.int .i64 x.1, .int .i64 x.2] SzT)) = .ok () w4 := hrun
            rw [← hnx] at hM4
            have hrow4 : w4.ownsRow 0 SzT 2 (.slice (some ⟨g, 0, none⟩) A.length cv) A.length (rc szE A) := by
              have h1 := own_below hrow hbx
              exact own_stay h1 fun g' hg' => hg4.block g' (h1.lt g' hg').2 fun e => by
                obtain ⟨g2, cap2, cur2, e2, hcur, -⟩ := own_form h1 (by omega)
                cases e2; cases hg'
                exact (hM.below hbx).ne hcur (Option.some.inj e)
            have hb4 : Below w.heap.size w w4 := (hb.trans (hbx.mono hb.size)).grown hg4 (by have := hb.size; simp; omega) fun g' e => by cases e; exact hB0
            have HF := hide (And.intro hM4 (And.intro hrow4 hb4))
            clear hc hrun hnx hM4 hrow4 hb4 hg4 hbx hM hrow hb hf
            go_wp2
            go_roundw
            case rel => exact ⟨k + 1, by omega, by go_num, HF.out.1, HF.out.2.1, HF.out.2.2⟩
            case measure => simp [intOf]; omega
          · obtain rfl : k = A.length := by omega
            have i2 : ¬ (A.length : Int) < (A.length : Int) := by omega
            rw [List.take_length] at hM
            have HM := hide hM
            have HB := hide hb
            clear hM hb hrow
            go_wp2
            go_loopw [11, 41] (fun fv i wr => ∃ k : Nat, k ≤ szs.length ∧ i = .int .i64 k ∧ wr.ownsRow w.heap.size NT 1 fv (planK L pc szs k).length (rc nenc (planK L pc szs k)) ∧ MapF intKs wr bm A.length (mapS A) ∧ Below w.heap.size w wr) (fun _ i _ => szs.length - (intOf i).toNat)
            case atStart => exact ⟨0, Nat.zero_le _, rfl, World.ownsRow_nil _ _ _ _, HM.out, HB.out⟩
            case round =>
              clear HM HB
              obtain ⟨k, hk, rfl, hrow, hM, hb⟩ := hrel
              by_cases hkl : k < szs.length
              · obtain ⟨b, off, rfl, hbl, hc⟩ := (hs.below hb).at szE_len k hkl
                have i1 : (0 : Int) ≤ (k : Int) := by omega
                have i2 : (k : Int) < (szs.length : Int) := by omega
                have c0 := hc 0 _ rfl
                have c1 := hc 1 _ rfl
                rw [Nat.add_zero] at c0
                have hf := hfs szs[k] (List.getElem_mem hkl)
                have hx2 := (szOk_each hok szs[k] (List.getElem_mem hkl)).2
                have hnx := planK_succ L pc hkl
                generalize szs[k] = x at c0 c1 hf hx2 hnx
                have hof := of_bound L x.1
                have hLn : L.length ≤ 4096 := Nat.le_trans HK.out.2.len (by omega)
                have hbx := below_alloc1 wr (.cells #[.int .i64 x.1, .int .i64 x.2] SzT)
                have hlk : (Instr.lookup MpT (.map (some bm)) (.int .i64 x.1) false).run Tryz.prog (wr.alloc (.cells #[.int .i64 x.1, .int .i64 x.2] SzT)) = .ok (.int .i64 (of L x.1)) (wr.alloc (.cells #[.int .i64 x.1, .int .i64 x.2] SzT)) := by
                  have := (hM.below hbx).look (t := MpT) (e := 3) Tryz.underlying126 (zero_int _) hf
                  rw [mapS_look HK.out.1] at this
                  exact this
                obtain ⟨n1, hn1⟩ : ∃ n1 : Int, (szs.length : Int) - 1 = n1 := ⟨_, rfl⟩
                obtain ⟨T, hT⟩ : ∃ T, T = of L x.1 := ⟨_, rfl⟩
                rw [← hT] at hlk hof
                obtain ⟨P1, hP1⟩ : ∃ P1, T * 100 = P1 := ⟨_, rfl⟩
                obtain ⟨P2, hP2⟩ : ∃ P2, pc * x.2 = P2 := ⟨_, rfl⟩
                have hP2b : 0 ≤ P2 ∧ P2 ≤ 26214400 := by
                  rw [← hP2]
                  refine ⟨Int.mul_nonneg (by omega) hx2.1, ?_⟩
                  have h1 : pc * x.2 ≤ 100 * x.2 := Int.mul_le_mul_of_nonneg_right p2 hx2.1
                  omega
                have w1' : IntKind.i64.wrap P1 = P1 := wrap_small (by omega) (by omega)
                have w2' : IntKind.i64.wrap P2 = P2 := wrap_small (by omega) (by omega)
                have w3' : IntKind.i64.wrap n1 = n1 := wrap_small (by omega) (by omega)
                have hlw : low L pc x = decide (P1 < P2) := by rw [low, ← hT, hP1, hP2]
                obtain ⟨F, hF⟩ : ∃ F, planK L pc szs k = F := ⟨_, rfl⟩
                have hFl : F.length ≤ k := by rw [← hF]; exact planK_len _ _ _ _
                rw [hF] at hrow hnx
                have HR := hide (And.intro hrow (And.intro hM (And.intro hb hbx)))
                have HFL := hide hFl
                have HS := hide hb.size
                clear hc hrow hM hb hbx hT hF hf hof hLn hP2b hx2 hFl
                by_cases h1 : k + 1 < szs.length
                · have j1 : (k : Int) < n1 := by omega
                  by_cases h2 : P1 < P2
                  · rw [if_pos ⟨h1, by rw [hlw]; simp [h2]⟩] at hnx
                    have HN := hide hnx
                    have HLW := hide hlw
                    clear hnx hlw
                    have hbx2 : Below wr.heap.size wr ((wr.alloc (.cells #[.int .i64 x.1, .int .i64 x.2] SzT)).alloc (.cells (nenc x.1).toArray NT)) := (below_alloc1 wr _).alloc (by simp) _
                    have hnb : ((wr.alloc (.cells #[.int .i64 x.1, .int .i64 x.2] SzT)).alloc (.cells (nenc x.1).toArray NT)).heap[wr.heap.size + 1]? = some (.cells (nenc x.1).toArray NT (0, 0)) := by
                      have := heap_alloc_new (wr.alloc (.cells #[.int .i64 x.1, .int .i64 x.2] SzT)) (.cells (nenc x.1).toArray NT)
                      simpa using this
                    have HB2 := hide hbx2
                    have HNB := hide hnb
                    clear hbx2 hnb
                    go_wp2_with (at_builtin; refine wpList_push (enc := nenc) (k := 1) rfl (.tmp 63) (.tmp 66) 23 rfl NT (.int .i64 0) 8 Tryz.underlying23 n_info rfl (by decide) nenc_len nenc_one w.heap.size _ F rfl (own_below HR.out.1 HB2.out) (wr.heap.size + 1) x.1 rfl HNB.out ?c1 ?c2 ?c3 ?_)
                    case c1 => have := HFL.out; omega
                    case c2 => have := HFL.out; omega
                    case c3 => have := HS.out; simp; omega
                    intro v4 w4 ho4 hg4 _
                    have hB4 : Below w.heap.size w w4 := (HR.out.2.2.1.trans (HB2.out.mono HS.out)).grown hg4 (by have := HB2.out.size; have := HS.out; omega) fun g hg => (HR.out.1.lt g hg).1
                    have hM9 := HR.out.2.1.below HB2.out
                    have hM4 : MapF intKs w4 bm A.length (mapS A) := hM9.stay (hg4.block bm hM9.lt fun e => by
                      rcases (own_below HR.out.1 HB2.out).2 with ⟨e2, -⟩ | ⟨g, cap9, cur9, e2, -, hcur, -⟩
                      · rw [e2] at e; simp [Value.ownBlock] at e
                      · rw [e2] at e; simp only [Value.ownBlock, Option.some.injEq] at e
                        exact hM9.ne hcur e.symm)
                    have ho4' : w4.ownsRow w.heap.size NT 1 v4 (planK L pc szs (k + 1)).length (rc nenc (planK L pc szs (k + 1))) := by
                      rw [HN.out, List.length_append]; exact ho4
                    have HF := hide (And.intro ho4' (And.intro hM4 hB4))
                    clear ho4 hg4 hB4 hM9 hM4 ho4' c0 c1 hlk
                    go_wp2
                    go_roundw
                    case rel => exact ⟨k + 1, by omega, by go_num, HF.out.1, HF.out.2.1, HF.out.2.2⟩
                    case measure => simp [intOf]; omega
                  · rw [if_neg (fun h => h2 (by have := h.2; rw [hlw] at this; simpa using this)), List.append_nil] at hnx
                    have HN := hide hnx
                    have HLW := hide hlw
                    clear hnx hlw
                    go_wp2
                    go_roundw
                    case rel => exact ⟨k + 1, by omega, by go_num, by rw [HN.out]; exact own_below HR.out.1 HR.out.2.2.2, HR.out.2.1.below HR.out.2.2.2, HR.out.2.2.1.trans (HR.out.2.2.2.mono HS.out)⟩
                    case measure => simp [intOf]; omega
                · have j1 : ¬ (k : Int) < n1 := by omega
                  rw [if_neg (fun h => h1 h.1), List.append_nil] at hnx
                  have HN := hide hnx
                  have HLW := hide hlw
                  clear hnx hlw
                  go_wp2
                  exact ⟨⟨k + 1, by omega, by go_num, by rw [HN.out]; exact own_below HR.out.1 HR.out.2.2.2, HR.out.2.1.below HR.out.2.2.2, HR.out.2.2.1.trans (HR.out.2.2.2.mono HS.out)⟩, by simp [intOf]; omega⟩
              · obtain rfl : k = szs.length := by omega
                have i3 : ¬ (szs.length : Int) < (szs.length : Int) := by omega
                rw [planK_end] at hrow
                go_wp2
                go_ret2
                exact ⟨_, rfl, ⟨Or.inr (Or.inr (Or.inr ⟨hok, by omega, ⟨p1, p2⟩, L, _, HK.out.2, rfl, hrow⟩))⟩, hb⟩
      · by_cases hp1 : pc < 1
        · go_enter Tryz.func28, Tryz.ntmps28
          go_wp2_with fail
          refine hM.mono ?_
          rintro e w1 ⟨rfl, hb1⟩
          clear hM
          go_wp2_with (first | (go_at_call 52; refine (hT _).mono ?_; rintro e w2 ⟨rfl, hw2⟩; obtain rfl := hw2.symm))
          go_ret2
          exact ⟨_, rfl, ⟨Or.inr (Or.inr (Or.inl ⟨hok, by omega, hpc, rfl⟩))⟩, hb1⟩
        · have hp2 : 100 < pc := by omega
          have HPC := hide hpc
          clear hpc
          go_enter Tryz.func28, Tryz.ntmps28
          go_wp2_with fail
          refine hM.mono ?_
          rintro e w1 ⟨rfl, hb1⟩
          clear hM
          go_wp2_with (first | (go_at_call 52; refine (hT _).mono ?_; rintro e w2 ⟨rfl, hw2⟩; obtain rfl := hw2.symm))
          go_ret2
          exact ⟨_, rfl, ⟨Or.inr (Or.inr (Or.inl ⟨hok, by omega, HPC.out, rfl⟩))⟩, hb1⟩

end Go.Proofs.YtgfmnffaknmcnaaGreatDoor.Sw
