/- Layer 12: walks over sweep.go: tooMany, sizesMayBe, Live, Plan. -/
import Derived.Test.YtcaboefpdejlmaaSwLiv
namespace Go.Proofs.Ytcaboefpdejlmaa.Sw
open Go.RowKit Go.Joins Go.Sort Gk

theorem many_any (a : Option Addr) (n cap : Nat) (w : World) : Calls Try.prog 19 #[.slice a n cap] w fun e w' => e = .returned (.bool (decide (4096 < n))) ∧ w' = w := by
  by_cases h : 4096 < n
  · have h1 : (4096 : Int) < (n : Int) := by omega
    rw [decide_eq_true h]
    go_enter Try.func19, Try.ntmps19
    go_wp2
    go_ret
    exact ⟨rfl, rfl⟩
  · have h1 : ¬ (4096 : Int) < (n : Int) := by omega
    rw [decide_eq_false h]
    go_enter Try.func19, Try.ntmps19
    go_wp2
    go_ret
    exact ⟨rfl, rfl⟩
/-- sizes that may be: files rise, from 1 on, none greater than a disk -/
def szOk : Int → List Sz → Bool
  | _, [] => true
  | f, s :: r => if s.1 ≤ f ∨ s.2 < 0 ∨ 262144 < s.2 then false else szOk s.1 r
theorem szOk_drop {l : List Sz} {f : Int} (k : Nat) (h : k < l.length) : szOk f (l.drop k) = if l[k].1 ≤ f ∨ l[k].2 < 0 ∨ 262144 < l[k].2 then false else szOk l[k].1 (l.drop (k + 1)) := by
  rw [List.drop_eq_getElem_cons h, szOk]

set_option maxHeartbeats 1600000 in
set_option maxRecDepth 100000 in
theorem mayBe_any (a : Option Addr) (cap : Nat) (l : List Sz) (w : World) (hl : Lies w szE a l) (hn : l.length ≤ 9223372036854775807) :
    Calls Try.prog 23 #[.slice a l.length cap] w fun e w' => e = .returned (.bool (szOk 0 l)) ∧ Below w.heap.size w w' := by
  obtain ⟨r, hr⟩ : ∃ r, r = szOk 0 l := ⟨_, rfl⟩
  rw [← hr]
  have HR := hide hr
  clear hr
  go_enter Try.func23, Try.ntmps23
  go_wp2
  go_loopw [3, 8] (fun bv i wr => ∃ (k : Nat) (f : Int), k ≤ l.length ∧ i = .int .i64 k ∧ bv = .int .i64 f ∧ Hid (r = szOk f (l.drop k)) ∧ Below w.heap.size w wr) (fun _ i _ => l.length - (intOf i).toNat)
  case atStart => exact ⟨0, 0, Nat.zero_le _, rfl, rfl, HR, Below.refl _ _⟩
  case round =>
    obtain ⟨k, f, hk, rfl, rfl, hre, hb⟩ := hrel
    by_cases hlt : k < l.length
    · obtain ⟨b, off, rfl, hbl, hc⟩ := (hl.below hb).at szE_len k hlt
      have i1 : (0 : Int) ≤ (k : Int) := by omega
      have i2 : (k : Int) < (l.length : Int) := by omega
      have c0 := hc 0 _ rfl
      have c1 := hc 1 _ rfl
      rw [Nat.add_zero] at c0
      have hre := hre.out
      rw [szOk_drop k hlt] at hre
      have hbx := below_alloc1 wr (.cells #[.int .i64 l[k].1, .int .i64 l[k].2] SzT)
      generalize l[k] = x at c0 c1 hre hbx
      have HB := hide (And.intro hb hbx)
      clear hc hb hbx
      by_cases h1 : x.1 ≤ f
      · rw [if_pos (Or.inl h1)] at hre
        subst hre
        go_wp2
        go_ret
        exact ⟨rfl, HB.out.1.trans (HB.out.2.mono HB.out.1.size)⟩
      · by_cases h2 : x.2 < 0
        · rw [if_pos (Or.inr (Or.inl h2))] at hre
          subst hre
          go_wp2
          go_ret
          exact ⟨rfl, HB.out.1.trans (HB.out.2.mono HB.out.1.size)⟩
        · by_cases h3 : 262144 < x.2
          · rw [if_pos (Or.inr (Or.inr h3))] at hre
            subst hre
            go_wp2
            go_ret
            exact ⟨rfl, HB.out.1.trans (HB.out.2.mono HB.out.1.size)⟩
          · rw [if_neg (by omega)] at hre
            have HRE := hide hre
            clear hre
            go_wp2
            exact ⟨⟨k + 1, x.1, by omega, by go_num, rfl, HRE, HB.out.1.trans (HB.out.2.mono HB.out.1.size)⟩, by simp [intOf]; omega⟩
    · obtain rfl : k = l.length := by omega
      have i2 : ¬ (l.length : Int) < (l.length : Int) := by omega
      have hre := hre.out
      rw [List.drop_length, szOk] at hre
      subst hre
      go_wp2
      go_ret
      exact ⟨rfl, hb⟩

/-- a map of sizes -/
def mapS (A : List Sz) : Int → Option Value := A.foldl (fun F q => updF F q.1 (.int .i64 q.2)) fun _ => none
theorem mapS_snoc (A : List Sz) (q : Sz) : mapS (A ++ [q]) = updF (mapS A) q.1 (.int .i64 q.2) := by simp [mapS, List.foldl_append]
theorem mapS_some (A : List Sz) {f : Int} {v : Value} (h : mapS A f = some v) : ∃ q ∈ A, q.1 = f ∧ v = .int .i64 q.2 := by
  induction A using snocRec with
  | h0 => cases h
  | h1 A q ih =>
    rw [mapS_snoc] at h
    by_cases e : f = q.1
    · subst e
      rw [updF_same] at h
      exact ⟨q, by simp, rfl, (Option.some.inj h).symm⟩
    · rw [updF_other _ _ e] at h
      obtain ⟨r, hr, h2⟩ := ih h
      exact ⟨r, by simp [hr], h2⟩
theorem mapS_none (A : List Sz) {f : Int} (h : mapS A f = none) : ∀ q ∈ A, q.1 ≠ f := by
  induction A using snocRec with
  | h0 => simp
  | h1 A q ih =>
    rw [mapS_snoc] at h
    by_cases e : f = q.1
    · subst e
      rw [updF_same] at h; cases h
    · rw [updF_other _ _ e] at h
      intro r hr
      rcases List.mem_append.1 hr with hm | hm
      · exact ih h r hm
      · rw [List.mem_singleton.1 hm]; exact fun e' => e e'.symm
theorem mapS_look {L : List Pc} {A : List Sz} (h : Lbs L A) (f : Int) : (mapS A f).getD (.int .i64 0) = .int .i64 (of L f) := by
  cases hm : mapS A f with
  | none => rw [h.look (mapS_none A hm)]; rfl
  | some v =>
    obtain ⟨q, hq, rfl, rfl⟩ := mapS_some A hm
    rw [h.each q hq]; rfl
/-- is a file to be swept -/
def low (L : List Pc) (pc : Int) (s : Sz) : Bool := decide (of L s.1 * 100 < pc * s.2)
/-- the files that are swept: not the last one -/
def planL (L : List Pc) (pc : Int) (l : List Sz) : List Int := (l.dropLast.filter (low L pc)).map (·.1)
def planK (L : List Pc) (pc : Int) (l : List Sz) (k : Nat) : List Int := ((l.dropLast.take k).filter (low L pc)).map (·.1)
theorem planK_end (L : List Pc) (pc : Int) (l : List Sz) : planK L pc l l.length = planL L pc l := by
  unfold planK planL
  rw [List.take_of_length_le (by rw [List.length_dropLast]; omega)]
theorem planK_succ (L : List Pc) (pc : Int) {l : List Sz} {k : Nat} (h : k < l.length) : planK L pc l (k + 1) = planK L pc l k ++ (if k + 1 < l.length ∧ low L pc l[k] = true then [l[k].1] else []) := by
  unfold planK
  by_cases h1 : k + 1 < l.length
  · have hd : k < l.dropLast.length := by rw [List.length_dropLast]; omega
    rw [List.take_succ_eq_append_getElem hd, List.filter_append, List.map_append]
    have e : l.dropLast[k] = l[k] := by simp
    rw [e]
    by_cases h2 : low L pc l[k] = true
    · rw [if_pos ⟨h1, h2⟩]; simp [h2]
    · rw [if_neg (fun h => h2 h.2)]; simp [h2]
  · rw [if_neg (fun h => h1 h.1), List.append_nil, List.take_of_length_le (by rw [List.length_dropLast]; omega), List.take_of_length_le (by rw [List.length_dropLast]; omega)]
theorem planK_len (L : List Pc) (pc : Int) (l : List Sz) (k : Nat) : (planK L pc l k).length ≤ k := by
  unfold planK
  rw [List.length_map]
  exact Nat.le_trans (List.length_filter_le _ _) (by rw [List.length_take]; omega)

end Go.Proofs.Ytcaboefpdejlmaa.Sw
