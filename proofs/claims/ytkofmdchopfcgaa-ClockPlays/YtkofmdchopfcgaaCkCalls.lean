/- Walks over clock.go: New, Now, Step, All, Apart, Draw, Fork. -/
import Derived.Test.YtkofmdchopfcgaaCkIn
import Derived.Test.YtkofmdchopfcgaaGApp
import Derived.Lib.SliceRun
import Derived.Laws.Bits64
namespace Go.Proofs.Ytkofmdchopfcgaa.Ck
open Go.RowKit Go.Joins Gk

theorem wrap_small {x : Int} (h0 : -9223372036854775808 ≤ x) (h1 : x ≤ 9223372036854775807) : IntKind.i64.wrap x = x := by
  simp only [IntKind.wrap, IntKind.bits, IntKind.signed]
  simp
  omega
theorem u64_range (x : Int) : 0 ≤ IntKind.wrap .u64 x ∧ IntKind.wrap .u64 x < 18446744073709551616 := by rw [IntKind.wrap_u64]; omega
theorem nextW_range (x : Int) : 0 ≤ nextW x ∧ nextW x < 18446744073709551616 := u64_range _
theorem mixW_range (x : Int) : 0 ≤ mixW x ∧ mixW x < 18446744073709551616 := by
  unfold mixW mixC
  generalize mixB (mixA x) = y
  exact u64_range _

section
variable {bc g cap : Nat} {S : Cst}
set_option maxHeartbeats 400000 in
theorem now_any (w : World) (h : CHeld w ClkT bc g S) (x : Int) :
    Calls Try.prog 16 #[.pointer (some ⟨bc, 0, none⟩), .int .i64 x] w fun e w' => e = .returned (.tuple #[.int .i64 (S.now x).1, .int .i64 (S.now x).2]) ∧ w' = w := by
  obtain ⟨cap, h⟩ := h
  have hH := has_any w h x
  cases hx : S.has x with
  | false =>
    have hv : S.now x = (0, 30) := by simp [Cst.now, hx]
    rw [hv]
    rw [hx] at hH
    go_enter Try.func16, Try.ntmps16
    go_wp2_with (go_at_call 24; refine hH.mono ?_; rintro e w1 ⟨rfl, rfl⟩)
    go_ret2
    exact ⟨rfl, rfl⟩
  | true =>
    have hv : S.now x = (S.tm x, 0) := by simp [Cst.now, hx]
    rw [hv]
    rw [hx] at hH
    have hA := at_any w h x hx
    go_enter Try.func16, Try.ntmps16
    go_wp2_with (first | (go_at_call 24; refine hH.mono ?_; rintro e w1 ⟨rfl, rfl⟩) | (go_at_call 26; refine hA.mono ?_; rintro e w1 ⟨rfl, rfl⟩))
    go_ret2
    exact ⟨rfl, rfl⟩

set_option maxHeartbeats 1600000 in
theorem step_any (w : World) (h : CHeld w ClkT bc g S) (hok : S.Ok) (x n : Int) :
    Calls Try.prog 10 #[.pointer (some ⟨bc, 0, none⟩), .int .i64 x, .int .i64 n] w fun e w' => e = .returned (.tuple #[.int .i64 (S.step x n).1.1, .int .i64 (S.step x n).1.2]) ∧ CHeld w' ClkT bc g (S.step x n).2 ∧ Only (two bc g) w w' := by
  obtain ⟨cap, h⟩ := h
  have hH := has_any w h x
  cases hx : S.has x with
  | false =>
    have hv : S.step x n = ((0, 30), S) := by simp [Cst.step, hx]
    rw [hv]
    rw [hx] at hH
    have HH := hide h
    clear h
    go_enter Try.func10, Try.ntmps10
    go_wp2_with (go_at_call 24; refine hH.mono ?_; rintro e w1 ⟨rfl, rfl⟩)
    go_ret2
    exact ⟨rfl, ⟨_, HH.out⟩, Only.refl _ _⟩
  | true =>
    rw [hx] at hH
    have hA := at_any w h x hx
    have hM := mayGo_any w (S.tm x) n (hok.tm hx)
    by_cases hg0 : mayGo (S.tm x) n = 0
    · have hv : S.step x n = ((S.tm x + n, 0), { S with ts := S.ts.set x.toNat (S.tm x + n) }) := by simp [Cst.step, hx, hg0]
      rw [hv]
      rw [hg0] at hM
      have hr := mayGo_zero.1 hg0
      have ht := hok.tm hx
      have hG := goOn_any w h x n hx (by omega)
      obtain ⟨x0, x1⟩ := Cst.has_iff.1 hx
      have hs := h.setTime x.toNat (by omega) (S.tm x + n)
      have hA2 := at_any _ hs x (by rw [Cst.has_iff]; simp only [List.length_set]; exact ⟨x0, x1⟩)
      have ht2 : Cst.tm { S with ts := S.ts.set x.toNat (S.tm x + n) } x = S.tm x + n := by
        have hi : x.toNat < S.ts.length := by omega
        simp [Cst.tm, hi]
      rw [ht2] at hA2
      have HS := hide hs
      clear h hs ht2
      go_enter Try.func10, Try.ntmps10
      go_wp2_with (first | (go_at_call 24; refine hH.mono ?_; rintro e w1 ⟨rfl, rfl⟩) | (go_at_call 26; refine hA.mono ?_; rintro e w1 ⟨rfl, rfl⟩) | (go_at_call 25; refine hM.mono ?_; rintro e w1 ⟨rfl, rfl⟩) | (go_at_call 27; refine hG.mono ?_; rintro e w1 ⟨rfl, rfl⟩) | (go_at_call 26; refine hA2.mono ?_; rintro e w1 ⟨rfl, rfl⟩))
      go_ret2
      exact ⟨rfl, ⟨_, HS.out⟩, Only.of_set _ (Or.inr rfl) _⟩
    · have hv : S.step x n = ((0, mayGo (S.tm x) n), S) := by simp [Cst.step, hx, hg0]
      rw [hv]
      have hq : (mayGo (S.tm x) n != 0) = true := by simpa using hg0
      generalize mayGo (S.tm x) n = q at *
      have HH := hide h
      clear h
      go_enter Try.func10, Try.ntmps10
      go_wp2_with (first | (go_at_call 24; refine hH.mono ?_; rintro e w1 ⟨rfl, rfl⟩) | (go_at_call 26; refine hA.mono ?_; rintro e w1 ⟨rfl, rfl⟩) | (go_at_call 25; refine hM.mono ?_; rintro e w1 ⟨rfl, rfl⟩))
      go_ret2
      exact ⟨rfl, ⟨_, HH.out⟩, Only.refl _ _⟩

/-- the first k times have gone on -/
def Cst.part (S : Cst) (n : Int) (k : Nat) : Cst := { S with ts := (S.ts.take k).map (· + n) ++ S.ts.drop k }
theorem Cst.part_len (S : Cst) (n : Int) (k : Nat) : (S.part n k).ts.length = S.ts.length := by simp [Cst.part]; omega
theorem Cst.part_zero (S : Cst) (n : Int) : S.part n 0 = S := by simp [Cst.part]
theorem Cst.part_all (S : Cst) (n : Int) : S.part n S.ts.length = { S with ts := S.ts.map (· + n) } := by simp [Cst.part]
theorem Cst.part_tm (S : Cst) (n : Int) (k : Nat) (hk : k < S.ts.length) : (S.part n k).tm k = S.ts[k] := by
  simp [Cst.part, Cst.tm, List.getElem?_append, Nat.min_eq_left (Nat.le_of_lt hk), List.getElem?_eq_getElem hk]
theorem Cst.part_succ (S : Cst) (n : Int) (k : Nat) (hk : k < S.ts.length) : { S.part n k with ts := (S.part n k).ts.set k (S.ts[k] + n) } = S.part n (k + 1) := by
  simp only [Cst.part]
  congr 1
  rw [List.set_append_right _ _ (by simp; omega), List.take_succ_eq_append_getElem hk, List.map_append, List.append_assoc, List.length_map, List.length_take, Nat.min_eq_left (Nat.le_of_lt hk), Nat.sub_self]
  congr 1
  rw [List.drop_eq_getElem_cons hk]; rfl

set_option maxHeartbeats 1600000 in
theorem allGoOn_any (w : World) (h : CHeldL w ClkT bc g S cap) (hok : S.Ok) (n : Int) (hn : 0 ≤ n ∧ n ≤ 1073741824) :
    Calls Try.prog 30 #[.pointer (some ⟨bc, 0, none⟩), .int .i64 n] w fun e w' => e = .returned (.tuple #[]) ∧ CHeldL w' ClkT bc g { S with ts := S.ts.map (· + n) } cap ∧ Only (two bc g) w w' := by
  have c0 := h.c0
  have hl := hok.n2
  have hE := hok.each
  have HH := hide h
  clear h
  go_enter Try.func30, Try.ntmps30
  go_wp2
  go_loopw [4, 10] (fun _ i wr => ∃ k : Nat, k ≤ S.ts.length ∧ i = .int .i64 k ∧ CHeldL wr ClkT bc g (S.part n k) cap ∧ Only (two bc g) w wr) (fun _ i _ => S.ts.length - (intOf i).toNat)
  case atStart => exact ⟨0, by omega, rfl, by rw [Cst.part_zero]; exact HH.out, Only.refl _ _⟩
  case round =>
    obtain ⟨k, hk, rfl, hh, ho⟩ := hrel
    by_cases hlt : k < S.ts.length
    · have i1 : (0 : Int) ≤ (k : Int) := by omega
      have i2 : (k : Int) < (S.ts.length : Int) := by omega
      have hx : (S.part n k).has (k : Int) = true := Cst.has_iff.2 ⟨by omega, by rw [Cst.part_len]; omega⟩
      have htm := S.part_tm n k hlt
      have hs := hh.setTime k (by rw [Cst.part_len]; exact hlt) (S.ts[k] + n)
      rw [S.part_succ n k hlt] at hs
      have hb := hE _ (List.getElem_mem hlt)
      have hG := goOn_any wr hh (k : Int) n hx (by rw [htm]; omega)
      rw [htm, Int.toNat_natCast] at hG
      have HS := hide hs
      have HO := hide (ho.trans (Only.of_set (own := two bc g) wr (a := ⟨g, k, none⟩) (Or.inr rfl) (.int .i64 (S.ts[k] + n))))
      generalize S.ts[k] = y at *
      clear hx htm hs hh ho hE hb
      go_wp2_with (go_at_call 27; refine hG.mono ?_; rintro e w1 ⟨rfl, rfl⟩)
      go_roundw
      case rel => exact ⟨k + 1, by omega, by go_num, HS.out, HO.out⟩
      case measure => simp [intOf]; omega
    · obtain rfl : k = S.ts.length := by omega
      rw [Cst.part_all] at hh
      go_wp2
      refine bodyPost_end (v := .tuple #[]) (by simp [results, Try.results30]) rfl ?_
      exact ⟨rfl, hh, ho⟩

set_option maxHeartbeats 1600000 in
theorem all_any (w : World) (h : CHeld w ClkT bc g S) (hok : S.Ok) (n : Int) :
    Calls Try.prog 12 #[.pointer (some ⟨bc, 0, none⟩), .int .i64 n] w fun e w' => e = .returned (.int .i64 (S.all n).1) ∧ CHeld w' ClkT bc g (S.all n).2 ∧ Only (two bc g) w w' := by
  obtain ⟨cap, h⟩ := h
  have hGr := greatest_any w h hok
  have hM := mayGo_any w S.most n hok.most
  by_cases hg0 : mayGo S.most n = 0
  · have hv : S.all n = (0, { S with ts := S.ts.map (· + n) }) := by simp [Cst.all, hg0]
    rw [hv]
    rw [hg0] at hM
    have hr := mayGo_zero.1 hg0
    have hm := hok.most
    have hA := allGoOn_any w h hok n (by omega)
    clear h
    go_enter Try.func12, Try.ntmps12
    go_wp2_with (first | (go_at_call 29; refine hGr.mono ?_; rintro e w1 ⟨rfl, rfl⟩) | (go_at_call 25; refine hM.mono ?_; rintro e w1 ⟨rfl, rfl⟩) | (go_at_call 30; refine hA.mono ?_; rintro e w2 ⟨rfl, hh2, ho2⟩))
    go_ret
    exact ⟨rfl, ⟨_, hh2⟩, ho2⟩
  · have hv : S.all n = (mayGo S.most n, S) := by simp [Cst.all, hg0]
    rw [hv]
    have hq : (mayGo S.most n != 0) = true := by simpa using hg0
    generalize mayGo S.most n = q at *
    have HH := hide h
    clear h
    go_enter Try.func12, Try.ntmps12
    go_wp2_with (first | (go_at_call 29; refine hGr.mono ?_; rintro e w1 ⟨rfl, rfl⟩) | (go_at_call 25; refine hM.mono ?_; rintro e w1 ⟨rfl, rfl⟩))
    go_ret
    exact ⟨rfl, ⟨_, HH.out⟩, Only.refl _ _⟩

/-- worlds that part by their tape alone -/
abbrev Sw (w W : World) : Prop := W.heap = w.heap ∧ Below w.heap.size w W
theorem Sw.refl (w : World) : Sw w w := ⟨rfl, Below.refl _ _⟩
theorem Sw.drew {w A : World} (h : Sw w A) : Sw w A.drew := ⟨h.1, h.2.drew⟩
theorem CHeldL.sw {w W : World} {T : TypeId} (h : CHeldL w T bc g S cap) (hw : Sw w W) : CHeldL W T bc g S cap := h.stay (by rw [hw.1]) (by rw [hw.1])
theorem CHeld.sw {w W : World} {T : TypeId} (h : CHeld w T bc g S) (hw : Sw w W) : CHeld W T bc g S := h.stay (by rw [hw.1]) (by rw [hw.1])

set_option maxHeartbeats 800000 in
theorem apart_any (w : World) (h : CHeld w ClkT bc g S) (hok : S.Ok) :
    Calls Try.prog 20 #[.pointer (some ⟨bc, 0, none⟩)] w fun e w' => e = .returned (.int .i64 S.apart) ∧ Sw w w' := by
  obtain ⟨cap, h⟩ := h
  have hGr := fun W (hw : Sw w W) => greatest_any W (h.sw hw) hok
  have hLs := fun W (hw : Sw w W) => least_any W (h.sw hw) hok
  have hm := hok.most
  have hl := hok.least
  clear h
  show Calls Try.prog 20 #[.pointer (some ⟨bc, 0, none⟩)] w fun e w' => e = .returned (.int .i64 (S.most - S.least)) ∧ Sw w w'
  have hS := Sw.refl w
  have hwr : IntKind.i64.wrap (S.most - S.least) = S.most - S.least := wrap_small (by omega) (by omega)
  go_enter Try.func20, Try.ntmps20
  go_wp2_with fail
  go_region_held3 (Sw w) (first | exact Sw.drew (by assumption) | assumption)
    (first | (go_at_call 29; refine (hGr _ (by assumption)).mono ?_; rintro e w1 ⟨rfl, rfl⟩) | (go_at_call 33; refine (hLs _ (by assumption)).mono ?_; rintro e w1 ⟨rfl, rfl⟩))
  all_goals
    go_wp2
    go_ret
    exact ⟨rfl, by assumption⟩

set_option maxHeartbeats 800000 in
theorem draw_any (w : World) (h : CHeld w ClkT bc g S) (n : Int) :
    Calls Try.prog 14 #[.pointer (some ⟨bc, 0, none⟩), .int .i64 n] w fun e w' => e = .returned (.tuple #[.int .i64 (S.draw n).1.1, .int .i64 (S.draw n).1.2]) ∧ CHeld w' ClkT bc g (S.draw n).2 ∧ Only (two bc g) w w' := by
  obtain ⟨cap, h⟩ := h
  by_cases h1 : 1 ≤ n
  · by_cases h2 : n ≤ 2147483648
    · have hv : S.draw n = ((mixW (nextW S.wd) % n, 0), { S with wd := nextW S.wd }) := by simp [Cst.draw, h1, h2]
      rw [hv]
      have hN := next_any w h
      have hr := mixW_range (nextW S.wd)
      have HS := hide (h.setWord (nextW S.wd))
      generalize mixW (nextW S.wd) = x at *
      have hx1 : 0 ≤ x % n := Int.emod_nonneg _ (by omega)
      have hx2 : x % n < n := Int.emod_lt_of_pos _ (by omega)
      have hne : (n == 0) = false := by rw [beq_eq_false_iff_ne]; omega
      have hne' : n ≠ 0 := by omega
      have htm : Int.tmod x n = x % n := Int.tmod_eq_emod_of_nonneg hr.1
      have HO := hide (Only.of_set (own := two bc g) w (a := ⟨bc, 1, none⟩) (Or.inl rfl) (.int .u64 (nextW S.wd)))
      clear h
      go_enter Try.func14, Try.ntmps14
      go_wp2_with (go_at_call 31; refine hN.mono ?_; rintro e w1 ⟨rfl, rfl⟩)
      go_ret2
      exact ⟨rfl, ⟨_, HS.out⟩, HO.out⟩
    · have hv : S.draw n = ((0, 1), S) := by simp [Cst.draw, h2]
      rw [hv]
      have h2' : (2147483648 : Int) < n := by omega
      have HH := hide h
      clear h
      go_enter Try.func14, Try.ntmps14
      go_wp2
      go_ret2
      exact ⟨rfl, ⟨_, HH.out⟩, Only.refl _ _⟩
  · have hv : S.draw n = ((0, 1), S) := by simp [Cst.draw, h1]
    rw [hv]
    have h1' : n < (1 : Int) := by omega
    have HH := hide h
    clear h
    go_enter Try.func14, Try.ntmps14
    go_wp2
    go_ret2
    exact ⟨rfl, ⟨_, HH.out⟩, Only.refl _ _⟩
end

end Go.Proofs.Ytkofmdchopfcgaa.Ck
