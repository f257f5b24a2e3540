/- skylarklaw11's example: works() is true. -/
import Derived.Test.YtlojajgehaiefaaGreatDoorVlSt
namespace Go.Proofs.YtlojajgehaiefaaGreatDoor.Vl
open Go.RowKit Go.Joins
open Go.Proofs.YtlojajgehaiefaaGreatDoor.Dk (Bs Fil Fls St St.Ok Held Only Rising named getL getL_some getL_none putL fileOr used)

theorem getR_other {D t : ByteArray} {a l l' : Int} (h : getR D a l = (t, 0)) (hl : l' ≠ l) : getR D a l' = (⟨#[]⟩, 110) := by
  unfold getR at h ⊢
  by_cases hc : (unframe D a).2.2.2 = 0 ∧ ((unframe D a).1.size : Int) = l
  · rw [if_neg]
    rintro ⟨_, h2⟩
    exact hl (h2.symm.trans hc.2)
  · rw [if_neg hc] at h
    cases h
theorem new_nums (room : Nat) : nums (Dk.St.new room) = [] := by simp [nums, numsL, Dk.St.new]
/-- values on a new disk -/
theorem new_open {w w1 : World} {bd room most : Nat} (hE : Env w) (hH : Held w1 (fun b => w.heap.size ≤ b) bd (Dk.St.new room)) (hb : Below w.heap.size w w1) (hm1 : 1 ≤ most) (hm2 : most ≤ 65536) {c : Nat} (hc : c * 60 ≤ room) {w2 : World} (hb2 : Below w1.heap.size w1 w2) :
    Calls Tryz.prog 9 #[.pointer (some ⟨bd, 0, none⟩), .int .i64 most] w2 fun e w' => ∃ (bv : Nat) (own' : Nat → Prop) (S : St), e = .returned (.tuple #[.pointer (some ⟨bv, 0, none⟩), .int .i64 0]) ∧ VH w w' own' bd bv most 0 S ∧ Vs S 0 c 0 ∧ Cln S ∧ nums S = [] := by
  have hD : Held w2 (fun b => w.heap.size ≤ b ∧ b < w1.heap.size) bd (Dk.St.new room) := (hH.own fun _ h1 h2 => ⟨h2, h1⟩).below hb2
  refine (Open_ok (w0 := w) hD (fun b h => ⟨h.1, Nat.lt_of_lt_of_le h.2 hb2.size⟩) hE (hb.trans (hb2.mono hb.size)) ⟨rfl, rfl⟩ hm1 hm2).mono ?_
  rintro e w' ⟨bv, own', S', rfl, hV, hO, -, -⟩
  have hf : ∀ k, getL k S'.files = none := fun k => by rw [hO.else_ k (by rw [new_nums]; simp)]; rfl
  have hf2 : S'.files = [] := List.eq_nil_iff_forall_not_mem.2 fun p hp => getL_none (hf p.1) p hp rfl
  have hn : nums S' = [] := by rw [hO.nums]; exact new_nums room
  rw [new_nums, show topL [] = 0 from rfl] at hV
  refine ⟨bv, own', S', rfl, hV, ⟨hO.up, by rw [hO.room]; exact hc, by rw [hn]; simp, Nat.le_refl _, by rw [hf2]; exact Nat.zero_le _, by rw [hf2]; exact Nat.zero_le _⟩, fun n hn => ⟨[], by simp [mayV], ?_⟩, hn⟩
  rw [dat_none hn (hf _)]; rfl
set_option maxRecDepth 100000 in
set_option maxHeartbeats 6400000 in
theorem works_any (w : World) (hE : Env w) : Calls Tryz.prog 10 #[] w fun e w' => e = .returned (.bool true) ∧ Below w.heap.size w w' := by
  have hN := Dk.new_ok 1000 w (by omega)
  go_enter Tryz.func10, Tryz.ntmps10
  go_wp2_with fail
  refine hN.mono ?_
  rintro e w1 ⟨bd, rfl, hH1, hb1⟩
  have hO := new_open (most := 1) (c := 16) hE hH1 hb1 (by omega) (by omega) (by omega) (Below.refl _ w1)
  clear hN
  go_wp2_with fail
  refine hO.mono ?_
  rintro e w2 ⟨bv, own2, S2, rfl, hV2, hs2, hc2, hn2⟩
  have hP := hV2.put hs2 (by omega) (by omega) ⟨#[97, 98]⟩ (by decide)
  clear hO
  go_wp2_with fail
  refine hP.mono ?_
  rintro e w3 ⟨n3, own3, rfl, h31, h32, -, hV3, hs3, hst3, -⟩
  obtain rfl : n3 = 1 := by omega
  have hd2 : dat S2 1 = [] := dat_none (by omega) (nums_none (by omega) (by omega) (by rw [hn2]; simp))
  have hc3 := hc2.put (n := 1) (s := ⟨#[97, 98]⟩) hV2.ok.rising (by decide)
  have hi3 := In.new (n := 1) (s := ⟨#[97, 98]⟩) hc2 hV2.ok.rising (by omega) (by omega) (by decide)
  rw [hd2] at hi3 ⊢
  obtain ⟨W3, hW3⟩ : ∃ W3, W3 = w3.alloc (.cells #[.int .i64 1, .int .i64 0, .int .i64 2] PlT) := ⟨_, rfl⟩
  have hb3 : Below w3.heap.size w3 W3 := by rw [hW3]; exact below_alloc1 _ _
  have hV3' := hV3.below hb3
  generalize hS3 : putS S2 1 ⟨#[97, 98]⟩ = S3 at *
  have hP := hV3'.put hs3 (by omega) (by omega) ⟨#[99]⟩ (by decide)
  have hd3 : ¬ (dat S3 1).length < 1 := by have := hi3.le; simp only at this; omega
  have hin3 : nums S3 = [1] := rise_ext (nums_rise hV3.ok.rising) (by simp) fun m => by
    rw [← hS3, putS_nums hV2.ok.rising (by omega) (by omega), hn2]; simp
  go_wp2_with fail
  rw [← hW3]
  refine hP.mono ?_
  rintro e w4 ⟨n4, own4, rfl, -, -, -, hV4, hs4, hst4, he4⟩
  have hn4 : n4 = 2 := by
    rw [endR, hin3] at he4
    simp only [List.getLast?_singleton] at he4
    rw [if_neg hd3] at he4
    simp only [newR] at he4
    rw [if_neg (by omega)] at he4
    simp only [Option.some.injEq, Prod.mk.injEq] at he4
    omega
  subst hn4
  have hd3' : dat S3 2 = [] := dat_none (by omega) (nums_none (by omega) (by omega) (by rw [hin3]; simp))
  rw [hd3']
  have hi4 := hi3.put (n := 2) (s := ⟨#[99]⟩) hV3.ok.rising
  have hxb : w4.heap[w3.heap.size]? = some (.cells #[.int .i64 1, .int .i64 0, .int .i64 2] PlT (0, 0)) := by
    have h1 : W3.heap[w3.heap.size]? = some (.cells #[.int .i64 1, .int .i64 0, .int .i64 2] PlT (0, 0)) := by rw [hW3]; exact heap_alloc_new _ _
    have h2 := (Array.getElem?_eq_some_iff.1 h1).1
    exact (hst4.block h2 (fun e => by
      rcases e with e | e
      · have := (hV3.old _ e).2; omega
      · have := hV3.lt; omega)).1.trans h1
  obtain ⟨W4, hW4⟩ : ∃ W4, W4 = w4.alloc (.cells #[.int .i64 2, .int .i64 0, .int .i64 1] PlT) := ⟨_, rfl⟩
  have hb4 : Below w4.heap.size w4 W4 := by rw [hW4]; exact below_alloc1 _ _
  have hxb4 := keepBlk hb4 hxb
  have hyb4 : W4.heap[w4.heap.size]? = some (.cells #[.int .i64 2, .int .i64 0, .int .i64 1] PlT (0, 0)) := by rw [hW4]; exact heap_alloc_new _ _
  have hV4' := hV4.below hb4
  have hG := Get_any hV4' hi4.file 0 2 (by omega) (by omega)
  have hge := hi4.get
  simp only at hG hge
  have hge' : getR ⟨(dat (putS S3 2 ⟨#[99]⟩) 1).toArray⟩ 0 2 = (⟨#[97, 98]⟩, 0) := hge
  rw [hge'] at hG
  have x0 : w4.cell? ⟨w3.heap.size, 0, none⟩ = some (.int .i64 1) := cell_of_block hxb 0
  have x1 : w4.cell? ⟨w3.heap.size, 1, none⟩ = some (.int .i64 0) := cell_of_block hxb 1
  have x2 : w4.cell? ⟨w3.heap.size, 2, none⟩ = some (.int .i64 2) := cell_of_block hxb 2
  have l34 : w3.heap.size < w4.heap.size := (Array.getElem?_eq_some_iff.1 hxb).1
  have n34 : ¬ w3.heap.size = w4.heap.size := by omega
  have HXB := hide hxb4
  have HYB := hide hyb4
  have hng := getR_other (l' := 3) hge' (by decide)
  have hG2 : ∀ W, Below W4.heap.size W4 W → _ := fun W hb => Get_any (hV4'.below hb) hi4.file 0 3 (by omega) (by omega)
  simp only at hG2
  rw [hng] at hG2
  have hbas := hV4'.base
  clear hP hge hge' hxb hxb4 hyb4 hng
  go_wp2_with fail
  rw [← hW4]
  refine hG.mono ?_
  rintro e w5 ⟨rfl, hb5⟩
  have hG3 := hG2 w5 hb5
  have HB5 := hide hb5
  clear hG hG2 x0 x1 x2 hW3 hW4
  go_wp2_with fail
  refine hG3.mono ?_
  rintro e w6 ⟨rfl, hb6⟩
  have hxb6 := keepBlk hb6 (keepBlk HB5.out HXB.out)
  have hyb6 := keepBlk hb6 (keepBlk HB5.out HYB.out)
  have x0 : w6.cell? ⟨w3.heap.size, 0, none⟩ = some (.int .i64 1) := cell_of_block hxb6 0
  have x1 : w6.cell? ⟨w3.heap.size, 1, none⟩ = some (.int .i64 0) := cell_of_block hxb6 1
  have x2 : w6.cell? ⟨w3.heap.size, 2, none⟩ = some (.int .i64 2) := cell_of_block hxb6 2
  have y0 : w6.cell? ⟨w4.heap.size, 0, none⟩ = some (.int .i64 2) := cell_of_block hyb6 0
  have y1 : w6.cell? ⟨w4.heap.size, 1, none⟩ = some (.int .i64 0) := cell_of_block hyb6 1
  have y2 : w6.cell? ⟨w4.heap.size, 2, none⟩ = some (.int .i64 1) := cell_of_block hyb6 2
  have hbe : Below w.heap.size w w6 := (hbas.trans (HB5.out.mono hbas.size)).trans (hb6.mono (Nat.le_trans hbas.size HB5.out.size))
  clear hG3 hxb6 hyb6
  go_wp2
  go_ret
  exact ⟨rfl, hbe⟩

end Go.Proofs.YtlojajgehaiefaaGreatDoor.Vl
