/- Layer 9: TableForks: the law's walk. -/
import Derived.Test.YthdempdiibjababTbPly
import Derived.Test.YthdempdiibjababTbRows
import Derived.Test.YthdempdiibjababTbBook
namespace Go.Proofs.Ythdempdiibjabab.Tb
open Go.RowKit Go.Joins Go.Proofs.Ythdempdiibjabab.Gk Go.Proofs.Ythdempdiibjabab.Oq Go.Proofs.Ythdempdiibjabab.Sp

set_option maxRecDepth 100000 in
set_option maxHeartbeats 1600000 in
theorem forks_law (la : Option Addr) (lc : Nat) (l : List OpsA) (aa : Option Addr) (ac : Nat) (A : List Opn) (ab : Option Addr) (bc : Nat) (B : List Opn) (w : World) (hl : Lies w osenc la l) (he : ∀ x ∈ l, Lies w oenc x.a x.ops) (hA : Lies w oenc aa A) (hB : Lies w oenc ab B) :
    Calls Try.prog 5 #[.slice la l.length lc, .slice aa A.length ac, .slice ab B.length bc] w fun e w' => e = .returned (.bool true) ∧ Below w.heap.size w w' := by
  go_enter Try.func5, Try.ntmps5
  go_wp2_with fail
  refine (works_tb w).mono ?_
  rintro e w1 ⟨rfl, hb1⟩
  have hP := fun W (hb : Below w.heap.size w W) => played_tb la lc l W (hl.below hb) (fun x hx => (he x hx).below hb)
  generalize plays [] (l.take 40) = T at hP
  go_wp2_with fail
  refine (hP _ hb1).mono ?_
  rintro e w2 ⟨bt, rfl, ht2, lt2, hb⟩
  have hb2 := hb1.trans (hb.mono hb1.size)
  have s2 := Nat.le_trans hb1.size lt2
  clear hb
  go_wp2_with fail
  refine (hP _ hb2).mono ?_
  rintro e w3 ⟨bx, rfl, hx3, lt3, hb⟩
  have hb3 := hb2.trans (hb.mono hb2.size)
  have ht3 := ht2.below hb
  have s3 := Nat.le_trans hb2.size lt3
  have n1 : bt < bx := Nat.lt_of_lt_of_le ht2.lt lt3
  clear hb
  go_wp2_with fail
  refine (hP _ hb3).mono ?_
  rintro e w4 ⟨bY, rfl, hy4, lt4, hb⟩
  have hb4 := hb3.trans (hb.mono hb3.size)
  have ht4 := ht3.below hb
  have hx4 := hx3.below hb
  have s4 := Nat.le_trans hb3.size lt4
  have n2 : bx < bY := Nat.lt_of_lt_of_le hx3.lt lt4
  clear hb hP ht2 ht3 hx3 hb1 hb2 hb3
  go_wp2_with fail
  refine (Fork_tb bt T w4 ht4).mono ?_
  rintro e w5 ⟨bu, rfl, hu5, lt5, hb⟩
  have hb5 := hb4.trans (hb.mono hb4.size)
  have ht5 := ht4.below hb
  have hx5 := hx4.below hb
  have hy5 := hy4.below hb
  have s5 := Nat.le_trans hb4.size lt5
  have n3 : bY < bu := Nat.lt_of_lt_of_le hy4.lt lt5
  clear hb ht4 hx4 hy4 hb4
  go_wp2_with fail
  refine (Do_tb bt T aa ac A w5 ht5 (hA.below hb5)).mono ?_
  rintro e w6 ⟨ra6, rc6, rl6, rfl, hD⟩
  have hb6 := turn_below hb5 s2 hD.turn
  have ht6 := hD.tab
  have hx6 := hx5.turn ht5 (by omega) hD.turn
  have hy6 := hy5.turn ht5 (by omega) hD.turn
  have hu6 := hu5.turn ht5 (by omega) hD.turn
  clear hD ht5 hx5 hy5 hu5 hb5
  go_wp2_with fail
  refine (Do_tb bu T ab bc B w6 hu6 (hB.below hb6)).mono ?_
  rintro e w7 ⟨ra7, rc7, rl7, rfl, hD⟩
  have hb7 := turn_below hb6 s5 hD.turn
  have hu7 := hD.tab
  have ht7 := ht6.turn hu6 (by omega) hD.turn
  have hx7 := hx6.turn hu6 (by omega) hD.turn
  have hy7 := hy6.turn hu6 (by omega) hD.turn
  clear hD ht6 hx6 hy6 hu6 hb6
  go_wp2_with fail
  refine (Do_tb bx T aa ac A w7 hx7 (hA.below hb7)).mono ?_
  rintro e w8 ⟨ra8, rc8, rl8, rfl, hD⟩
  have hb8 := turn_below hb7 s3 hD.turn
  have hx8 := hD.tab
  have ht8 := ht7.turn hx7 (by omega) hD.turn
  have hu8 := hu7.turn hx7 (by omega) hD.turn
  have hy8 := hy7.turn hx7 (by omega) hD.turn
  clear hD ht7 hx7 hy7 hu7 hb7
  go_wp2_with fail
  refine (Do_tb bY T ab bc B w8 hy8 (hB.below hb8)).mono ?_
  rintro e w9 ⟨ra9, rc9, rl9, rfl, hD⟩
  have hb9 := turn_below hb8 s4 hD.turn
  have hy9 := hD.tab
  have ht9 := ht8.turn hy8 (by omega) hD.turn
  have hu9 := hu8.turn hy8 (by omega) hD.turn
  have hx9 := hx8.turn hy8 (by omega) hD.turn
  clear hD ht8 hx8 hy8 hu8 hb8 hl he hA hB
  generalize (dos T A).2 = TA at *
  generalize (dos T B).2 = TB at *
  have hla := ht9.1.len
  have hlb := hu9.1.len
  go_wp2_with fail
  refine (Rows_all bt TA w9 ht9).mono ?_
  rintro e w10 ⟨g10, rfl, ho10, hb⟩
  have hb10 := hb9.trans (hb.mono hb9.size)
  have hu10 := hu9.below hb
  have hx10 := hx9.below hb
  have hy10 := hy9.below hb
  clear hb ht9 hu9 hx9 hy9 hb9
  go_wp2_with fail
  refine (Rows_all bx TA w10 hx10).mono ?_
  rintro e w11 ⟨g11, rfl, ho11, hb⟩
  have hb11 := hb10.trans (hb.mono hb10.size)
  have ho10' := own_below ho10 hb
  have hu11 := hu10.below hb
  have hy11 := hy10.below hb
  clear hb hu10 hx10 hy10 hb10 ho10
  go_wp2_with fail
  refine (sameRows_any _ _ _ _ TA w11 (RL.of_own ho10').lies (RL.of_own ho11).lies (by omega)).mono ?_
  rintro e w12 ⟨rfl, hb⟩
  have hb12 := hb11.trans (hb.mono hb11.size)
  have hu12 := hu11.below hb
  have hy12 := hy11.below hb
  clear hb hu11 hy11 hb11 ho10' ho11
  go_wp2_with fail
  refine (Rows_all bu TB w12 hu12).mono ?_
  rintro e w13 ⟨g13, rfl, ho13, hb⟩
  have hb13 := hb12.trans (hb.mono hb12.size)
  have hy13 := hy12.below hb
  clear hb hu12 hy12 hb12
  go_wp2_with fail
  refine (Rows_all bY TB w13 hy13).mono ?_
  rintro e w14 ⟨g14, rfl, ho14, hb⟩
  have hb14 := hb13.trans (hb.mono hb13.size)
  have ho13' := own_below ho13 hb
  clear hb hy13 hb13 ho13
  go_wp2_with fail
  refine (sameRows_any _ _ _ _ TB w14 (RL.of_own ho13').lies (RL.of_own ho14).lies (by omega)).mono ?_
  rintro e w15 ⟨rfl, hb⟩
  have hb15 := hb14.trans (hb.mono hb14.size)
  clear hb
  go_wp2
  go_ret
  exact ⟨rfl, hb15⟩

end Go.Proofs.Ythdempdiibjabab.Tb
