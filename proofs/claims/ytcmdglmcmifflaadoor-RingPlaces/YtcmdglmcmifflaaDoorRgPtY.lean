/- Walks over ring.go: Points. -/
import Derived.Test.YtcmdglmcmifflaaDoorRgIn
namespace Go.Proofs.YtcmdglmcmifflaaDoor.Rg
open Go.RowKit Go.Joins Gk

set_option maxHeartbeats 1600000 in
theorem points_yes (a : Option Addr) (cap : Nat) (ws : List Int) (hM : May ws) (w : World) (hl : Lies w ienc a ws) (hT : Tab w) :
    Calls Tryd.prog 8 #[.slice a ws.length cap] w fun e w' => ∃ a1 c1 a2 c2 l, e = .returned (.tuple #[.slice a1 (List.length l) c1, .slice a2 (List.length l) c2, .int .i64 0]) ∧ Below w.heap.size w w' ∧ Hid (Row w' uenc U64T 1 (.slice a1 l.length c1) l ∧ Row w' cenc IntT 1 (.slice a2 l.length c2) l ∧ Srt ws l) := by
  have hC := fun W (h : Lies W ienc a ws) => check_any a cap ws W h (by have := hM.n2; omega)
  rw [chk_yes hM] at hC
  have hO := inOrder_any a cap ws hM w hl hT
  go_enter Tryd.func8, Tryd.ntmps8
  go_wp2_with (first | (go_at_call 30; refine (hC _ hl).mono ?_; rintro e w1 ⟨rfl, hw1⟩; obtain rfl := hw1.symm))
  refine hO.mono ?_
  rintro e w2 ⟨va, vc, l, rfl, h1, h2, hb, hS⟩
  obtain ⟨a1, c1, rfl⟩ := own_slice h1
  obtain ⟨a2, c2, rfl⟩ := own_slice h2
  have HH := hide (show Row w2 uenc U64T 1 (.slice a1 l.length c1) l ∧ Row w2 cenc IntT 1 (.slice a2 l.length c2) l ∧ Srt ws l from ⟨own_mono h1 (Nat.zero_le _), own_mono h2 (Nat.zero_le _), hS⟩)
  clear h1 h2 hC hO
  go_wp2
  go_quiet (fail)
  go_wp2
  have hd : Below w2.heap.size w2 ((w2.alloc (.cells #[.slice a1 l.length c1, .slice a2 l.length c2] PtsT)).drewN nq) := (below_alloc1 _ _).trans (below_draws w2.heap.size _ nq)
  refine bodyPost_ret (results_tmp3 rfl _ _ _) rfl ⟨a1, c1, a2, c2, l, rfl, hb.trans (hd.mono hb.size), ⟨HH.out.1.below hd, HH.out.2.1.below hd, HH.out.2.2⟩⟩
set_option maxHeartbeats 1600000 in
theorem points_no (a : Option Addr) (cap : Nat) (ws : List Int) (hM : ¬ May ws) (w : World) (hl : Lies w ienc a ws) (hn : ws.length ≤ 9223372036854775807) :
    Calls Tryd.prog 8 #[.slice a ws.length cap] w fun e w' => e = .returned (.tuple #[.slice none 0 0, .slice none 0 0, .int .i64 1]) ∧ w' = w := by
  have hC := check_any a cap ws w hl hn
  rw [chk_no hM] at hC
  go_enter Tryd.func8, Tryd.ntmps8
  go_wp2_with (go_at_call 30; refine hC.mono ?_; rintro e w1 ⟨rfl, hw1⟩; obtain rfl := hw1.symm)
  refine bodyPost_ret (results_tmp3 rfl _ _ _) rfl ?_
  exact ⟨rfl, rfl⟩

end Go.Proofs.YtcmdglmcmifflaaDoor.Rg
