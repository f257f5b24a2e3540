/- Walks over span.go: Union, Meet. -/
import Derived.Test.YtolgpdjimfodkaaSpCalls
import Derived.Test.YtolgpdjimfodkaaSpRuleM
namespace Go.Proofs.Ytolgpdjimfodkaa.Sp
open Go.RowKit Go.Joins Gk

set_option maxHeartbeats 1600000 in
theorem Union_ok (a b : Option Addr) (ca cb : Nat) (la lb : List Sp) (w : World) (hla : Lies w senc a la) (hlb : Lies w senc b lb) (hma : MayL la) (hmb : MayL lb) (hn : la.length + lb.length ≤ 2048) :
    Calls Try.prog 13 #[.slice a la.length ca, .slice b lb.length cb] w fun e w' => ∃ v', e = .returned (.tuple #[v', .int .i64 0]) ∧ w'.ownsRow w.heap.size SpT 2 v' (nrm kOr la lb).length (rc senc (nrm kOr la lb)) ∧ Below w.heap.size w w' := by
  have hR := fun W (hb : Below w.heap.size w W) => reckon_ok unionRule_keeps rfl a b ca cb la lb W (hla.below hb) (hlb.below hb) hma hmb hn
  go_enter Try.func13, Try.ntmps13
  go_wp2_with fail
  refine (unionRule_any _).mono ?_
  rintro e w1 ⟨rfl, hb1⟩
  go_wp2_with fail
  refine (hR _ hb1).mono ?_
  rintro e w2 ⟨v2, rfl, hr2, hb2⟩
  have hb3 : Below w.heap.size w w2 := hb1.trans (hb2.mono hb1.size)
  have hr3 := own_mono hr2 hb1.size
  clear hR hr2
  go_wp2
  go_ret2
  exact ⟨_, rfl, hr3, hb3⟩
set_option maxHeartbeats 1600000 in
theorem Meet_ok (a b : Option Addr) (ca cb : Nat) (la lb : List Sp) (w : World) (hla : Lies w senc a la) (hlb : Lies w senc b lb) (hma : MayL la) (hmb : MayL lb) (hn : la.length + lb.length ≤ 2048) :
    Calls Try.prog 14 #[.slice a la.length ca, .slice b lb.length cb] w fun e w' => ∃ v', e = .returned (.tuple #[v', .int .i64 0]) ∧ w'.ownsRow w.heap.size SpT 2 v' (nrm kAnd la lb).length (rc senc (nrm kAnd la lb)) ∧ Below w.heap.size w w' := by
  have hR := fun W (hb : Below w.heap.size w W) => reckon_ok meetRule_keeps rfl a b ca cb la lb W (hla.below hb) (hlb.below hb) hma hmb hn
  go_enter Try.func14, Try.ntmps14
  go_wp2_with fail
  refine (meetRule_any _).mono ?_
  rintro e w1 ⟨rfl, hb1⟩
  go_wp2_with fail
  refine (hR _ hb1).mono ?_
  rintro e w2 ⟨v2, rfl, hr2, hb2⟩
  have hb3 : Below w.heap.size w w2 := hb1.trans (hb2.mono hb1.size)
  have hr3 := own_mono hr2 hb1.size
  clear hR hr2
  go_wp2
  go_ret2
  exact ⟨_, rfl, hr3, hb3⟩

end Go.Proofs.Ytolgpdjimfodkaa.Sp
