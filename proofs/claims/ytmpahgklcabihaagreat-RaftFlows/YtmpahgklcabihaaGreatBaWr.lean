/- Layer 15: lists of the file are made: standingList, entryList, cutList, frameOf. -/
import Derived.Test.YtmpahgklcabihaaGreatBaPure
import Derived.Test.YtmpahgklcabihaaGreatFdRd
import Derived.Test.YtmpahgklcabihaaGreatEnc2
namespace Go.Proofs.YtmpahgklcabihaaGreat.Ba
open Go.RowKit Go.Joins Go.Proofs.YtmpahgklcabihaaGreat.Gk
open Go.Proofs.YtmpahgklcabihaaGreat.Rl (En)

abbrev FdT : TypeId := 120
set_option maxRecDepth 100000 in
set_option maxHeartbeats 800000 in
theorem standing_any (t v : Int) (w : World) :
    Calls Tryz.prog 168 #[.int .i64 t, .int .i64 v] w fun e w' => ∃ u, e = .returned u ∧ w'.ownsRow w.heap.size FdT 3 u 3 (fcells (Rc.st t v).flds) ∧ Below w.heap.size w w' := by
  go_enter Tryz.func168, Tryz.ntmps168
  go_wp2_with fail
  refine (Fd.number_op _ _).mono ?_
  rintro e w1 ⟨rfl, hb1⟩
  go_wp2_with fail
  refine (Fd.number_op _ _).mono ?_
  rintro e w2 ⟨rfl, hb2⟩
  go_wp2_with fail
  refine (Fd.number_op _ _).mono ?_
  rintro e w3 ⟨rfl, hb3⟩
  go_wp2
  go_ret
  have hb : Below w.heap.size w w3 := hb1.trans ((hb2.mono hb1.size).trans (hb3.mono (Nat.le_trans hb1.size hb2.size)))
  exact ⟨_, rfl, Fd.own_new w3 w.heap.size hb.size (Rc.st t v).flds (by simp [Rc.flds]), hb.alloc hb.size _⟩

set_option maxRecDepth 100000 in
set_option maxHeartbeats 800000 in
theorem cutList_any (n : Nat) (w : World) :
    Calls Tryz.prog 229 #[.int .i64 n] w fun e w' => ∃ u, e = .returned u ∧ w'.ownsRow w.heap.size FdT 3 u 2 (fcells (Rc.ct n).flds) ∧ Below w.heap.size w w' := by
  go_enter Tryz.func229, Tryz.ntmps229
  go_wp2_with fail
  refine (Fd.number_op _ _).mono ?_
  rintro e w1 ⟨rfl, hb1⟩
  go_wp2_with fail
  refine (Fd.number_op _ _).mono ?_
  rintro e w2 ⟨rfl, hb2⟩
  go_wp2
  go_ret
  have hb : Below w.heap.size w w2 := hb1.trans (hb2.mono hb1.size)
  exact ⟨_, rfl, Fd.own_new w2 w.heap.size hb.size (Rc.ct n).flds (by simp [Rc.flds]), hb.alloc hb.size _⟩

/-- an entry's box, and what lies below -/
abbrev ES (H : Nat) (w : World) (e : En) (W : World) : Prop :=
  (W.cell? ⟨H, 0, none⟩ = some (.int .i64 e.t) ∧ W.cell? ⟨H, 1, none⟩ = some (.string e.d)) ∧ H < W.heap.size ∧ Below H w W
theorem ES.call {H : Nat} {w : World} {e : En} {a b : World} (hb : Below a.heap.size a b) (h : ES H w e a) : ES H w e b := by
  obtain ⟨⟨c0, c1⟩, hlt, hbel⟩ := h
  have hc : ∀ j, b.cell? ⟨H, j, none⟩ = a.cell? ⟨H, j, none⟩ := fun j => hb.cell (p := ⟨H, j, none⟩) hlt
  exact ⟨⟨(hc 0).trans c0, (hc 1).trans c1⟩, Nat.lt_of_lt_of_le hlt hb.size, hbel.trans (hb.mono (by omega))⟩
theorem ES.drew {H : Nat} {w : World} {e : En} {a : World} (h : ES H w e a) : ES H w e a.drew := h.call ((Below.refl _ _).drew)
theorem ES.alloc {H : Nat} {w : World} {e : En} {a : World} (h : ES H w e a) (x : Obj) : ES H w e (a.alloc x) := h.call ((Below.refl _ _).alloc (Nat.le_refl _) x)

set_option maxRecDepth 100000 in
set_option maxHeartbeats 1600000 in
theorem entryList_any (e : En) (w : World) :
    Calls Tryz.prog 230 #[.agg #[.int .i64 e.t, .string e.d]] w fun r w' => ∃ u, r = .returned u ∧ w'.ownsRow w.heap.size FdT 3 u 3 (fcells (Rc.en e).flds) ∧ Below w.heap.size w w' := by
  obtain ⟨W, hW⟩ : ∃ W, W = w.alloc (.cells #[.int .i64 e.t, .string e.d] 66) := ⟨_, rfl⟩
  have hS : ES w.heap.size w e W := by rw [hW]; exact ⟨⟨by simp, by simp⟩, by simp, (Below.refl _ _).alloc (Nat.le_refl _) _⟩
  go_enter Tryz.func230, Tryz.ntmps230
  go_wp2
  rw [← hW]
  clear hW
  go_region_held3 (ES w.heap.size w e) (first | with_reducible exact ES.drew (by assumption) | with_reducible exact ES.call (by assumption) (by assumption) | with_reducible exact ES.alloc (by assumption) _ | with_reducible assumption)
    (first | (go_at_call 206; refine (Fd.number_op _ _).mono ?_; rintro e w3 ⟨rfl, hb3⟩) | (go_at_call 245; refine (Fd.text_op _ _).mono ?_; rintro e w3 ⟨rfl, hb3⟩))
  all_goals
    have hR : ES w.heap.size w e (w3.alloc (.cells (fcells (Rc.en e).flds).toArray FdT)) := by assumption
    have hz3 : w.heap.size ≤ w3.heap.size := by have := hR.2.1; simp at this; omega
    go_wp2
    go_ret
    exact ⟨_, rfl, Fd.own_new w3 w.heap.size hz3 (Rc.en e).flds (by simp [Rc.flds]), hR.2.2⟩

set_option maxRecDepth 100000 in
set_option maxHeartbeats 1600000 in
theorem frameOf_any (r : Rc) (hm : r.may) (B : Nat) (u : Value) (w : World) (h : w.ownsRow B FdT 3 u r.flds.length (fcells r.flds)) :
    Calls Tryz.prog 200 #[u] w fun e w' => e = .returned (.tuple #[.string ⟨r.fr.toArray⟩, .int .i64 0]) ∧ Below w.heap.size w w' := by
  obtain ⟨a, cap, rfl, hl⟩ := own_lies h
  have hsz : (ByteArray.mk (encs r.flds).toArray).size = (encs r.flds).length := by show (encs r.flds).toArray.size = _; simp
  have hel := encs_len hm
  have hE : Calls Tryz.prog 126 #[.slice a r.flds.length cap] w fun e w' => e = .returned (.tuple #[.string ⟨(encs r.flds).toArray⟩, .int .i64 0]) ∧ Below w.heap.size w w' := by
    have h := Encode_any a cap r.flds w hl (by cases r <;> simp [Rc.flds]) (fun x hx => (Rc.flds_fit hm x hx).2.2)
    rw [encodeV, encode_good (Rc.good hm)] at h
    exact h
  have hF : ∀ W, Calls Tryz.prog 234 #[.string ⟨(encs r.flds).toArray⟩] W fun e w' => e = .returned (.tuple #[.string ⟨r.fr.toArray⟩, .int .i64 0]) ∧ Below W.heap.size W w' := fun W => by
    have h := Frame_any ⟨(encs r.flds).toArray⟩ W (by rw [hsz]; omega)
    rw [frameV, frame, if_neg (by rw [hsz]; omega)] at h
    exact h
  generalize r.flds.length = n at *
  generalize (ByteArray.mk (encs r.flds).toArray) = b0 at *
  clear h hl hel hsz
  go_enter Tryz.func200, Tryz.ntmps200
  go_wp2_with fail
  refine hE.mono ?_
  rintro e w1 ⟨rfl, hb⟩
  clear hE
  go_wp2_with (first | (go_at_call 234; refine (hF _).mono ?_; rintro e w2 ⟨rfl, hb2⟩))
  go_ret2
  exact ⟨rfl, hb.trans (hb2.mono hb.size)⟩

end Go.Proofs.YtmpahgklcabihaaGreat.Ba
