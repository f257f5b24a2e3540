/- LayoutChanges: what each of the calls comes to, on both sides. -/
import Derived.Test.YtcmdglmcmifflaaDoorLyChg
namespace Go.Proofs.YtcmdglmcmifflaaDoor.Ly
open Go.RowKit Go.Joins Go.Sort Gk Rg Rf

theorem may_ows {c : Ch} (h : c.may = true) (key : ByteArray) : May (c.ows key) := by
  unfold Ch.ows; split
  · exact Ch.may_will h
  · exact Ch.may_was h
def Ch.oN (c : Ch) (key : ByteArray) : Int := if c.may = true then ow (c.ows key) (hashL key.data.toList) else 0
def Ch.oE (c : Ch) : Int := if c.may = true then 0 else 70
theorem own_a (c : Ch) (key : ByteArray) (w : World) (h : c.At w) (hs : c.cur.size ≤ 9223372036854775807) (hk : key.size ≤ 9223372036854775807) (hT : Tab w) :
    Calls Tryd.prog 13 #[c.val, .string key] w fun e w' => e = .returned (.tuple #[.int .i64 (c.oN key), .int .i64 c.oE]) ∧ RowKit.Below w.heap.size w w' := by
  refine (own_call c key w h hs hk hT).mono ?_
  rintro e w' ⟨hb, ⟨hm, rfl⟩ | ⟨hm, rfl⟩⟩
  · exact ⟨by rw [Ch.oN, Ch.oE, if_neg (by rw [hm]; decide), if_neg (by rw [hm]; decide)], hb⟩
  · exact ⟨by rw [Ch.oN, Ch.oE, if_pos hm, if_pos hm], hb⟩
theorem own_b (c : Ch) (key : ByteArray) (w : World) (h : c.At w) (hs : c.cur.size ≤ 9223372036854775807) (hk : key.size ≤ 9223372036854775807) :
    Calls Tryd.prog 14 #[c.val, .string key] w fun e w' => e = .returned (.tuple #[.int .i64 (c.oN key), .int .i64 c.oE]) ∧ RowKit.Below w.heap.size w w' := by
  refine (owner_ref c key w h hs hk).mono ?_
  rintro e w' ⟨hb, ⟨hm, rfl⟩ | ⟨hm, rfl⟩⟩
  · exact ⟨by rw [Ch.oN, Ch.oE, if_neg (by rw [hm]; decide), if_neg (by rw [hm]; decide)], hb⟩
  · refine ⟨?_, hb⟩
    rw [Ch.oN, Ch.oE, if_pos hm, if_pos hm, rws_ows hm key, fnd_ow (may_ows hm key) key]
/-- what To comes to -/
structure SpT (c : Ch) (s : ByteArray) (T : Ch) : Prop where
  cur : T.cur = if c.may = true ∧ toNo c s = false then s else ⟨#[]⟩
  done : T.done = false
  v1 : T.was.v = if c.may = true ∧ toNo c s = false then c.was.v else 0
  w1 : T.was.ws = if c.may = true ∧ toNo c s = false then c.was.ws else []
  v2 : T.will.v = if c.may = true ∧ toNo c s = false then c.will.v else 0
  w2 : T.will.ws = if c.may = true ∧ toNo c s = false then c.will.ws else []
def Ch.tE (c : Ch) (s : ByteArray) : Int := if c.may = true then (if toNo c s = true then 1 else 0) else 70
def Ch.zero : Ch := ⟨⟨0, none, 0, []⟩, ⟨0, none, 0, []⟩, ⟨#[]⟩, false⟩
theorem zero_val : Ch.zero.val = zc := rfl
theorem zero_at (w : World) : Ch.zero.At w := ⟨⟨Or.inl rfl, by simp [Ch.zero]⟩, ⟨Or.inl rfl, by simp [Ch.zero]⟩⟩
theorem zero_sp {c : Ch} {s : ByteArray} (h : ¬ (c.may = true ∧ toNo c s = false)) : SpT c s Ch.zero :=
  ⟨by rw [if_neg h]; rfl, rfl, by rw [if_neg h]; rfl, by rw [if_neg h]; rfl, by rw [if_neg h]; rfl, by rw [if_neg h]; rfl⟩
theorem to_a (c : Ch) (s : ByteArray) (w : World) (h : c.At w) (hs : c.cur.size ≤ 9223372036854775807) (hs' : s.size ≤ 140737488351232) :
    Calls Tryd.prog 15 #[c.val, .string s] w fun e w' => ∃ T : Ch, e = .returned (.tuple #[T.val, .int .i64 (c.tE s)]) ∧ SpT c s T ∧ T.At w' ∧ RowKit.Below w.heap.size w w' := by
  refine (to_any c s w h hs hs').mono ?_
  rintro e w' ⟨hb, ⟨hm, rfl⟩ | ⟨hm, ht, rfl⟩ | ⟨hm, ht, c', rfl, hl, h1, h2, h3, _⟩⟩
  · exact ⟨Ch.zero, by rw [Ch.tE, if_neg (by rw [hm]; decide), zero_val], zero_sp (fun e => by rw [hm] at e; exact absurd e.1 (by decide)), zero_at _, hb⟩
  · exact ⟨Ch.zero, by rw [Ch.tE, if_pos hm, if_pos ht, zero_val], zero_sp (fun e => by rw [ht] at e; exact absurd e.2 (by decide)), zero_at _, hb⟩
  · have hp : c.may = true ∧ toNo c s = false := ⟨hm, ht⟩
    exact ⟨c', by rw [Ch.tE, if_pos hm, if_neg (by rw [ht]; decide)], ⟨by rw [if_pos hp]; exact h1, h2, by rw [if_pos hp]; exact hl.v1, by rw [if_pos hp]; exact hl.w1, by rw [if_pos hp]; exact hl.v2, by rw [if_pos hp]; exact hl.w2⟩, h3, hb⟩
theorem to_b (c : Ch) (s : ByteArray) (w : World) (h : c.At w) (hs : c.cur.size ≤ 9223372036854775807) (hs' : s.size ≤ 140737488351232) :
    Calls Tryd.prog 16 #[c.val, .string s] w fun e w' => ∃ T : Ch, e = .returned (.tuple #[T.val, .int .i64 (c.tE s)]) ∧ SpT c s T ∧ T.At w' ∧ RowKit.Below w.heap.size w w' := by
  refine (to_ref c s w h hs (by omega)).mono ?_
  rintro e w' ⟨hb, ⟨hm, rfl⟩ | ⟨hm, ht, rfl⟩ | ⟨hm, ht, rfl⟩⟩
  · exact ⟨Ch.zero, by rw [Ch.tE, if_neg (by rw [hm]; decide), zero_val], zero_sp (fun e => by rw [hm] at e; exact absurd e.1 (by decide)), zero_at _, hb⟩
  · rw [← no_no hm] at ht
    exact ⟨Ch.zero, by rw [Ch.tE, if_pos hm, if_pos ht, zero_val], zero_sp (fun e => by rw [ht] at e; exact absurd e.2 (by decide)), zero_at _, hb⟩
  · have hd : c.done = false := by
      unfold rNo at ht
      simp only [Bool.or_eq_false_iff] at ht
      exact ht.1
    rw [← no_no hm] at ht
    have hp : c.may = true ∧ toNo c s = false := ⟨hm, ht⟩
    exact ⟨{ c with cur := s }, by rw [Ch.tE, if_pos hm, if_neg (by rw [ht]; decide)], ⟨by rw [if_pos hp], hd, by rw [if_pos hp], by rw [if_pos hp], by rw [if_pos hp], by rw [if_pos hp]⟩, ⟨(h.below hb).h1, (h.below hb).h2⟩, hb⟩
/-- what End comes to -/
structure SpE (c : Ch) (L : La) : Prop where
  v : L.v = if c.may = true ∧ isEnd c.cur c.done = true then c.will.v else 0
  ws : L.ws = if c.may = true ∧ isEnd c.cur c.done = true then c.will.ws else []
def Ch.eE (c : Ch) : Int := if c.may = true then (if isEnd c.cur c.done = true then 0 else 1) else 70
def La.zero : La := ⟨0, none, 0, []⟩
theorem lzero_val : La.zero.val = zl := rfl
theorem lzero_at (w : World) : La.zero.At w := ⟨Or.inl rfl, by simp [La.zero]⟩
theorem lzero_sp {c : Ch} (h : ¬ (c.may = true ∧ isEnd c.cur c.done = true)) : SpE c La.zero := ⟨by rw [if_neg h]; rfl, by rw [if_neg h]; rfl⟩
theorem end_a (c : Ch) (w : World) (h : c.At w) (hs : c.cur.size ≤ 9223372036854775807) :
    Calls Tryd.prog 17 #[c.val] w fun e w' => ∃ L : La, e = .returned (.tuple #[L.val, .int .i64 c.eE]) ∧ SpE c L ∧ L.At w' ∧ RowKit.Below w.heap.size w w' := by
  refine (end_call c w h hs).mono ?_
  rintro e w' ⟨hb, ⟨hm, rfl⟩ | ⟨hm, ht, rfl⟩ | ⟨hm, ht, y, rfl, h1, h2, h3⟩⟩
  · exact ⟨La.zero, by rw [Ch.eE, if_neg (by rw [hm]; decide), lzero_val], lzero_sp (fun e => by rw [hm] at e; exact absurd e.1 (by decide)), lzero_at _, hb⟩
  · exact ⟨La.zero, by rw [Ch.eE, if_pos hm, if_neg (by rw [ht]; decide), lzero_val], lzero_sp (fun e => by rw [ht] at e; exact absurd e.2 (by decide)), lzero_at _, hb⟩
  · exact ⟨y, by rw [Ch.eE, if_pos hm, if_pos ht], ⟨by rw [if_pos ⟨hm, ht⟩]; exact h1, by rw [if_pos ⟨hm, ht⟩]; exact h2⟩, h3, hb⟩
theorem end_b (c : Ch) (w : World) (h : c.At w) (hs : c.cur.size ≤ 9223372036854775807) :
    Calls Tryd.prog 18 #[c.val] w fun e w' => ∃ L : La, e = .returned (.tuple #[L.val, .int .i64 c.eE]) ∧ SpE c L ∧ L.At w' ∧ RowKit.Below w.heap.size w w' := by
  refine (end_ref c w h hs).mono ?_
  rintro e w' ⟨hb, ⟨hm, rfl⟩ | ⟨hm, ht, rfl⟩ | ⟨hm, ht, rfl⟩⟩
  · exact ⟨La.zero, by rw [Ch.eE, if_neg (by rw [hm]; decide), lzero_val], lzero_sp (fun e => by rw [hm] at e; exact absurd e.1 (by decide)), lzero_at _, hb⟩
  · have ht' : isEnd c.cur c.done = false := (may_done hm).trans ht
    exact ⟨La.zero, by rw [Ch.eE, if_pos hm, if_neg (by rw [ht']; decide), lzero_val], lzero_sp (fun e => by rw [ht'] at e; exact absurd e.2 (by decide)), lzero_at _, hb⟩
  · have ht' : isEnd c.cur c.done = true := (may_done hm).trans ht
    exact ⟨c.will, by rw [Ch.eE, if_pos hm, if_pos ht'], ⟨by rw [if_pos ⟨hm, ht'⟩], by rw [if_pos ⟨hm, ht'⟩]⟩, h.h2.below hb, hb⟩
abbrev LCT2 : TypeId := 34
/-- all boxes of the law lie there -/
structure LB (w : World) (c T1 T2 : Ch) (L1 L2 : La) (cb xb yb tb ib lb mb : Nat) (W : World) : Prop where
  o : c.Box LCT cb W
  x : c.Box CT xb W
  y : c.Box RCT yb W
  t : T1.Box CT tb W
  i : T2.Box RCT ib W
  l : W.heap[lb]? = some (.cells #[.int .i64 L1.v, .slice L1.a L1.ws.length L1.c] LCT2 (0, 0))
  m : W.heap[mb]? = some (.cells #[.int .i64 L2.v, .slice L2.a L2.ws.length L2.c] LCT2 (0, 0))
  ca : c.At W
  ta : T1.At W
  ia : T2.At W
  la : L1.At W
  ma : L2.At W
  tab : Tab W
  low : RowKit.Below w.heap.size w W
theorem Ch.Box.below {c : Ch} {T b : Nat} {W W' : World} (h : c.Box T b W) (hb : RowKit.Below W.heap.size W W') : c.Box T b W' := ⟨(hb.block b h.lt).trans h.blk⟩
theorem LB.below {w : World} {c T1 T2 : Ch} {L1 L2 : La} {cb xb yb tb ib lb mb : Nat} {W W' : World} (h : LB w c T1 T2 L1 L2 cb xb yb tb ib lb mb W) (hb : RowKit.Below W.heap.size W W') : LB w c T1 T2 L1 L2 cb xb yb tb ib lb mb W' :=
  ⟨h.o.below hb, h.x.below hb, h.y.below hb, h.t.below hb, h.i.below hb, (hb.block _ (Array.getElem?_eq_some_iff.1 h.l).1).trans h.l, (hb.block _ (Array.getElem?_eq_some_iff.1 h.m).1).trans h.m, h.ca.below hb, h.ta.below hb, h.ia.below hb, h.la.below hb, h.ma.below hb, h.tab.below hb, h.low.trans (hb.mono h.low.size)⟩
abbrev S8 (w : World) (c T1 T2 : Ch) (L1 L2 : La) (cb xb yb tb ib lb mb : Nat) (W : World) : Prop := (((((((((((((W.cell? ⟨cb, 0, none⟩ = some (.int .i64 c.was.v) ∧ W.cell? ⟨cb, 1, none⟩ = some (.slice c.was.a c.was.ws.length c.was.c)) ∧ W.cell? ⟨xb, 0, none⟩ = some (.int .i64 c.was.v)) ∧ W.cell? ⟨xb, 1, none⟩ = some (.slice c.was.a c.was.ws.length c.was.c)) ∧ W.cell? ⟨xb, 2, none⟩ = some (.int .i64 c.will.v)) ∧ W.cell? ⟨xb, 3, none⟩ = some (.slice c.will.a c.will.ws.length c.will.c)) ∧ W.cell? ⟨xb, 4, none⟩ = some (.string c.cur)) ∧ W.cell? ⟨xb, 5, none⟩ = some (.bool c.done)) ∧ W.cell? ⟨yb, 0, none⟩ = some (.int .i64 c.was.v)) ∧ W.cell? ⟨yb, 1, none⟩ = some (.slice c.was.a c.was.ws.length c.was.c)) ∧ W.cell? ⟨yb, 2, none⟩ = some (.int .i64 c.will.v)) ∧ W.cell? ⟨yb, 3, none⟩ = some (.slice c.will.a c.will.ws.length c.will.c)) ∧ W.cell? ⟨yb, 4, none⟩ = some (.string c.cur)) ∧ W.cell? ⟨yb, 5, none⟩ = some (.bool c.done)) ∧ LB w c T1 T2 L1 L2 cb xb yb tb ib lb mb W
theorem S8.of {w : World} {c T1 T2 : Ch} {L1 L2 : La} {cb xb yb tb ib lb mb : Nat} {W : World} (h : LB w c T1 T2 L1 L2 cb xb yb tb ib lb mb W) : S8 w c T1 T2 L1 L2 cb xb yb tb ib lb mb W := ⟨⟨⟨⟨⟨⟨⟨⟨⟨⟨⟨⟨⟨⟨h.o.c0, h.o.c1⟩, h.x.c0⟩, h.x.c1⟩, h.x.c2⟩, h.x.c3⟩, h.x.c4⟩, h.x.c5⟩, h.y.c0⟩, h.y.c1⟩, h.y.c2⟩, h.y.c3⟩, h.y.c4⟩, h.y.c5⟩, h⟩
abbrev S10 (w : World) (c T1 T2 : Ch) (L1 L2 : La) (cb xb yb tb ib lb mb : Nat) (s : ByteArray) (W : World) : Prop := (((((((((((((((((((W.cell? ⟨cb, 0, none⟩ = some (.int .i64 c.was.v) ∧ W.cell? ⟨cb, 1, none⟩ = some (.slice c.was.a c.was.ws.length c.was.c)) ∧ W.cell? ⟨cb, 2, none⟩ = some (.int .i64 c.will.v)) ∧ W.cell? ⟨cb, 3, none⟩ = some (.slice c.will.a c.will.ws.length c.will.c)) ∧ W.cell? ⟨tb, 0, none⟩ = some (.int .i64 T1.was.v)) ∧ W.cell? ⟨tb, 1, none⟩ = some (.slice T1.was.a T1.was.ws.length T1.was.c)) ∧ W.cell? ⟨tb, 2, none⟩ = some (.int .i64 T1.will.v)) ∧ W.cell? ⟨tb, 3, none⟩ = some (.slice T1.will.a T1.will.ws.length T1.will.c)) ∧ W.cell? ⟨tb, 4, none⟩ = some (.string s)) ∧ W.cell? ⟨tb, 5, none⟩ = some (.bool false)) ∧ W.cell? ⟨ib, 0, none⟩ = some (.int .i64 T2.was.v)) ∧ W.cell? ⟨ib, 1, none⟩ = some (.slice T2.was.a T2.was.ws.length T2.was.c)) ∧ W.cell? ⟨ib, 2, none⟩ = some (.int .i64 T2.will.v)) ∧ W.cell? ⟨ib, 3, none⟩ = some (.slice T2.will.a T2.will.ws.length T2.will.c)) ∧ W.cell? ⟨ib, 4, none⟩ = some (.string s)) ∧ W.cell? ⟨ib, 5, none⟩ = some (.bool false)) ∧ W.cell? ⟨lb, 0, none⟩ = some (.int .i64 L1.v)) ∧ W.cell? ⟨lb, 1, none⟩ = some (.slice L1.a L1.ws.length L1.c)) ∧ W.cell? ⟨mb, 0, none⟩ = some (.int .i64 L2.v)) ∧ W.cell? ⟨mb, 1, none⟩ = some (.slice L2.a L2.ws.length L2.c)) ∧ LB w c T1 T2 L1 L2 cb xb yb tb ib lb mb W
theorem S10.of {w : World} {c T1 T2 : Ch} {L1 L2 : La} {cb xb yb tb ib lb mb : Nat} {s : ByteArray} (h1 : T1.cur = s) (h2 : T1.done = false) (h3 : T2.cur = s) (h4 : T2.done = false) {W : World} (h : LB w c T1 T2 L1 L2 cb xb yb tb ib lb mb W) : S10 w c T1 T2 L1 L2 cb xb yb tb ib lb mb s W := ⟨⟨⟨⟨⟨⟨⟨⟨⟨⟨⟨⟨⟨⟨⟨⟨⟨⟨⟨⟨h.o.c0, h.o.c1⟩, h.o.c2⟩, h.o.c3⟩, h.t.c0⟩, h.t.c1⟩, h.t.c2⟩, h.t.c3⟩, (h.t.c4.trans (by rw [h1]))⟩, (h.t.c5.trans (by rw [h2]))⟩, h.i.c0⟩, h.i.c1⟩, h.i.c2⟩, h.i.c3⟩, (h.i.c4.trans (by rw [h3]))⟩, (h.i.c5.trans (by rw [h4]))⟩, (cell6 h.l 0 rfl)⟩, (cell6 h.l 1 rfl)⟩, (cell6 h.m 0 rfl)⟩, (cell6 h.m 1 rfl)⟩, h⟩
/-- ahead of the answers: the change and its two copies -/
structure LA (w : World) (c : Ch) (cb xb yb : Nat) (W : World) : Prop where
  o : c.Box LCT cb W
  x : c.Box CT xb W
  y : c.Box RCT yb W
  ca : c.At W
  tab : Tab W
  low : RowKit.Below w.heap.size w W
theorem LA.below {w : World} {c : Ch} {cb xb yb : Nat} {W W' : World} (h : LA w c cb xb yb W) (hb : RowKit.Below W.heap.size W W') : LA w c cb xb yb W' := ⟨h.o.below hb, h.x.below hb, h.y.below hb, h.ca.below hb, h.tab.below hb, h.low.trans (hb.mono h.low.size)⟩
end Go.Proofs.YtcmdglmcmifflaaDoor.Ly
