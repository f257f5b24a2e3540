/- Layer 8: the book over replies: SameRows, SameResults of a list and itself; sameReply. -/
import Derived.Test.YtkjcfkninmmbhaaOpRpN
import Derived.Test.YtkjcfkninmmbhaaOpBook
namespace Go.Proofs.Ytkjcfkninmmbhaa.Oq
open Go.RowKit Go.Joins Go.Proofs.Ytkjcfkninmmbhaa.Gk

set_option maxRecDepth 100000 in
set_option maxHeartbeats 1600000 in
theorem sameRows_any (a a' : Option Addr) (cap cap' : Nat) (l : List Rw) (w : World) (hl : Gk.Lies w rwenc a l) (hl' : Gk.Lies w rwenc a' l) (hn : l.length ≤ 9223372036854775807) :
    Calls Try.prog 71 #[.slice a l.length cap, .slice a' l.length cap'] w fun e w' => e = .returned (.bool true) ∧ Below w.heap.size w w' := by
  have bn : ((l.length : Int) != (l.length : Int)) = false := by simp
  go_enter Try.func71, Try.ntmps71
  go_wp2
  go_loopw [5] (fun i wr => ∃ k : Nat, k ≤ l.length ∧ i = .int .i64 k ∧ Below w.heap.size w wr) (fun i _ => l.length - (intOf i).toNat)
  case atStart => exact ⟨0, by omega, rfl, Below.refl _ _⟩
  case round =>
    obtain ⟨k, hk, rfl, hbel⟩ := hrel
    by_cases hlt : k < l.length
    · obtain ⟨b, off, rfl, _, hc⟩ := (hl.below hbel).at (k := 3) rwenc_len k hlt
      obtain ⟨b', off', rfl, _, hd⟩ := (hl'.below hbel).at (k := 3) rwenc_len k hlt
      have c0 := hc 0 _ rfl
      have c1 := hc 1 _ rfl
      have c2 := hc 2 _ rfl
      have d0 := hd 0 _ rfl
      have d1 := hd 1 _ rfl
      have d2 := hd 2 _ rfl
      rw [Nat.add_zero] at c0 d0
      clear hc hd
      generalize l[k] = x at *
      have i1 : (0 : Int) ≤ (k : Int) := by omega
      have i2 : (k : Int) < (l.length : Int) := by omega
      go_wp2
      go_quiet (fail)
      go_wp2
      go_roundw
      case rel => exact ⟨k + 1, by omega, by go_num, below_drewN hbel nq⟩
      case measure => simp [intOf]; omega
    · go_wp2
      go_ret
      exact ⟨rfl, hbel⟩

/-- two results' cells -/
abbrev TrS (X : World) (g o g' o' : Nat) (x0 x1 x2 x3 y0 y1 y2 y3 : Value) (W : World) : Prop :=
  (W.cell? ⟨g, o, none⟩ = some (x0) ∧ W.cell? ⟨g, o + 1, none⟩ = some (x1) ∧ W.cell? ⟨g, o + 2, none⟩ = some (x2) ∧ W.cell? ⟨g, o + 3, none⟩ = some (x3) ∧ W.cell? ⟨g', o', none⟩ = some (y0) ∧ W.cell? ⟨g', o' + 1, none⟩ = some (y1) ∧ W.cell? ⟨g', o' + 2, none⟩ = some (y2) ∧ W.cell? ⟨g', o' + 3, none⟩ = some (y3)) ∧ (g < X.heap.size ∧ g' < X.heap.size) ∧ Below X.heap.size X W
theorem TrS.call {X : World} {g o g' o' : Nat} {x0 x1 x2 x3 y0 y1 y2 y3 : Value} {a b : World} (hb : Below a.heap.size a b) (h : TrS X g o g' o' x0 x1 x2 x3 y0 y1 y2 y3 a) : TrS X g o g' o' x0 x1 x2 x3 y0 y1 y2 y3 b := by
  obtain ⟨⟨c0, c1, c2, c3, c4, c5, c6, c7⟩, ⟨l0, l1⟩, hbel⟩ := h
  have hz := hbel.size
  have hc : ∀ (g j : Nat), g < X.heap.size → b.cell? ⟨g, j, none⟩ = a.cell? ⟨g, j, none⟩ := fun g j hg => hb.cell (p := ⟨g, j, none⟩) (by show g < _; omega)
  exact ⟨⟨(hc _ _ l0).trans c0, (hc _ _ l0).trans c1, (hc _ _ l0).trans c2, (hc _ _ l0).trans c3, (hc _ _ l1).trans c4, (hc _ _ l1).trans c5, (hc _ _ l1).trans c6, (hc _ _ l1).trans c7⟩, ⟨l0, l1⟩, hbel.trans (hb.mono hz)⟩
theorem TrS.drew {X : World} {g o g' o' : Nat} {x0 x1 x2 x3 y0 y1 y2 y3 : Value} {a : World} (h : TrS X g o g' o' x0 x1 x2 x3 y0 y1 y2 y3 a) : TrS X g o g' o' x0 x1 x2 x3 y0 y1 y2 y3 a.drew := h.call ((Below.refl _ _).drew)
theorem TrS.bel {X : World} {g o g' o' : Nat} {x0 x1 x2 x3 y0 y1 y2 y3 : Value} {W : World} (h : TrS X g o g' o' x0 x1 x2 x3 y0 y1 y2 y3 W) : Below X.heap.size X W := h.2.2

set_option maxRecDepth 100000 in
set_option maxHeartbeats 4000000 in
theorem sameResults_any (a a' : Option Addr) (cap cap' : Nat) (l l' : List RsA) (w : World) (hl : ResL w a l) (hl' : ResL w a' l') (he : l.map RsA.r = l'.map RsA.r) (hn : l.length ≤ 9223372036854775807) (hr : ∀ x ∈ l, x.r.rows.length ≤ 9223372036854775807) :
    Calls Try.prog 44 #[.slice a l.length cap, .slice a' l.length cap'] w fun e w' => e = .returned (.bool true) ∧ Below w.heap.size w w' := by
  have bn : ((l.length : Int) != (l.length : Int)) = false := by simp
  have hlen : l'.length = l.length := by have := congrArg List.length he; rw [List.length_map, List.length_map] at this; exact this.symm
  go_enter Try.func44, Try.ntmps44
  go_wp2
  go_loopw [5] (fun i wr => ∃ k : Nat, k ≤ l.length ∧ i = .int .i64 k ∧ Below w.heap.size w wr) (fun i _ => l.length - (intOf i).toNat)
  case atStart => exact ⟨0, by omega, rfl, Below.refl _ _⟩
  case round =>
    obtain ⟨k, hk, rfl, hbel⟩ := hrel
    have hwr := hbel.size
    by_cases hlt : k < l.length
    · obtain ⟨b, off, rfl, hbl, hc⟩ := (hl.lies.below hbel).at (k := 4) rsenc_len k hlt
      obtain ⟨b', off', rfl, hbl', hd⟩ := (hl'.lies.below hbel).at (k := 4) rsenc_len k (by omega)
      have hx : (l[k]).r = (l'[k]).r := by
        have h1 : (l.map RsA.r)[k]? = (l'.map RsA.r)[k]? := by rw [he]
        rw [List.getElem?_map, List.getElem?_map, List.getElem?_eq_getElem hlt, List.getElem?_eq_getElem (by omega)] at h1
        simpa using h1
      have hrows := (hl.rows _ (List.getElem_mem hlt)).below hbel
      have hrows' := (hl'.rows _ (List.getElem_mem (show k < l'.length by omega))).below hbel
      have hrl := hr _ (List.getElem_mem hlt)
      have c0 := hc 0 _ rfl
      have c1 := hc 1 _ rfl
      have c2 := hc 2 _ rfl
      have c3 := hc 3 _ rfl
      have d0 := hd 0 _ rfl
      have d1 := hd 1 _ rfl
      have d2 := hd 2 _ rfl
      have d3 := hd 3 _ rfl
      rw [Nat.add_zero] at c0 d0
      clear hc hd
      generalize l[k] = X1 at *
      generalize l'[k]'(by omega) = X2 at *
      obtain ⟨x, xa, xcap⟩ := X1
      obtain ⟨y, ya, ycap⟩ := X2
      simp only at hx
      subst hx
      obtain ⟨xc, xs, xv, xr⟩ := x
      simp only at c0 c1 c2 c3 d0 d1 d2 d3 hrows hrows' hrl
      have i1 : (0 : Int) ≤ (k : Int) := by omega
      have i2 : (k : Int) < (l.length : Int) := by omega
      have n1 : (xc != xc) = false := by simp
      have n2 : (xs != xs) = false := by simp
      have hS : TrS wr b (off + k * 4) b' (off' + k * 4) (.int .i64 xc) (.int .i64 xs) (.string xv) (.slice xa xr.length xcap) (.int .i64 xc) (.int .i64 xs) (.string xv) (.slice ya xr.length ycap) wr := ⟨⟨c0, c1, c2, c3, d0, d1, d2, d3⟩, ⟨hbl, hbl'⟩, Below.refl _ _⟩
      have C := fun W (hb : Below wr.heap.size wr W) => sameRows_any xa ya xcap ycap xr W (hrows.below hb) (hrows'.below hb) hrl
      clear c0 c1 c2 c3 d0 d1 d2 d3
      go_wp2
      go_region_held3 (TrS wr b (off + k * 4) b' (off' + k * 4) (.int .i64 xc) (.int .i64 xs) (.string xv) (.slice xa xr.length xcap) (.int .i64 xc) (.int .i64 xs) (.string xv) (.slice ya xr.length ycap)) (first | with_reducible exact TrS.drew (by assumption) | with_reducible exact TrS.call (by assumption) (by assumption) | with_reducible assumption)
        (first | (go_at_call 71; with_reducible refine (C _ (TrS.bel (by assumption))).mono ?_; rintro e w6 ⟨rfl, hb6⟩))
      have hbf : Below wr.heap.size wr w6 := TrS.bel (by assumption)
      have hb9 := hbel.trans (hbf.mono hwr)
      clear hS C
      go_wp2
      go_roundw
      case rel => exact ⟨k + 1, by omega, by go_num, hb9⟩
      case measure => simp [intOf]; omega
    · go_wp2
      go_ret
      exact ⟨rfl, hbel⟩

set_option maxRecDepth 100000 in
set_option maxHeartbeats 1600000 in
theorem sameReply_any (client seq at_ code : Int) (a a' : Option Addr) (cap cap' : Nat) (l l' : List RsA) (w : World) (hl : ResL w a l) (hl' : ResL w a' l') (he : l.map RsA.r = l'.map RsA.r) (hn : l.length ≤ 9223372036854775807) (hr : ∀ x ∈ l, x.r.rows.length ≤ 9223372036854775807) :
    Calls Try.prog 22 #[rpV client seq at_ code a l.length cap, rpV client seq at_ code a' l.length cap'] w fun e w' => e = .returned (.bool true) ∧ Below w.heap.size w w' := by
  have b1 : (client == client) = true := by simp
  have b2 : (seq == seq) = true := by simp
  have hb : ∀ o o', Below w.heap.size w ((w.alloc o).alloc o') := fun o o' => (below_a1 w o).alloc (by simp) _
  go_enter Try.func22, Try.ntmps22
  go_wp2_with fail
  refine (sameResults_any a a' cap cap' l l' _ (hl.below (hb _ _)) (hl'.below (hb _ _)) he hn hr).mono ?_
  rintro e w1 ⟨rfl, hb1⟩
  have hb2 := (hb _ _).trans (hb1.mono (by simp; omega))
  go_wp2
  go_ret
  exact ⟨rfl, hb2⟩

end Go.Proofs.Ytkjcfkninmmbhaa.Oq
