/- Walks over layout.go: copied, To, End. -/
import Derived.Test.YtcmdglmcmifflaaDoorLyChk
import Derived.Test.YtcmdglmcmifflaaDoorGRow
import Derived.Test.YtcmdglmcmifflaaDoorGBase
namespace Go.Proofs.YtcmdglmcmifflaaDoor.Ly
open Go.RowKit Go.Joins Go.Sort Gk Rg

abbrev IT : TypeId := 3
abbrev LT : TypeId := 34
theorem it_info : (Tryd.prog.info? IT).map (fun i => (i.zero, i.size, i.bytes)) = some (some (.int .i64 0), 1, 8) := by kernel_rfl
theorem it_one (x : Int) : ∀ u ∈ ienc x, u.oneCell' = true := by intro u hu; simp only [ienc, List.mem_singleton] at hu; subst hu; rfl

set_option maxHeartbeats 1600000 in
theorem cloneW_any (ad : Addr) (cap : Nat) (l : List Int) (w : World) (hr : Lies w ienc (some ad) l) (hl : l.length ≤ 8) :
    Calls Tryd.prog 56 #[.slice (some ad) l.length cap] w fun e w' => ∃ v', e = .returned v' ∧ w'.ownsRow w.heap.size IT 1 v' l.length (rc ienc l) ∧ Below w.heap.size w w' := by
  have hown0 : (w.alloc (.cells #[] IT)).ownsRow w.heap.size IT 1 (.slice (some ⟨w.heap.size, 0, none⟩) 0 0) ([] : List Int).length (rc ienc []) := World.ownsRow_made w #[] 0 (Nat.le_refl _) (Nat.zero_le _) rfl
  have hl0 := hr.below (below_alloc1 w (.cells #[] IT))
  have hq : ∀ n c W, (binOp .eql 22 (.slice (some ad) n c) (.slice none 0 0)).run Tryd.prog W = .ok (.bool false) W := fun n c W => Lib.run_eql_slice_nil W 22 IT (some ad) n c 0 0 Tryd.underlying22
  go_enter Tryd.func56, Tryd.ntmps56
  go_wp2_with (at_builtin; refine wpList_append_row (enc := ienc) (k := 1) rfl (.tmp 5) (.tmp 6) 22 rfl IT (.int .i64 0) 8 Tryd.underlying22 it_info rfl (by decide) ienc_len it_one w.heap.size _ [] rfl hown0 _ l _ _ rfl rfl hl0 (fun e => by cases e) ?c1 ?c2 ?c3 ?_)
  case c1 => simp; omega
  case c2 => simp; omega
  case c3 => simp
  intro v4 w4 hown4 hg4 _
  have hb4 : Below w.heap.size w w4 := ((Below.refl _ _).alloc (Nat.le_refl _) _).grown hg4 (by simp) (fun k hk => (hown0.lt k hk).1)
  go_wp2
  go_ret
  exact ⟨_, rfl, hown4, hb4⟩

theorem own_addr {w : World} {B e k n c m : Nat} {a : Option Addr} {l : List Value} (h : w.ownsRow B e k (.slice a n c) m l) (g o : Nat) (ha : a = some ⟨g, o, none⟩) : B ≤ g := by
  subst ha
  rcases h.2 with ⟨e1, _⟩ | ⟨g', _, _, e1, hb, _⟩
  · cases e1
  · cases e1; exact hb
theorem Lies.some {x : La} {w : World} (h : x.At w) (hm : May x.ws) : ∃ ad, x.a = some ad := by
  rcases h.lies with e | ⟨b, off, e, _⟩
  · have := hm.n1; rw [e] at this; simp at this
  · exact ⟨_, e⟩

set_option maxHeartbeats 1600000 in
theorem copied_any (x : La) (w : World) (h : x.At w) (hm : May x.ws) :
    Calls Tryd.prog 39 #[x.val] w fun e w' => ∃ y : La, e = .returned y.val ∧ y.v = x.v ∧ y.ws = x.ws ∧ y.At w' ∧ (∀ g o, y.a = some ⟨g, o, none⟩ → w.heap.size ≤ g) ∧ Below w.heap.size w w' := by
  obtain ⟨ad, ha⟩ := Lies.some h hm
  have hl := h.lies
  have hlen := h.len
  have h8 := hm.n2
  obtain ⟨v, a, c, ws⟩ := x
  dsimp only at ha hl hlen h8
  subst ha
  have hC := fun W (hb : Below w.heap.size w W) => cloneW_any ad c ws W (hl.below hb) h8
  dsimp only [La.val]
  clear h hm
  go_enter Tryd.func39, Tryd.ntmps39
  go_wp2_with fail
  obtain ⟨W0, hW0⟩ : ∃ W0, (w.alloc (Obj.cells #[Value.int IntKind.i64 v, Value.slice (some ad) ws.length c] LT)).alloc (Obj.cells #[Value.int IntKind.i64 0, Value.slice none 0 0] LT) = W0 := ⟨_, rfl⟩
  have hbx : W0.heap[w.heap.size]? = some (.cells #[Value.int IntKind.i64 v, Value.slice (some ad) ws.length c] LT) := by
    rw [← hW0]; exact ((below_alloc1 _ _).block _ (by simp)).trans (heap_alloc_new w _)
  have hbr : W0.heap[w.heap.size + 1]? = some (.cells #[Value.int IntKind.i64 0, Value.slice none 0 0] LT) := by
    rw [← hW0]; have := heap_alloc_new (w.alloc (Obj.cells #[Value.int IntKind.i64 v, Value.slice (some ad) ws.length c] LT)) (Obj.cells #[Value.int IntKind.i64 0, Value.slice none 0 0] LT); rwa [World.size_alloc] at this
  have hB0 : Below w.heap.size w W0 := by rw [← hW0]; exact below_alloc2 _ _ _
  obtain ⟨b, hb⟩ : ∃ b, w.heap.size = b := ⟨_, rfl⟩
  rw [hW0, hb]
  rw [hb] at hbx hbr
  have HB := hide hb
  have c0 : W0.cell? ⟨b, 0, none⟩ = some (.int .i64 v) := by rw [cell_of_block hbx]; rfl
  have c1 : W0.cell? ⟨b, 1, none⟩ = some (.slice (some ad) ws.length c) := by rw [cell_of_block hbx]; rfl
  have hlx : b < W0.heap.size := (Array.getElem?_eq_some_iff.1 hbx).1
  have hlr : b + 1 < W0.heap.size := (Array.getElem?_eq_some_iff.1 hbr).1
  clear hW0 hb
  go_region_law (first | (go_simp; go_at_call 56; refine (hC _ hB0.drew).mono ?_; rintro e w1 ⟨v1, rfl, ho1, hb1⟩; obtain ⟨a1, c1', rfl⟩ := own_slice ho1; have hb2 : Below W0.heap.size W0 w1 := (Below.refl _ _).drew.trans hb1; have k0 : w1.cell? ⟨b, 0, none⟩ = some (.int .i64 v) := (hb2.cell (p := ⟨b, 0, none⟩) hlx).trans c0; have hbr1 := (hb2.block (b + 1) hlr).trans hbr; have r0 : w1.cell? ⟨b + 1, 0, none⟩ = some (.int .i64 0) := (by rw [cell_of_block hbr1]; rfl); have r1 : w1.cell? ⟨b + 1, 1, none⟩ = some (.slice none 0 0) := (by rw [cell_of_block hbr1]; rfl); have f0 := unfrozen_of_block hbr1 0; have f1 := unfrozen_of_block hbr1 1))
  all_goals
    go_wp2
    have hz := block_setCell (block_setCell hbr1 (i := 0) (.int .i64 v)) (i := 1) (.slice a1 ws.length c1')
    have e0 : ((w1.setCell ⟨b + 1, 0, none⟩ (.int .i64 v)).setCell ⟨b + 1, 1, none⟩ (.slice a1 ws.length c1')).cell? ⟨b + 1, 0, none⟩ = some (.int .i64 v) := by rw [cell_of_block hz]; rfl
    have e1 : ((w1.setCell ⟨b + 1, 0, none⟩ (.int .i64 v)).setCell ⟨b + 1, 1, none⟩ (.slice a1 ws.length c1')).cell? ⟨b + 1, 1, none⟩ = some (.slice a1 ws.length c1') := by rw [cell_of_block hz]; rfl
    refine bodyPost_ret (v := .agg #[.int .i64 v, .slice a1 ws.length c1']) (by simp [results, Tryd.results39, go_sem, e0, e1]) rfl ⟨⟨v, a1, c1', ws⟩, rfl, rfl, rfl, ⟨?_, hlen⟩, fun g o ha => Nat.le_trans hB0.size (own_addr ho1 g o ha), ?_⟩
    · have hrow : Row ((w1.setCell ⟨b + 1, 0, none⟩ (.int .i64 v)).setCell ⟨b + 1, 1, none⟩ (.slice a1 ws.length c1')) ienc IT 1 (.slice a1 ws.length c1') ws := by
        refine own_mono (own_stay ho1 fun g hg => ?_) (Nat.zero_le _)
        have hg1 := (ho1.lt g hg).1
        have hg2 : W0.heap.size ≤ g := hg1
        rw [Below.heap_setCell _ _ _ g (by show g ≠ b + 1; omega), Below.heap_setCell _ _ _ g (by show g ≠ b + 1; omega)]
      exact hrow.lies
    · exact ((hB0.trans (hb2.mono hB0.size)).setCell (p := ⟨b + 1, 0, none⟩) (by have := HB.out; show w.heap.size ≤ b + 1; omega) _).setCell (p := ⟨b + 1, 1, none⟩) (by have := HB.out; show w.heap.size ≤ b + 1; omega) _

abbrev zc : Value := .agg #[.int .i64 0, .slice none 0 0, .int .i64 0, .slice none 0 0, .string ⟨#[]⟩, .bool false]
abbrev zcells : Array Value := #[.int .i64 0, .slice none 0 0, .int .i64 0, .slice none 0 0, .string ⟨#[]⟩, .bool false]
abbrev CT : TypeId := 37
/-- while a change is copied: it lies there, the world below is as it was -/
structure CS (w : World) (c : Ch) (b : Nat) (W : World) : Prop where
  box : c.Box CT b W
  low : Below w.heap.size w W
  le : w.heap.size ≤ b
theorem CS.drew {w : World} {c : Ch} {b : Nat} {W : World} (h : CS w c b W) : CS w c b W.drew := ⟨⟨h.box.blk⟩, h.low.drew, h.le⟩
theorem CS.call {w : World} {c : Ch} {b : Nat} {W W' : World} (h : CS w c b W) (hb : Below W.heap.size W W') : CS w c b W' := ⟨⟨(hb.block b h.box.lt).trans h.box.blk⟩, h.low.trans (hb.mono h.low.size), h.le⟩
theorem CS.set {w : World} {c : Ch} {b : Nat} {W : World} (h : CS w c b W) (i : Nat) (v : Value) : CS w c b (W.setCell ⟨b + 1, i, none⟩ v) :=
  ⟨⟨(Below.heap_setCell _ _ _ b (by show b ≠ b + 1; omega)).trans h.box.blk⟩, h.low.setCell (p := ⟨b + 1, i, none⟩) (by have := h.le; show w.heap.size ≤ b + 1; omega) _, h.le⟩
section
variable {w : World} {c : Ch} {b : Nat} {W : World} (h : CS w c b W)
include h
theorem CS.c0 : W.cell? ⟨b, 0, none⟩ = some (.int .i64 c.was.v) := h.box.c0
theorem CS.c1 : W.cell? ⟨b, 1, none⟩ = some (.slice c.was.a c.was.ws.length c.was.c) := h.box.c1
theorem CS.c2 : W.cell? ⟨b, 2, none⟩ = some (.int .i64 c.will.v) := h.box.c2
theorem CS.c3 : W.cell? ⟨b, 3, none⟩ = some (.slice c.will.a c.will.ws.length c.will.c) := h.box.c3
theorem CS.c4 : W.cell? ⟨b, 4, none⟩ = some (.string c.cur) := h.box.c4
theorem CS.c5 : W.cell? ⟨b, 5, none⟩ = some (.bool c.done) := h.box.c5
end
structure Low (w : World) (b : Nat) (W : World) : Prop where
  low : Below w.heap.size w W
  le : w.heap.size ≤ b
abbrev ToS (w : World) (b : Nat) (v : Int) (a : Option Addr) (k n : Nat) (v' : Int) (a' : Option Addr) (k' n' : Nat) (W : World) : Prop :=
  W.cell? ⟨b, 0, none⟩ = some (.int .i64 v) ∧ W.cell? ⟨b, 1, none⟩ = some (.slice a k n) ∧ W.cell? ⟨b, 2, none⟩ = some (.int .i64 v') ∧ W.cell? ⟨b, 3, none⟩ = some (.slice a' k' n') ∧ Low w b W
section
variable {w : World} {b : Nat} {v : Int} {a : Option Addr} {k n : Nat} {v' : Int} {a' : Option Addr} {k' n' : Nat} {W : World}
theorem ToS.drew (h : ToS w b v a k n v' a' k' n' W) : ToS w b v a k n v' a' k' n' W.drew := ⟨h.1, h.2.1, h.2.2.1, h.2.2.2.1, ⟨h.2.2.2.2.low.drew, h.2.2.2.2.le⟩⟩
theorem ToS.low (h : ToS w b v a k n v' a' k' n' W) : Below w.heap.size w W := h.2.2.2.2.low
theorem ToS.call {W' : World} (h : ToS w b v a k n v' a' k' n' W) (hb : Below W.heap.size W W') : ToS w b v a k n v' a' k' n' W' := by
  have hl := World.block_lt_of_cell? W _ h.1
  exact ⟨(hb.cell (p := ⟨b, 0, none⟩) hl).trans h.1, (hb.cell (p := ⟨b, 1, none⟩) hl).trans h.2.1, (hb.cell (p := ⟨b, 2, none⟩) hl).trans h.2.2.1, (hb.cell (p := ⟨b, 3, none⟩) hl).trans h.2.2.2.1, ⟨h.low.trans (hb.mono h.low.size), h.2.2.2.2.le⟩⟩
theorem ToS.set (h : ToS w b v a k n v' a' k' n' W) (i : Nat) (u : Value) : ToS w b v a k n v' a' k' n' (W.setCell ⟨b + 1, i, none⟩ u) := by
  have hk : ∀ j, (W.setCell ⟨b + 1, i, none⟩ u).cell? ⟨b, j, none⟩ = W.cell? ⟨b, j, none⟩ := fun j => World.cell?_of_block (a := ⟨b, j, none⟩) (Below.heap_setCell _ _ _ b (by show b ≠ b + 1; omega))
  exact ⟨(hk 0).trans h.1, (hk 1).trans h.2.1, (hk 2).trans h.2.2.1, (hk 3).trans h.2.2.2.1, ⟨h.low.setCell (p := ⟨b + 1, i, none⟩) (by have := h.2.2.2.2.le; show w.heap.size ≤ b + 1; omega) _, h.2.2.2.2.le⟩⟩
end
/-- a change's block, its cells written one by one -/
abbrev set6 (W : World) (b : Nat) (u0 u1 u2 u3 u4 u5 : Value) : World :=
  (((((W.setCell ⟨b, 0, none⟩ u0).setCell ⟨b, 1, none⟩ u1).setCell ⟨b, 2, none⟩ u2).setCell ⟨b, 3, none⟩ u3).setCell ⟨b, 4, none⟩ u4).setCell ⟨b, 5, none⟩ u5
theorem set6_blk {W : World} {b : Nat} {x0 x1 x2 x3 x4 x5 : Value} {T : TypeId} (h : W.heap[b]? = some (.cells #[x0, x1, x2, x3, x4, x5] T (0, 0))) (u0 u1 u2 u3 u4 u5 : Value) : (set6 W b u0 u1 u2 u3 u4 u5).heap[b]? = some (.cells #[u0, u1, u2, u3, u4, u5] T (0, 0)) :=
  block_setCell (block_setCell (block_setCell (block_setCell (block_setCell (block_setCell h (i := 0) u0) (i := 1) u1) (i := 2) u2) (i := 3) u3) (i := 4) u4) (i := 5) u5
theorem set6_other (W : World) (b k : Nat) (hk : k ≠ b) (u0 u1 u2 u3 u4 u5 : Value) : (set6 W b u0 u1 u2 u3 u4 u5).heap[k]? = W.heap[k]? := by
  rw [Below.heap_setCell _ _ _ k hk, Below.heap_setCell _ _ _ k hk, Below.heap_setCell _ _ _ k hk, Below.heap_setCell _ _ _ k hk, Below.heap_setCell _ _ _ k hk, Below.heap_setCell _ _ _ k hk]
theorem set6_below {W : World} {b n : Nat} {w : World} (h : Below n w W) (hb : n ≤ b) (u0 u1 u2 u3 u4 u5 : Value) : Below n w (set6 W b u0 u1 u2 u3 u4 u5) :=
  (((((h.setCell (p := ⟨b, 0, none⟩) hb _).setCell (p := ⟨b, 1, none⟩) hb _).setCell (p := ⟨b, 2, none⟩) hb _).setCell (p := ⟨b, 3, none⟩) hb _).setCell (p := ⟨b, 4, none⟩) hb _).setCell (p := ⟨b, 5, none⟩) hb _
theorem cell6 {w : World} {b : Nat} {cs : Array Value} {T : TypeId} (h : w.heap[b]? = some (.cells cs T (0, 0))) (i : Nat) {v : Value} (hv : cs[i]? = some v) : w.cell? ⟨b, i, none⟩ = some v := by rw [cell_of_block h]; exact hv

/-- a call of To is refused -/
def toNo (c : Ch) (s : ByteArray) : Bool := isEnd c.cur c.done || (bl s c.cur || decide (64 < s.size))
structure Ch.Like (c' c : Ch) : Prop where
  v1 : c'.was.v = c.was.v
  w1 : c'.was.ws = c.was.ws
  v2 : c'.will.v = c.will.v
  w2 : c'.will.ws = c.will.ws
/-- what To answers -/
def ToPost (w : World) (c : Ch) (s : ByteArray) (e : Ending) (w' : World) : Prop := Below w.heap.size w w' ∧
  ((c.may = false ∧ e = .returned (.tuple #[zc, .int .i64 70])) ∨ (c.may = true ∧ toNo c s = true ∧ e = .returned (.tuple #[zc, .int .i64 1])) ∨
   (c.may = true ∧ toNo c s = false ∧ ∃ c' : Ch, e = .returned (.tuple #[c'.val, .int .i64 0]) ∧ c'.Like c ∧ c'.cur = s ∧ c'.done = false ∧ c'.At w' ∧ (∀ g o, c'.was.a = some ⟨g, o, none⟩ → w.heap.size ≤ g) ∧ ∀ g o, c'.will.a = some ⟨g, o, none⟩ → w.heap.size ≤ g))

set_option maxHeartbeats 6400000 in
set_option maxRecDepth 100000 in
theorem to_any (c : Ch) (s : ByteArray) (w : World) (h : c.At w) (hs : c.cur.size ≤ 9223372036854775807) (hs' : s.size ≤ 140737488351232) :
    Calls Tryd.prog 15 #[c.val, .string s] w fun e w' => ToPost w c s e w' := by
  have mixed : Tryd.prog.follows .mixedOrders = true := by kernel_rfl
  have hK := fun (W : World) (hg : Below w.heap.size w W) => check_any c W (h.below hg) hs
  have hS := fun (W : World) => stands_any c W
  have hE := fun (W : World) => end_any W
  have hP1 : ∀ W : World, Below w.heap.size w W → c.may = true → Calls Tryd.prog 39 #[c.was.val] W fun e w' => ∃ a1 c1, e = .returned (.agg #[.int .i64 c.was.v, .slice a1 c.was.ws.length c1]) ∧ Below W.heap.size W w' ∧ Hid (Lies w' ienc a1 c.was.ws ∧ ∀ g o, a1 = some ⟨g, o, none⟩ → W.heap.size ≤ g) := fun W hg hm => by
    refine (copied_any c.was W (h.h1.below hg) (La.may_iff.1 (by rw [Ch.may] at hm; simp only [Bool.and_eq_true] at hm; exact hm.1)).2.2).mono ?_
    rintro e w' ⟨⟨_, a1, c1, _⟩, rfl, rfl, rfl, hat, hf, hb⟩
    exact ⟨a1, c1, rfl, hb, hat.lies, hf⟩
  have hP2 : ∀ W : World, Below w.heap.size w W → c.may = true → Calls Tryd.prog 39 #[c.will.val] W fun e w' => ∃ a1 c1, e = .returned (.agg #[.int .i64 c.will.v, .slice a1 c.will.ws.length c1]) ∧ Below W.heap.size W w' ∧ Hid (Lies w' ienc a1 c.will.ws ∧ ∀ g o, a1 = some ⟨g, o, none⟩ → W.heap.size ≤ g) := fun W hg hm => by
    refine (copied_any c.will W (h.h2.below hg) (La.may_iff.1 (by rw [Ch.may] at hm; simp only [Bool.and_eq_true] at hm; exact hm.2.1)).2.2).mono ?_
    rintro e w' ⟨⟨_, a1, c1, _⟩, rfl, rfl, rfl, hat, hf, hb⟩
    exact ⟨a1, c1, rfl, hb, hat.lies, hf⟩
  have hlen1 := h.h1.len
  have hlen2 := h.h2.len
  have hT := fun (W : World) => clone_any s W hs'
  have HBX : CS w c w.heap.size (((w.alloc (.cells c.cells CT))).alloc (.cells zcells CT)) := ⟨(Ch.Box.new c CT w).gr (Gr.alloc1 _ _), below_alloc2 _ _ _, Nat.le_refl _⟩
  have hbr : (((w.alloc (.cells c.cells CT))).alloc (.cells zcells CT)).heap[w.heap.size + 1]? = some (.cells zcells CT (0, 0)) := by
    have := heap_alloc_new (w.alloc (.cells c.cells CT)) (.cells zcells CT); rwa [World.size_alloc] at this
  obtain ⟨W0, hW0⟩ : ∃ W0, ((w.alloc (.cells c.cells CT))).alloc (.cells zcells CT) = W0 := ⟨_, rfl⟩
  have HW := hide hW0
  rw [hW0] at HBX hbr
  clear hW0 h
  obtain ⟨b, hb⟩ : ∃ b, w.heap.size = b := ⟨_, rfl⟩
  have HBb := hide hb
  rw [hb] at hbr
  have HX : CS w c b W0 := by rw [← hb]; exact HBX
  clear hb HBX
  have HL := hide (less_bl s c.cur)
  have HE := hide (show c.chk = if c.may = true then 0 else 70 from rfl)
  obtain ⟨z, hz⟩ : ∃ z, c.chk = z := ⟨_, rfl⟩
  rw [hz] at HE hK
  clear hz
  obtain ⟨m, hm⟩ : ∃ m, c.may = m := ⟨_, rfl⟩
  have HM := hide hm
  rw [hm] at HE hP1 hP2
  clear hm
  obtain ⟨PP, hPP⟩ : ∃ PP, ToPost w c s = PP := ⟨_, rfl⟩
  have HPP := hide hPP
  rw [hPP]
  clear hPP
  obtain ⟨⟨v, a, n, ws⟩, ⟨v', a', n', ws'⟩, t, d⟩ := c
  dsimp only [Ch.val, La.val, Ch.cells] at *
  go_enter Tryd.func15, Tryd.ntmps15
  go_wp2_with fail
  rw [HW.out, HBb.out]
  refine (hK W0 HX.low).mono ?_
  rintro e w1 ⟨rfl, hg1⟩
  replace hbr := (hg1.below.block (b + 1) (Array.getElem?_eq_some_iff.1 hbr).1).trans hbr
  replace HX := HX.call hg1.below
  have HX' := hide HX
  have HR := hide hbr
  have r0 : w1.cell? ⟨b + 1, 0, none⟩ = some (.int .i64 0) := cell6 hbr 0 rfl
  have r1 : w1.cell? ⟨b + 1, 1, none⟩ = some (.slice none 0 0) := cell6 hbr 1 rfl
  have r2 : w1.cell? ⟨b + 1, 2, none⟩ = some (.int .i64 0) := cell6 hbr 2 rfl
  have r3 : w1.cell? ⟨b + 1, 3, none⟩ = some (.slice none 0 0) := cell6 hbr 3 rfl
  have r4 : w1.cell? ⟨b + 1, 4, none⟩ = some (.string ⟨#[]⟩) := cell6 hbr 4 rfl
  have r5 : w1.cell? ⟨b + 1, 5, none⟩ = some (.bool false) := cell6 hbr 5 rfl
  have f0 := unfrozen_of_block hbr 0; have f1 := unfrozen_of_block hbr 1; have f2 := unfrozen_of_block hbr 2; have f3 := unfrozen_of_block hbr 3; have f4 := unfrozen_of_block hbr 4; have f5 := unfrozen_of_block hbr 5
  clear hbr hg1 HW
  cases m
  · have hz70 : z = 70 := HE.out
    subst hz70
    go_wp2
    have hz := set6_blk HR.out (.int .i64 0) (.slice none 0 0) (.int .i64 0) (.slice none 0 0) (.string ⟨#[]⟩) (.bool false)
    refine bodyPost_ret (v := .tuple #[zc, .int .i64 70]) (by simp [results, Tryd.results15, go_sem, (cell6 hz 0 rfl), (cell6 hz 1 rfl), (cell6 hz 2 rfl), (cell6 hz 3 rfl), (cell6 hz 4 rfl), (cell6 hz 5 rfl)]) rfl ?_
    rw [← HPP.out]
    exact ⟨set6_below HX'.out.low (by have := HBb.out; omega) _ _ _ _ _ _, Or.inl ⟨HM.out, rfl⟩⟩
  · have hz0 : z = 0 := HE.out
    replace hP1 := fun W h => hP1 W h rfl
    replace hP2 := fun W h => hP2 W h rfl
    subst hz0
    have k0 := HX'.out.c0; have k1 := HX'.out.c1; have k2 := HX'.out.c2; have k3 := HX'.out.c3; have k4 := HX'.out.c4; have k5 := HX'.out.c5
    dsimp only at k0 k1 k2 k3 k4 k5
    clear r0 r1 r2 r3 r4 r5 f0 f1 f2 f3 f4 f5 HX
    go_wp2_with fail
    refine (hS w1).mono ?_
    rintro e w2 ⟨rfl, hg2⟩
    go_wp2_with fail
    refine (hE w2).mono ?_
    rintro e w3 ⟨rfl, hg3⟩
    replace HR := hide (((hg2.trans hg3).below.block (b + 1) (Array.getElem?_eq_some_iff.1 HR.out).1).trans HR.out)
    replace HX' := hide (HX'.out.call (hg2.trans hg3).below)
    clear hg2 hg3 k0 k1 k2 k3 k4 k5
    have k4 := HX'.out.c4
    dsimp only at k4
    obtain ⟨x, hx⟩ : ∃ x, toNo { was := { v := v, a := a, c := n, ws := ws }, will := { v := v', a := a', c := n', ws := ws' }, cur := t, done := d } s = x := ⟨_, rfl⟩
    have TX := hide hx
    dsimp only [toNo] at hx
    by_cases hend : isEnd t d = true
    · rw [hend, Bool.true_or] at hx
      subst hx
      have TN := TX
      have h1 : d = true ∧ t.toList = [] := by unfold isEnd at hend; simpa [and_comm] using hend
      obtain ⟨rfl, ht⟩ := h1
      have hbr := HR.out
      have r0 : w3.cell? ⟨b + 1, 0, none⟩ = some (.int .i64 0) := cell6 hbr 0 rfl
      have r1 : w3.cell? ⟨b + 1, 1, none⟩ = some (.slice none 0 0) := cell6 hbr 1 rfl
      have r2 : w3.cell? ⟨b + 1, 2, none⟩ = some (.int .i64 0) := cell6 hbr 2 rfl
      have r3 : w3.cell? ⟨b + 1, 3, none⟩ = some (.slice none 0 0) := cell6 hbr 3 rfl
      have r4 : w3.cell? ⟨b + 1, 4, none⟩ = some (.string ⟨#[]⟩) := cell6 hbr 4 rfl
      have r5 : w3.cell? ⟨b + 1, 5, none⟩ = some (.bool false) := cell6 hbr 5 rfl
      have f0 := unfrozen_of_block hbr 0; have f1 := unfrozen_of_block hbr 1; have f2 := unfrozen_of_block hbr 2; have f3 := unfrozen_of_block hbr 3; have f4 := unfrozen_of_block hbr 4; have f5 := unfrozen_of_block hbr 5
      clear hbr
      go_wp2
      have hz := set6_blk HR.out (.int .i64 0) (.slice none 0 0) (.int .i64 0) (.slice none 0 0) (.string ⟨#[]⟩) (.bool false)
      refine bodyPost_ret (v := .tuple #[zc, .int .i64 1]) (by simp [results, Tryd.results15, go_sem, (cell6 hz 0 rfl), (cell6 hz 1 rfl), (cell6 hz 2 rfl), (cell6 hz 3 rfl), (cell6 hz 4 rfl), (cell6 hz 5 rfl)]) rfl ?_
      rw [← HPP.out]
      exact ⟨set6_below HX'.out.low (by have := HBb.out; omega) _ _ _ _ _ _, Or.inr (Or.inl ⟨HM.out, TN.out, rfl⟩)⟩
    · have hend' : isEnd t d = false := by simpa using hend
      rw [hend', Bool.false_or] at hx
      have hE2 : (d = false) ∨ (d = true ∧ ¬ t.toList = []) := by
        cases d
        · exact Or.inl rfl
        · refine Or.inr ⟨rfl, fun h => ?_⟩; simp [isEnd, h] at hend'
      by_cases hlt : bl s t = true
      · rw [hlt, Bool.true_or] at hx
        subst hx
        have TN := TX
        have hl : Op.bytesLess s.toList t.toList = true := HL.out.trans hlt
        clear hlt hend hend'
        rcases hE2 with rfl | ⟨rfl, ht⟩
        · have hbr := HR.out
          have r0 : w3.cell? ⟨b + 1, 0, none⟩ = some (.int .i64 0) := cell6 hbr 0 rfl
          have r1 : w3.cell? ⟨b + 1, 1, none⟩ = some (.slice none 0 0) := cell6 hbr 1 rfl
          have r2 : w3.cell? ⟨b + 1, 2, none⟩ = some (.int .i64 0) := cell6 hbr 2 rfl
          have r3 : w3.cell? ⟨b + 1, 3, none⟩ = some (.slice none 0 0) := cell6 hbr 3 rfl
          have r4 : w3.cell? ⟨b + 1, 4, none⟩ = some (.string ⟨#[]⟩) := cell6 hbr 4 rfl
          have r5 : w3.cell? ⟨b + 1, 5, none⟩ = some (.bool false) := cell6 hbr 5 rfl
          have f0 := unfrozen_of_block hbr 0; have f1 := unfrozen_of_block hbr 1; have f2 := unfrozen_of_block hbr 2; have f3 := unfrozen_of_block hbr 3; have f4 := unfrozen_of_block hbr 4; have f5 := unfrozen_of_block hbr 5
          clear hbr
          go_wp2
          have hz := set6_blk HR.out (.int .i64 0) (.slice none 0 0) (.int .i64 0) (.slice none 0 0) (.string ⟨#[]⟩) (.bool false)
          refine bodyPost_ret (v := .tuple #[zc, .int .i64 1]) (by simp [results, Tryd.results15, go_sem, (cell6 hz 0 rfl), (cell6 hz 1 rfl), (cell6 hz 2 rfl), (cell6 hz 3 rfl), (cell6 hz 4 rfl), (cell6 hz 5 rfl)]) rfl ?_
          rw [← HPP.out]
          exact ⟨set6_below HX'.out.low (by have := HBb.out; omega) _ _ _ _ _ _, Or.inr (Or.inl ⟨HM.out, TN.out, rfl⟩)⟩
        · have hbr := HR.out
          have r0 : w3.cell? ⟨b + 1, 0, none⟩ = some (.int .i64 0) := cell6 hbr 0 rfl
          have r1 : w3.cell? ⟨b + 1, 1, none⟩ = some (.slice none 0 0) := cell6 hbr 1 rfl
          have r2 : w3.cell? ⟨b + 1, 2, none⟩ = some (.int .i64 0) := cell6 hbr 2 rfl
          have r3 : w3.cell? ⟨b + 1, 3, none⟩ = some (.slice none 0 0) := cell6 hbr 3 rfl
          have r4 : w3.cell? ⟨b + 1, 4, none⟩ = some (.string ⟨#[]⟩) := cell6 hbr 4 rfl
          have r5 : w3.cell? ⟨b + 1, 5, none⟩ = some (.bool false) := cell6 hbr 5 rfl
          have f0 := unfrozen_of_block hbr 0; have f1 := unfrozen_of_block hbr 1; have f2 := unfrozen_of_block hbr 2; have f3 := unfrozen_of_block hbr 3; have f4 := unfrozen_of_block hbr 4; have f5 := unfrozen_of_block hbr 5
          clear hbr
          go_wp2
          have hz := set6_blk HR.out (.int .i64 0) (.slice none 0 0) (.int .i64 0) (.slice none 0 0) (.string ⟨#[]⟩) (.bool false)
          refine bodyPost_ret (v := .tuple #[zc, .int .i64 1]) (by simp [results, Tryd.results15, go_sem, (cell6 hz 0 rfl), (cell6 hz 1 rfl), (cell6 hz 2 rfl), (cell6 hz 3 rfl), (cell6 hz 4 rfl), (cell6 hz 5 rfl)]) rfl ?_
          rw [← HPP.out]
          exact ⟨set6_below HX'.out.low (by have := HBb.out; omega) _ _ _ _ _ _, Or.inr (Or.inl ⟨HM.out, TN.out, rfl⟩)⟩
      · have hlt' : bl s t = false := by simpa using hlt
        have hl : Op.bytesLess s.toList t.toList = false := HL.out.trans hlt'
        rw [hlt', Bool.false_or] at hx
        clear hlt hlt' hend hend'
        by_cases h64 : 64 < s.size
        · rw [decide_eq_true h64] at hx
          subst hx
          have TN := TX
          have h64' : (64 : Int) < (s.size : Int) := by omega
          rcases hE2 with rfl | ⟨rfl, ht⟩
          · have hbr := HR.out
            have r0 : w3.cell? ⟨b + 1, 0, none⟩ = some (.int .i64 0) := cell6 hbr 0 rfl
            have r1 : w3.cell? ⟨b + 1, 1, none⟩ = some (.slice none 0 0) := cell6 hbr 1 rfl
            have r2 : w3.cell? ⟨b + 1, 2, none⟩ = some (.int .i64 0) := cell6 hbr 2 rfl
            have r3 : w3.cell? ⟨b + 1, 3, none⟩ = some (.slice none 0 0) := cell6 hbr 3 rfl
            have r4 : w3.cell? ⟨b + 1, 4, none⟩ = some (.string ⟨#[]⟩) := cell6 hbr 4 rfl
            have r5 : w3.cell? ⟨b + 1, 5, none⟩ = some (.bool false) := cell6 hbr 5 rfl
            have f0 := unfrozen_of_block hbr 0; have f1 := unfrozen_of_block hbr 1; have f2 := unfrozen_of_block hbr 2; have f3 := unfrozen_of_block hbr 3; have f4 := unfrozen_of_block hbr 4; have f5 := unfrozen_of_block hbr 5
            clear hbr
            go_wp2
            have hz := set6_blk HR.out (.int .i64 0) (.slice none 0 0) (.int .i64 0) (.slice none 0 0) (.string ⟨#[]⟩) (.bool false)
            refine bodyPost_ret (v := .tuple #[zc, .int .i64 1]) (by simp [results, Tryd.results15, go_sem, (cell6 hz 0 rfl), (cell6 hz 1 rfl), (cell6 hz 2 rfl), (cell6 hz 3 rfl), (cell6 hz 4 rfl), (cell6 hz 5 rfl)]) rfl ?_
            rw [← HPP.out]
            exact ⟨set6_below HX'.out.low (by have := HBb.out; omega) _ _ _ _ _ _, Or.inr (Or.inl ⟨HM.out, TN.out, rfl⟩)⟩
          · have hbr := HR.out
            have r0 : w3.cell? ⟨b + 1, 0, none⟩ = some (.int .i64 0) := cell6 hbr 0 rfl
            have r1 : w3.cell? ⟨b + 1, 1, none⟩ = some (.slice none 0 0) := cell6 hbr 1 rfl
            have r2 : w3.cell? ⟨b + 1, 2, none⟩ = some (.int .i64 0) := cell6 hbr 2 rfl
            have r3 : w3.cell? ⟨b + 1, 3, none⟩ = some (.slice none 0 0) := cell6 hbr 3 rfl
            have r4 : w3.cell? ⟨b + 1, 4, none⟩ = some (.string ⟨#[]⟩) := cell6 hbr 4 rfl
            have r5 : w3.cell? ⟨b + 1, 5, none⟩ = some (.bool false) := cell6 hbr 5 rfl
            have f0 := unfrozen_of_block hbr 0; have f1 := unfrozen_of_block hbr 1; have f2 := unfrozen_of_block hbr 2; have f3 := unfrozen_of_block hbr 3; have f4 := unfrozen_of_block hbr 4; have f5 := unfrozen_of_block hbr 5
            clear hbr
            go_wp2
            have hz := set6_blk HR.out (.int .i64 0) (.slice none 0 0) (.int .i64 0) (.slice none 0 0) (.string ⟨#[]⟩) (.bool false)
            refine bodyPost_ret (v := .tuple #[zc, .int .i64 1]) (by simp [results, Tryd.results15, go_sem, (cell6 hz 0 rfl), (cell6 hz 1 rfl), (cell6 hz 2 rfl), (cell6 hz 3 rfl), (cell6 hz 4 rfl), (cell6 hz 5 rfl)]) rfl ?_
            rw [← HPP.out]
            exact ⟨set6_below HX'.out.low (by have := HBb.out; omega) _ _ _ _ _ _, Or.inr (Or.inl ⟨HM.out, TN.out, rfl⟩)⟩
        · rw [decide_eq_false h64] at hx
          subst hx
          have TN := TX.out
          have h64' : ¬ (64 : Int) < (s.size : Int) := by omega
          rcases hE2 with rfl | ⟨rfl, ht⟩
          · have HTN := hide TN
            have HCX : ToS w b v a ws.length n v' a' ws'.length n' w3 := ⟨HX'.out.c0, HX'.out.c1, HX'.out.c2, HX'.out.c3, ⟨HX'.out.low, HX'.out.le⟩⟩
            go_wp2_with fail
            go_region_held3 (ToS w b v a ws.length n v' a' ws'.length n') (first | with_reducible assumption | with_reducible exact ToS.drew (by assumption) | with_reducible exact ToS.call (by assumption) (by assumption) | with_reducible exact ToS.set (ToS.set (ToS.set (ToS.set (ToS.set (ToS.set (by assumption) _ _) _ _) _ _) _ _) _ _) _ _)
              (first
                | (go_at_call 39; refine (hP1 _ (ToS.low (by assumption))).mono ?_; rintro e w4 ⟨a1, n1, rfl, hb4, hat1⟩; clear hP1)
                | (go_at_call 39; refine (hP2 _ (ToS.low (by assumption))).mono ?_; rintro e w5 ⟨a2, n2, rfl, hb5, hat2⟩)
                | (go_at_call 40; refine (hT _).mono ?_; rintro e w6 ⟨rfl, hb6⟩; have hbr := ((((Below.refl _ w3).drew.trans hb4).trans (hb5.mono hb4.size)).trans (hb6.mono (Nat.le_trans hb4.size hb5.size))).block (b + 1) (Array.getElem?_eq_some_iff.1 HR.out).1 |>.trans HR.out; have HR6 := hide hbr; have r0 : w6.cell? ⟨b + 1, 0, none⟩ = some (.int .i64 0) := cell6 hbr 0 rfl; have r1 : w6.cell? ⟨b + 1, 1, none⟩ = some (.slice none 0 0) := cell6 hbr 1 rfl; have r2 : w6.cell? ⟨b + 1, 2, none⟩ = some (.int .i64 0) := cell6 hbr 2 rfl; have r3 : w6.cell? ⟨b + 1, 3, none⟩ = some (.slice none 0 0) := cell6 hbr 3 rfl; have r4 : w6.cell? ⟨b + 1, 4, none⟩ = some (.string ⟨#[]⟩) := cell6 hbr 4 rfl; have r5 : w6.cell? ⟨b + 1, 5, none⟩ = some (.bool false) := cell6 hbr 5 rfl; have f0 := unfrozen_of_block hbr 0; have f1 := unfrozen_of_block hbr 1; have f2 := unfrozen_of_block hbr 2; have f3 := unfrozen_of_block hbr 3; have f4 := unfrozen_of_block hbr 4; have f5 := unfrozen_of_block hbr 5; clear hbr))
            go_wp2
            have B4 : Below w3.heap.size w3 w4 := (Below.refl _ w3).drew.trans hb4
            have B6 : Below w3.heap.size w3 w6 := (B4.trans (hb5.mono hb4.size)).trans (hb6.mono (Nat.le_trans hb4.size hb5.size))
            have hz := set6_blk HR6.out (.int .i64 v) (.slice a1 ws.length n1) (.int .i64 v') (.slice a2 ws'.length n2) (.string s) (.bool false)
            refine bodyPost_ret (v := .tuple #[.agg #[.int .i64 v, .slice a1 ws.length n1, .int .i64 v', .slice a2 ws'.length n2, .string s, .bool false], .int .i64 0]) (by simp [results, Tryd.results15, go_sem, (cell6 hz 0 rfl), (cell6 hz 1 rfl), (cell6 hz 2 rfl), (cell6 hz 3 rfl), (cell6 hz 4 rfl), (cell6 hz 5 rfl)]) rfl ?_
            rw [← HPP.out]
            have hlr := (Array.getElem?_eq_some_iff.1 HR.out).1
            refine ⟨set6_below (HX'.out.low.trans (B6.mono HX'.out.low.size)) (by have := HBb.out; omega) _ _ _ _ _ _, Or.inr (Or.inr ⟨HM.out, HTN.out, ⟨⟨v, a1, n1, ws⟩, ⟨v', a2, n2, ws'⟩, s, false⟩, rfl, ⟨rfl, rfl, rfl, rfl⟩, rfl, rfl, ⟨⟨?_, hlen1⟩, ⟨?_, hlen2⟩⟩, fun g o ha => Nat.le_trans HX'.out.low.size (hat1.out.2 g o ha), fun g o ha => Nat.le_trans (Nat.le_trans HX'.out.low.size B4.size) (hat2.out.2 g o ha)⟩)⟩
            · refine ((hat1.out.1.below hb5).below hb6).later (fun g o ha _ => set6_other _ _ g ?_ _ _ _ _ _ _) (by simp)
              have : w3.heap.size ≤ g := hat1.out.2 g o ha
              omega
            · refine (hat2.out.1.below hb6).later (fun g o ha _ => set6_other _ _ g ?_ _ _ _ _ _ _) (by simp)
              have := hat2.out.2 g o ha
              have := B4.size
              omega
          · have HTN := hide TN
            have HCX : ToS w b v a ws.length n v' a' ws'.length n' w3 := ⟨HX'.out.c0, HX'.out.c1, HX'.out.c2, HX'.out.c3, ⟨HX'.out.low, HX'.out.le⟩⟩
            go_wp2_with fail
            go_region_held3 (ToS w b v a ws.length n v' a' ws'.length n') (first | with_reducible assumption | with_reducible exact ToS.drew (by assumption) | with_reducible exact ToS.call (by assumption) (by assumption) | with_reducible exact ToS.set (ToS.set (ToS.set (ToS.set (ToS.set (ToS.set (by assumption) _ _) _ _) _ _) _ _) _ _) _ _)
              (first
                | (go_at_call 39; refine (hP1 _ (ToS.low (by assumption))).mono ?_; rintro e w4 ⟨a1, n1, rfl, hb4, hat1⟩; clear hP1)
                | (go_at_call 39; refine (hP2 _ (ToS.low (by assumption))).mono ?_; rintro e w5 ⟨a2, n2, rfl, hb5, hat2⟩)
                | (go_at_call 40; refine (hT _).mono ?_; rintro e w6 ⟨rfl, hb6⟩; have hbr := ((((Below.refl _ w3).drew.trans hb4).trans (hb5.mono hb4.size)).trans (hb6.mono (Nat.le_trans hb4.size hb5.size))).block (b + 1) (Array.getElem?_eq_some_iff.1 HR.out).1 |>.trans HR.out; have HR6 := hide hbr; have r0 : w6.cell? ⟨b + 1, 0, none⟩ = some (.int .i64 0) := cell6 hbr 0 rfl; have r1 : w6.cell? ⟨b + 1, 1, none⟩ = some (.slice none 0 0) := cell6 hbr 1 rfl; have r2 : w6.cell? ⟨b + 1, 2, none⟩ = some (.int .i64 0) := cell6 hbr 2 rfl; have r3 : w6.cell? ⟨b + 1, 3, none⟩ = some (.slice none 0 0) := cell6 hbr 3 rfl; have r4 : w6.cell? ⟨b + 1, 4, none⟩ = some (.string ⟨#[]⟩) := cell6 hbr 4 rfl; have r5 : w6.cell? ⟨b + 1, 5, none⟩ = some (.bool false) := cell6 hbr 5 rfl; have f0 := unfrozen_of_block hbr 0; have f1 := unfrozen_of_block hbr 1; have f2 := unfrozen_of_block hbr 2; have f3 := unfrozen_of_block hbr 3; have f4 := unfrozen_of_block hbr 4; have f5 := unfrozen_of_block hbr 5; clear hbr))
            go_wp2
            have B4 : Below w3.heap.size w3 w4 := (Below.refl _ w3).drew.trans hb4
            have B6 : Below w3.heap.size w3 w6 := (B4.trans (hb5.mono hb4.size)).trans (hb6.mono (Nat.le_trans hb4.size hb5.size))
            have hz := set6_blk HR6.out (.int .i64 v) (.slice a1 ws.length n1) (.int .i64 v') (.slice a2 ws'.length n2) (.string s) (.bool false)
            refine bodyPost_ret (v := .tuple #[.agg #[.int .i64 v, .slice a1 ws.length n1, .int .i64 v', .slice a2 ws'.length n2, .string s, .bool false], .int .i64 0]) (by simp [results, Tryd.results15, go_sem, (cell6 hz 0 rfl), (cell6 hz 1 rfl), (cell6 hz 2 rfl), (cell6 hz 3 rfl), (cell6 hz 4 rfl), (cell6 hz 5 rfl)]) rfl ?_
            rw [← HPP.out]
            have hlr := (Array.getElem?_eq_some_iff.1 HR.out).1
            refine ⟨set6_below (HX'.out.low.trans (B6.mono HX'.out.low.size)) (by have := HBb.out; omega) _ _ _ _ _ _, Or.inr (Or.inr ⟨HM.out, HTN.out, ⟨⟨v, a1, n1, ws⟩, ⟨v', a2, n2, ws'⟩, s, false⟩, rfl, ⟨rfl, rfl, rfl, rfl⟩, rfl, rfl, ⟨⟨?_, hlen1⟩, ⟨?_, hlen2⟩⟩, fun g o ha => Nat.le_trans HX'.out.low.size (hat1.out.2 g o ha), fun g o ha => Nat.le_trans (Nat.le_trans HX'.out.low.size B4.size) (hat2.out.2 g o ha)⟩)⟩
            · refine ((hat1.out.1.below hb5).below hb6).later (fun g o ha _ => set6_other _ _ g ?_ _ _ _ _ _ _) (by simp)
              have : w3.heap.size ≤ g := hat1.out.2 g o ha
              omega
            · refine (hat2.out.1.below hb6).later (fun g o ha _ => set6_other _ _ g ?_ _ _ _ _ _ _) (by simp)
              have := hat2.out.2 g o ha
              have := B4.size
              omega

end Go.Proofs.YtcmdglmcmifflaaDoor.Ly
