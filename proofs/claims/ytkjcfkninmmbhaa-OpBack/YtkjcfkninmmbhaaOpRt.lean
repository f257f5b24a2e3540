/- Layer 8: the reader of fields: a result is read. -/
import Derived.Test.YtkjcfkninmmbhaaOpRr
import Derived.Test.YtkjcfkninmmbhaaGKeep
import Derived.Deep.CutRange
namespace Go.Proofs.Ytkjcfkninmmbhaa.Oq
open Go.RowKit Go.Joins Go.Proofs.Ytkjcfkninmmbhaa.Gk

theorem row_inf : (Try.prog.info? 111).map (fun i => (i.zero, i.size, i.bytes)) = some (some (.agg #[.string ⟨#[]⟩, .int .i64 0, .string ⟨#[]⟩]), 3, 40) := by kernel_rfl

/-- what is read so far -/
structure RtS (w : World) (br H0 H1 : Nat) (c s : Int) (t : ByteArray) (L : List Rw) (S : Rd) (v : Value) (W : World) : Prop where
  rd : RdH W br S
  zero : W.heap[H0]? = some (.cells #[.int .i64 0, .int .i64 0, .string ⟨#[]⟩, .slice none 0 0] 107 (0, 0))
  box : W.heap[H1]? = some (.cells #[.int .i64 c, .int .i64 s, .string t, v] 107 (0, 0))
  row : W.ownsRow (H1 + 1) 111 3 v L.length (rc rwenc L)
  one : One br w W
  h0 : w.heap.size ≤ H0
  h1 : H0 < H1
  hb : br < w.heap.size
  rb : W.heap[w.heap.size]? = some (.cells #[.pointer (some ⟨br, 0, none⟩)] 60 (0, 0))
  hw : w.heap.size < H0
theorem RtS.below {w W W' : World} {br H0 H1 : Nat} {c s : Int} {t : ByteArray} {L : List Rw} {S : Rd} {v : Value} (h : RtS w br H0 H1 c s t L S v W) (hb : Below W.heap.size W W') : RtS w br H0 H1 c s t L S v W' :=
  ⟨h.rd.below hb, (hb.block H0 (Array.getElem?_eq_some_iff.1 h.zero).1).trans h.zero, (hb.block H1 (Array.getElem?_eq_some_iff.1 h.box).1).trans h.box, Gk.own_below h.row hb, h.one.trans (One.of_below hb), h.h0, h.h1, h.hb, (hb.block _ (Array.getElem?_eq_some_iff.1 h.rb).1).trans h.rb, h.hw⟩
/-- behind a call of the reader -/
theorem RtS.call {w W W' : World} {br H0 H1 : Nat} {c s : Int} {t : ByteArray} {L : List Rw} {S S' : Rd} {v : Value} (h : RtS w br H0 H1 c s t L S v W) (hO : One br W W') (hr : RdH W' br S') : RtS w br H0 H1 c s t L S' v W' := by
  have l0 := (Array.getElem?_eq_some_iff.1 h.zero).1
  have l1 := (Array.getElem?_eq_some_iff.1 h.box).1
  have e0 := h.h0
  have e1 := h.h1
  have eb := h.hb
  exact ⟨hr, (hO.block H0 l0 (by omega)).trans h.zero, (hO.block H1 l1 (by omega)).trans h.box, Gk.own_stay h.row (fun g hg => hO.block g (h.row.lt g hg).2 (by have := (h.row.lt g hg).1; omega)), h.one.trans hO, h.h0, h.h1, h.hb, (hO.block _ (Array.getElem?_eq_some_iff.1 h.rb).1 (by omega)).trans h.rb, h.hw⟩
theorem RtS.c2 {w W : World} {br H0 H1 : Nat} {c s : Int} {t : ByteArray} {L : List Rw} {S : Rd} {v : Value} (h : RtS w br H0 H1 c s t L S v W) : W.cell? ⟨H1, 3, none⟩ = some v := by rw [cell_of_block h.box]; rfl
theorem RtS.f2 {w W : World} {br H0 H1 : Nat} {c s : Int} {t : ByteArray} {L : List Rw} {S : Rd} {v : Value} (h : RtS w br H0 H1 c s t L S v W) : W.frozen? ⟨H1, 3, none⟩ = false := unfrozen_of_block h.box 3
theorem RtS.lt {w W : World} {br H0 H1 : Nat} {c s : Int} {t : ByteArray} {L : List Rw} {S : Rd} {v : Value} (h : RtS w br H0 H1 c s t L S v W) : H1 < W.heap.size := (Array.getElem?_eq_some_iff.1 h.box).1
theorem RtS.away {w W : World} {br H0 H1 : Nat} {c s : Int} {t : ByteArray} {L : List Rw} {S : Rd} {v : Value} (h : RtS w br H0 H1 c s t L S v W) (k : Nat) (hk : k ≤ H1) : some k ≠ v.ownBlock := fun e => by have := (h.row.lt k e.symm).1; omega
/-- the list is put back, one longer -/
theorem RtS.put {w W W' : World} {br H0 H1 : Nat} {c s : Int} {t : ByteArray} {L L' : List Rw} {S : Rd} {v v' : Value} (h : RtS w br H0 H1 c s t L S v W) (hg : W.grownBy W' v.ownBlock) (hr : W'.ownsRow (H1 + 1) 111 3 v' L'.length (rc rwenc L')) : RtS w br H0 H1 c s t L' S v' (W'.setCell ⟨H1, 3, none⟩ v') := by
  have l0 := (Array.getElem?_eq_some_iff.1 h.zero).1
  have l1 := h.lt
  have e0 := h.h0
  have e1 := h.h1
  have eb := h.hb
  have hz := hg.size
  have hk : ∀ k, k ≤ H1 → W'.heap[k]? = W.heap[k]? := fun k hk => hg.block k (by omega) (h.away k hk)
  have hs : ∀ k, k ≠ H1 → (W'.setCell ⟨H1, 3, none⟩ v').heap[k]? = W'.heap[k]? := fun k hk => Below.heap_setCell W' _ _ k hk
  refine ⟨h.rd.over (by simpa using hz) (fun k hkb => (hs k (by omega)).trans (hk k (by omega))), (hs H0 (by omega)).trans ((hk H0 (by omega)).trans h.zero), by rw [block_setCell ((hk H1 (Nat.le_refl _)).trans h.box)]; rfl,
    Gk.own_stay hr (fun g hg' => hs g (by have := (hr.lt g hg').1; omega)), ?_, h.h0, h.h1, h.hb, (hs _ (by have := h.hw; omega)).trans ((hk _ (by have := h.hw; omega)).trans h.rb), h.hw⟩
  refine One.setNew ⟨hg.os.trans h.one.os, hg.tape.trans h.one.tape, hg.output.trans h.one.output, Nat.le_trans h.one.size hg.size, fun k hk' hn => (hk k (by omega)).trans (h.one.block k hk' hn)⟩ H1 3 (by omega) _

/-- the reader's box, and a new result -/
abbrev TX (w : World) (H br : Nat) (W : World) : Prop :=
  W.cell? ⟨H, 0, none⟩ = some (.pointer (some ⟨br, 0, none⟩)) ∧
  Hid (br < H ∧ W.heap[H]? = some (.cells #[.pointer (some ⟨br, 0, none⟩)] 60 (0, 0)) ∧ W.heap[H + 1]? = some (.cells #[.int .i64 0, .int .i64 0, .string ⟨#[]⟩, .slice none 0 0] 107 (0, 0)) ∧ One br w W)
theorem TX.mk {w W : World} {H br : Nat} (h0 : br < H) (h1 : W.heap[H]? = some (.cells #[.pointer (some ⟨br, 0, none⟩)] 60 (0, 0))) (h2 : W.heap[H + 1]? = some (.cells #[.int .i64 0, .int .i64 0, .string ⟨#[]⟩, .slice none 0 0] 107 (0, 0))) (h3 : One br w W) : TX w H br W :=
  ⟨by rw [cell_of_block h1]; rfl, h0, h1, h2, h3⟩
theorem TX.one {w W W' : World} {H br : Nat} (hO : One br W W') (h : TX w H br W) : TX w H br W' := by
  obtain ⟨h0, h1, h2, h3⟩ := h.2.out
  exact TX.mk h0 ((hO.block H (Array.getElem?_eq_some_iff.1 h1).1 (by omega)).trans h1) ((hO.block (H + 1) (Array.getElem?_eq_some_iff.1 h2).1 (by omega)).trans h2) (h3.trans hO)
theorem TX.below {w W W' : World} {H br : Nat} (h : TX w H br W) (hb : Below W.heap.size W W') : TX w H br W' := TX.one (One.of_below hb) h
theorem TX.drew {w W : World} {H br : Nat} (h : TX w H br W) : TX w H br W.drew := h.below ((Below.refl _ _).drew)
abbrev zRs : Obj := (.cells #[.int .i64 0, .int .i64 0, .string ⟨#[]⟩, .slice none 0 0] 107)
abbrev Nt (w W : World) (n : Nat) : Prop := W.heap[n]? = some (.cells #[.int .i64 0, .int .i64 0, .string ⟨#[]⟩, .slice none 0 0] 107 (0, 0)) ∧ w.heap.size + 1 < n
theorem TX.new {w X W : World} {br : Nat} (h : TX w w.heap.size br X) (hO : One br (X.alloc zRs) W) : Nt w W X.heap.size := by
  obtain ⟨h0, h1, h2, h3⟩ := h.2.out
  have hl := (Array.getElem?_eq_some_iff.1 h2).1
  exact ⟨(hO.block _ (by simp) (by omega)).trans (heap_alloc_new X _), hl⟩
theorem TX.newd {w X W : World} {br : Nat} (h : TX w w.heap.size br X) (hO : One br (X.alloc zRs).drew W) : Nt w W X.heap.size :=
  h.new ((One.of_below ((Below.refl _ _).drew)).trans hO)
theorem Nt.kept {w V W : World} {br n : Nat} (hw : br < w.heap.size) (hO : One br V W) (h : Nt w V n) : Nt w W n :=
  ⟨(hO.block n (Array.getElem?_eq_some_iff.1 h.1).1 (by have := h.2; omega)).trans h.1, h.2⟩
theorem Nt.c0 {w W : World} {n : Nat} (h : Nt w W n) : W.cell? ⟨n, 0, none⟩ = some (.int .i64 0) := by rw [cell_of_block h.1]; rfl
theorem Nt.c1 {w W : World} {n : Nat} (h : Nt w W n) : W.cell? ⟨n, 1, none⟩ = some (.int .i64 0) := by rw [cell_of_block h.1]; rfl
theorem Nt.c2 {w W : World} {n : Nat} (h : Nt w W n) : W.cell? ⟨n, 2, none⟩ = some (.string ⟨#[]⟩) := by rw [cell_of_block h.1]; rfl
theorem Nt.c3 {w W : World} {n : Nat} (h : Nt w W n) : W.cell? ⟨n, 3, none⟩ = some (.slice none 0 0) := by rw [cell_of_block h.1]; rfl
theorem set4 {W : World} {R t : Nat} {x0 x1 x2 x3 : Value} (a b c d : Value) (h : W.heap[R]? = some (.cells #[x0, x1, x2, x3] t (0, 0))) :
    ((((W.setCell ⟨R, 0, none⟩ a).setCell ⟨R, 1, none⟩ b).setCell ⟨R, 2, none⟩ c).setCell ⟨R, 3, none⟩ d).heap[R]? = some (.cells #[a, b, c, d] t (0, 0)) := by
  have e0 : (W.setCell ⟨R, 0, none⟩ a).heap[R]? = some (.cells #[a, x1, x2, x3] t (0, 0)) := by rw [block_setCell h]; rfl
  have e1 : ((W.setCell ⟨R, 0, none⟩ a).setCell ⟨R, 1, none⟩ b).heap[R]? = some (.cells #[a, b, x2, x3] t (0, 0)) := by rw [block_setCell e0]; rfl
  have e2 : (((W.setCell ⟨R, 0, none⟩ a).setCell ⟨R, 1, none⟩ b).setCell ⟨R, 2, none⟩ c).heap[R]? = some (.cells #[a, b, c, x3] t (0, 0)) := by rw [block_setCell e1]; rfl
  rw [block_setCell e2]; rfl
theorem TX.set {w W : World} {br n : Nat} {a b c d : Value} (hn : Nt w W n) (h : TX w w.heap.size br W) : TX w w.heap.size br ((((W.setCell ⟨n, 0, none⟩ a).setCell ⟨n, 1, none⟩ b).setCell ⟨n, 2, none⟩ c).setCell ⟨n, 3, none⟩ d) := by
  obtain ⟨h0, h1, h2, h3⟩ := h.2.out
  have hl := hn.2
  have hs : ∀ (V : World) i v k, k < n → (V.setCell ⟨n, i, none⟩ v).heap[k]? = V.heap[k]? := fun V i v k hk => Below.heap_setCell V _ _ k (by show k ≠ n; omega)
  refine TX.mk h0 ?_ ?_ ?_
  · rw [hs _ _ _ _ (by omega), hs _ _ _ _ (by omega), hs _ _ _ _ (by omega), hs _ _ _ _ (by omega)]; exact h1
  · rw [hs _ _ _ _ (by omega), hs _ _ _ _ (by omega), hs _ _ _ _ (by omega), hs _ _ _ _ (by omega)]; exact h2
  · exact One.setNew (One.setNew (One.setNew (One.setNew h3 _ 0 (by omega) _) _ 1 (by omega) _) _ 2 (by omega) _) _ 3 (by omega) _
theorem RtS.laid {w W : World} {br : Nat} {S : Rd} {c s : Int} {t : ByteArray} (h : TX w w.heap.size br W) (hr : RdH W br S) : RtS w br (w.heap.size + 1) W.heap.size c s t [] S (.slice none 0 0) (W.alloc (.cells #[.int .i64 c, .int .i64 s, .string t, .slice none 0 0] 107)) := by
  obtain ⟨h0, h1, h2, h3⟩ := h.2.out
  have hl := (Array.getElem?_eq_some_iff.1 h2).1
  exact ⟨hr.below (below1 _ _), ((below1 W _).block _ hl).trans h2, heap_alloc_new _ _, World.ownsRow_nil _ _ _ _, h3.trans (One.of_below (below1 _ _)), by omega, hl, h0, ((below1 W _).block _ (by omega)).trans h1, by omega⟩
theorem RtS.put0 {w W : World} {br n : Nat} {S : Rd} {c s : Int} {t : ByteArray} (h : TX w w.heap.size br W) (hr : RdH W br S) (hn : Nt w W n) : RtS w br (w.heap.size + 1) n c s t [] S (.slice none 0 0) ((((W.setCell ⟨n, 0, none⟩ (.int .i64 c)).setCell ⟨n, 1, none⟩ (.int .i64 s)).setCell ⟨n, 2, none⟩ (.string t)).setCell ⟨n, 3, none⟩ (.slice none 0 0)) := by
  obtain ⟨h0, h1, h2, h3⟩ := (TX.set (a := .int .i64 c) (b := .int .i64 s) (c := .string t) (d := .slice none 0 0) hn h).2.out
  have hl := hn.2
  exact ⟨(((hr.set n 0 (by omega) _).set n 1 (by omega) _).set n 2 (by omega) _).set n 3 (by omega) _, h2, set4 _ _ _ _ hn.1, World.ownsRow_nil _ _ _ _, h3, by omega, hl, h0, h1, by omega⟩
theorem RtS.cb {w W : World} {br H0 H1 : Nat} {c s : Int} {t : ByteArray} {L : List Rw} {S : Rd} {v : Value} (h : RtS w br H0 H1 c s t L S v W) : W.cell? ⟨w.heap.size, 0, none⟩ = some (.pointer (some ⟨br, 0, none⟩)) := by rw [cell_of_block h.rb]; rfl

set_option maxRecDepth 100000 in
set_option maxHeartbeats 4000000 in
theorem result_rd (S : Rd) (br : Nat) (w : World) (h : RdH w br S) :
    Calls Try.prog 69 #[.agg #[.pointer (some ⟨br, 0, none⟩)]] w fun e w' => ∃ a cap, e = .returned (.agg #[.int .i64 S.res.1.code, .int .i64 S.res.1.stamp, .string S.res.1.val, .slice a S.res.1.rows.length cap]) ∧ Gk.Lies w' rwenc a S.res.1.rows ∧ (∀ b off, a = some ⟨b, off, none⟩ → S.res.1.rows ≠ [] → w.heap.size ≤ b) ∧ RdH w' br S.res.2 ∧ One br w w' := by
  have hlt := h.lt
  obtain ⟨W, hW⟩ : ∃ W, W = (w.alloc (.cells #[.pointer (some ⟨br, 0, none⟩)] 60)).alloc (.cells #[.int .i64 0, .int .i64 0, .string ⟨#[]⟩, .slice none 0 0] 107) := ⟨_, rfl⟩
  have hbW : Below w.heap.size w W := by rw [hW]; exact below2 _ _ _
  have hX : TX w w.heap.size br W := by
    refine TX.mk hlt ?_ ?_ (One.of_below hbW)
    · rw [hW]; exact ((below1 _ _).block _ (by simp)).trans (heap_alloc_new _ _)
    · rw [hW]; have := heap_alloc_new (w.alloc (.cells #[.pointer (some ⟨br, 0, none⟩)] 60)) (.cells #[.int .i64 0, .int .i64 0, .string ⟨#[]⟩, .slice none 0 0] 107); simpa using this
  have hR := h.below hbW
  go_enter Try.func69, Try.ntmps69
  go_wp2_with fail
  rw [← hW]
  clear hW hbW h
  go_upto_region 1 with fail
  go_cut [3] from 4 to 27 (fun v wx => ∃ H1, v = .pointer (some ⟨H1, 0, none⟩) ∧ RtS w br (w.heap.size + 1) H1 S.num.1 S.num.2.num.1 S.num.2.num.2.txt.1 [] S.num.2.num.2.txt.2 (.slice none 0 0) wx)
  case first =>
    go_region_held3 (TX w w.heap.size br) (first | with_reducible exact TX.drew (by assumption) | with_reducible exact TX.one (by assumption) (by assumption) | with_reducible assumption | exact TX.below (by assumption) (below1 _ _) | exact TX.set (by assumption) (by assumption) | exact TX.below hX2 (below1 _ _))
      (first
        | (go_at_call 64; refine (number_rd _ br _ (by first | with_reducible assumption | with_reducible exact RdH.drew (by assumption) | with_reducible exact RdH.drew (RdH.drew (by assumption)) | with_reducible exact RdH.drew (RdH.below (by assumption) (below1 _ _)) | with_reducible exact RdH.below (by assumption) (below1 _ _))).mono ?_; rintro e w2 ⟨rfl, hR2, hO2⟩; have hX2 : TX w w.heap.size br w2 := TX.one hO2 (by first | with_reducible assumption | with_reducible exact TX.drew (by assumption) | with_reducible exact TX.below (by assumption) (below1 _ _) | with_reducible exact TX.drew (TX.below (by assumption) (below1 _ _))); first | (have hB := TX.newd (by first | with_reducible assumption | with_reducible exact TX.drew (by assumption)) hO2; have k0 := hB.c0; have k1 := hB.c1; have k2 := hB.c2; have k3 := hB.c3; have f0 := unfrozen_of_block hB.1 0; have f1 := unfrozen_of_block hB.1 1; have f2 := unfrozen_of_block hB.1 2; have f3 := unfrozen_of_block hB.1 3) | (have hB := TX.new (by first | with_reducible assumption | with_reducible exact TX.drew (by assumption)) hO2; have k0 := hB.c0; have k1 := hB.c1; have k2 := hB.c2; have k3 := hB.c3; have f0 := unfrozen_of_block hB.1 0; have f1 := unfrozen_of_block hB.1 1; have f2 := unfrozen_of_block hB.1 2; have f3 := unfrozen_of_block hB.1 3) | (have hB := Nt.kept hlt hO2 (by assumption); have k0 := hB.c0; have k1 := hB.c1; have k2 := hB.c2; have k3 := hB.c3; have f0 := unfrozen_of_block hB.1 0; have f1 := unfrozen_of_block hB.1 1; have f2 := unfrozen_of_block hB.1 2; have f3 := unfrozen_of_block hB.1 3) | skip)
        | (go_at_call 87; refine (text_rd _ br _ (by first | with_reducible assumption | with_reducible exact RdH.drew (by assumption) | with_reducible exact RdH.drew (RdH.drew (by assumption)) | with_reducible exact RdH.drew (RdH.below (by assumption) (below1 _ _)) | with_reducible exact RdH.below (by assumption) (below1 _ _))).mono ?_; rintro e w2 ⟨rfl, hR2, hO2⟩; have hX2 : TX w w.heap.size br w2 := TX.one hO2 (by first | with_reducible assumption | with_reducible exact TX.drew (by assumption) | with_reducible exact TX.below (by assumption) (below1 _ _) | with_reducible exact TX.drew (TX.below (by assumption) (below1 _ _))); first | (have hB := TX.newd (by first | with_reducible assumption | with_reducible exact TX.drew (by assumption)) hO2; have k0 := hB.c0; have k1 := hB.c1; have k2 := hB.c2; have k3 := hB.c3; have f0 := unfrozen_of_block hB.1 0; have f1 := unfrozen_of_block hB.1 1; have f2 := unfrozen_of_block hB.1 2; have f3 := unfrozen_of_block hB.1 3) | (have hB := TX.new (by first | with_reducible assumption | with_reducible exact TX.drew (by assumption)) hO2; have k0 := hB.c0; have k1 := hB.c1; have k2 := hB.c2; have k3 := hB.c3; have f0 := unfrozen_of_block hB.1 0; have f1 := unfrozen_of_block hB.1 1; have f2 := unfrozen_of_block hB.1 2; have f3 := unfrozen_of_block hB.1 3) | (have hB := Nt.kept hlt hO2 (by assumption); have k0 := hB.c0; have k1 := hB.c1; have k2 := hB.c2; have k3 := hB.c3; have f0 := unfrozen_of_block hB.1 0; have f1 := unfrozen_of_block hB.1 1; have f2 := unfrozen_of_block hB.1 2; have f3 := unfrozen_of_block hB.1 3) | skip)
        | fail)
    all_goals
      go_wp2_with fail
      go_meet
      case rel => exact ⟨_, rfl, by first | exact RtS.laid hX2 hR2 | exact RtS.put0 hX2 hR2 hB⟩
  case rest =>
    obtain ⟨H1, rfl, hS2'⟩ := hcut
    have hS2 := hide hS2'
    have cb := hS2'.cb
    clear hX hR hS2'
    go_wp2_with fail
    have hrd := hS2.out.rd
    refine (count_rd _ 100 br _ hrd).mono ?_
    rintro e w4 ⟨rfl, h4, hO4⟩
    have hS3 : Hid (RtS w br (w.heap.size + 1) H1 S.num.1 S.num.2.num.1 S.num.2.num.2.txt.1 [] (S.num.2.num.2.txt.2.count 100).2 (.slice none 0 0) w4) := hS2.out.call hO4 h4
    clear hrd hS2 hO4 h4
    have hcnt := Rd.cnt_in S.num.2.num.2.txt.2 100 (by decide)
    obtain ⟨n, hn⟩ : ∃ n : Nat, n = S.resN := ⟨_, rfl⟩
    have hni : (S.num.2.num.2.txt.2.count 100).1 = (n : Int) := by rw [hn]; unfold Rd.resN Rd.res0; omega
    rw [hni] at hcnt
    rw [hni]
    have hn' := hide hn
    have hni' := hide hni
    clear hn hni
    obtain ⟨cc, hcc⟩ : ∃ cc, cc = S.num.1 := ⟨_, rfl⟩
    obtain ⟨ss, hss⟩ : ∃ ss, ss = S.num.2.num.1 := ⟨_, rfl⟩
    obtain ⟨tt, htt⟩ : ∃ tt, tt = S.num.2.num.2.txt.1 := ⟨_, rfl⟩
    obtain ⟨S3, hS3e⟩ : ∃ S3, S3 = (S.num.2.num.2.txt.2.count 100).2 := ⟨_, rfl⟩
    rw [← hcc, ← hss, ← htt, ← hS3e] at hS3
    have hcc' := hide hcc
    have hss' := hide hss
    have htt' := hide htt
    have hS3e' := hide hS3e
    clear hcc hss htt hS3e hni'
    go_wp2
    go_loopw [17] (fun i wr => ∃ (k : Nat) (a : Option Addr) (cap : Nat), k ≤ n ∧ i = .int .i64 k ∧ Hid (RtS w br (w.heap.size + 1) H1 cc ss tt (S3.rows k).1 (S3.rows k).2 (.slice a k cap) wr)) (fun i _ => n - (intOf i).toNat)
    case atStart => exact ⟨0, none, 0, by omega, rfl, hS3⟩
    case round =>
      clear hS3
      obtain ⟨k, a, cap, hk, rfl, hS⟩ := hrel
      have c2 := hS.out.c2
      have cb := hS.out.cb
      have hltH := hS.out.lt
      by_cases hlk : k < n
      · have hLl := hide (Rd.rows_len S3 k)
        have HN : Hid ((S3.rows (k + 1)) = ((S3.rows k).1 ++ [(S3.rows k).2.row.1], (S3.rows k).2.row.2)) := rfl
        generalize S3.rows k = SL at *
        obtain ⟨L, Sk⟩ := SL
        simp only at hS hLl HN
        obtain rfl : L.length = k := hLl.out
        clear hLl
        have hL31 : L.length ≤ 99 := by omega
        go_wp2
        go_region_law (first | (go_simp; go_at_call 90; refine (row_rd Sk br _ (hS.out.rd.below ((Below.refl _ _).drew))).mono ?_; rintro e w5 ⟨rfl, h5, hO5⟩; have hS5 := hide ((hS.out.below ((Below.refl _ _).drew)).call hO5 h5); have k2 := hS5.out.c2; have kb := hS5.out.cb; have hz5 := hS5.out.lt) | (refine step_append_keep (enc := rwenc) (by rfl) (.tmp 20) (.tmp 23) 105 (by rfl) 111 _ 40 Try.underlying105 row_inf rfl (by decide) rwenc_len rwenc_one (H1 + 1) (.slice a L.length cap) L (by rfl) ((hS5.out.below (below1 _ _)).row) w5.heap.size 0 [Sk.row.1] 1 1 (by rfl) rfl (new_cells w5 (rc rwenc [Sk.row.1]) 111) (by show (L.length + 1) * 40 ≤ _; omega) (by show L.length + 1 ≤ _; omega) (by simp <;> omega) ?_; intro ad7 cap7 w7 hrow7 hg7 hkeep7 hat7; have hb7 := hide (hg7.block H1 (by simp <;> omega) (hS5.out.away _ (Nat.le_refl _))); have k7 := (World.cell?_of_block (a := ⟨H1, 3, none⟩) hb7.out).trans (hS5.out.below (below1 w5 _)).c2; have z7 := (World.frozen?_of_block (a := ⟨H1, 3, none⟩) hb7.out).trans (hS5.out.below (below1 w5 _)).f2))
        all_goals
          have hS8 := hide ((hS5.out.below (below1 w5 _)).put hg7 hrow7)
          clear hS5 hS hg7 hrow7 hkeep7 hat7 hb7 h5 hO5 k2 c2 k7 z7
          go_wp2
          go_roundw
          case rel => exact ⟨L.length + 1, ad7, cap7, by omega, by go_num, hide (by rw [HN.out]; exact hS8.out)⟩
          case measure => simp [intOf]; omega
      · have hkn : k = n := by omega
        subst hkn
        have x0 : wr.cell? ⟨H1, 0, none⟩ = some (.int .i64 cc) := by rw [cell_of_block hS.out.box]; rfl
        have x1 : wr.cell? ⟨H1, 1, none⟩ = some (.int .i64 ss) := by rw [cell_of_block hS.out.box]; rfl
        have x2 : wr.cell? ⟨H1, 2, none⟩ = some (.string tt) := by rw [cell_of_block hS.out.box]; rfl
        have z0 : wr.cell? ⟨w.heap.size + 1, 0, none⟩ = some (.int .i64 0) := by rw [cell_of_block hS.out.zero]; rfl
        have z1 : wr.cell? ⟨w.heap.size + 1, 1, none⟩ = some (.int .i64 0) := by rw [cell_of_block hS.out.zero]; rfl
        have z2 : wr.cell? ⟨w.heap.size + 1, 2, none⟩ = some (.string ⟨#[]⟩) := by rw [cell_of_block hS.out.zero]; rfl
        have z3 : wr.cell? ⟨w.heap.size + 1, 3, none⟩ = some (.slice none 0 0) := by rw [cell_of_block hS.out.zero]; rfl
        have y0 := unfrozen_of_block hS.out.zero 0
        have y1 := unfrozen_of_block hS.out.zero 1
        have y2 := unfrozen_of_block hS.out.zero 2
        have y3 := unfrozen_of_block hS.out.zero 3
        have hrq : Hid (S.res = (⟨cc, ss, tt, (S3.rows k).1⟩, (S3.rows k).2)) := by
          show _ = _
          unfold Rd.res
          rw [← hn'.out, hcc'.out, hss'.out, htt'.out, hS3e'.out]
          rfl
        have hlen := hide (Rd.rows_len S3 k)
        go_wp2
        refine bodyPost_ret (v := .agg #[.int .i64 cc, .int .i64 ss, .string tt, .slice a k cap]) (by simp [results, Try.results69, go_sem, z0, z1, z2, z3]) rfl ?_
        rw [hrq.out]
        have hrow : Gk.Row wr rwenc 111 3 (.slice a k cap) (S3.rows k).1 := Gk.own_mono hS.out.row (Nat.zero_le _)
        have h1 := hS.out.h1
        have hbb : br < w.heap.size + 1 := by omega
        have hblk : ∀ b off, a = some ⟨b, off, none⟩ → (S3.rows k).1 ≠ [] → H1 + 1 ≤ b := by
          intro b off ea he
          refine (hS.out.row.lt b ?_).1
          rcases hS.out.row.2 with ⟨e1, h0⟩ | ⟨g, cap', cur, e1, _⟩
          · exact absurd (List.eq_nil_of_length_eq_zero h0) he
          · simp only [Value.slice.injEq] at e1
            rw [ea] at e1 ⊢
            have := e1.1
            simp only [Option.some.injEq, Addr.mk.injEq] at this
            rw [this.1, this.2.1]
            rfl
        refine ⟨a, cap, by show _ = Ending.returned (.agg #[.int .i64 cc, .int .i64 ss, .string tt, .slice a (S3.rows k).1.length cap]); rw [hlen.out], ?_, fun b off ea he => by have := hblk b off ea he; omega, (((hS.out.rd.set _ 0 hbb _).set _ 1 hbb _).set _ 2 hbb _).set _ 3 hbb _, One.setNew (One.setNew (One.setNew (One.setNew hS.out.one _ 0 (Nat.le_succ _) _) _ 1 (Nat.le_succ _) _) _ 2 (Nat.le_succ _) _) _ 3 (Nat.le_succ _) _⟩
        by_cases he : (S3.rows k).1 = []
        · exact Or.inl he
        · refine hrow.lies.later (fun b off ea _ => ?_) (by simp)
          have hbk : w.heap.size + 1 ≠ b := by have := hblk b off ea he; have := hS.out.h1; omega
          exact (Below.heap_setCell _ _ _ b (Ne.symm hbk)).trans ((Below.heap_setCell _ _ _ b (Ne.symm hbk)).trans ((Below.heap_setCell _ _ _ b (Ne.symm hbk)).trans (Below.heap_setCell _ _ _ b (Ne.symm hbk))))

end Go.Proofs.Ytkjcfkninmmbhaa.Oq
