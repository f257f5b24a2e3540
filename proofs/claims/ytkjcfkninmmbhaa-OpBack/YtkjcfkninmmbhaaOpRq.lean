/- Layer 8: the reader of fields: a request is read. -/
import Derived.Test.YtkjcfkninmmbhaaOpRo
import Derived.Deep.CutRange
namespace Go.Proofs.Ytkjcfkninmmbhaa.Oq
open Go.RowKit Go.Joins Go.Proofs.Ytkjcfkninmmbhaa.Gk

theorem op_inf : (Try.prog.info? 29).map (fun i => (i.zero, i.size, i.bytes)) = some (some (.agg #[.int .i64 0, .string ⟨#[]⟩, .string ⟨#[]⟩, .int .i64 0, .int .i64 0, .int .i64 0]), 6, 64) := by kernel_rfl

/-- what is read so far -/
structure RqS (w : World) (br H0 H1 : Nat) (c s : Int) (L : List Opn) (S : Rd) (v : Value) (W : World) : Prop where
  rd : RdH W br S
  zero : W.heap[H0]? = some (.cells #[.int .i64 0, .int .i64 0, .slice none 0 0] 24 (0, 0))
  box : W.heap[H1]? = some (.cells #[.int .i64 c, .int .i64 s, v] 24 (0, 0))
  row : W.ownsRow (H1 + 1) 29 6 v L.length (rc oenc L)
  one : One br w W
  h0 : w.heap.size ≤ H0
  h1 : H0 < H1
  hb : br < w.heap.size
  rb : W.heap[w.heap.size]? = some (.cells #[.pointer (some ⟨br, 0, none⟩)] 60 (0, 0))
  hw : w.heap.size < H0
theorem RqS.below {w W W' : World} {br H0 H1 : Nat} {c s : Int} {L : List Opn} {S : Rd} {v : Value} (h : RqS w br H0 H1 c s L S v W) (hb : Below W.heap.size W W') : RqS w br H0 H1 c s L S v W' :=
  ⟨h.rd.below hb, (hb.block H0 (Array.getElem?_eq_some_iff.1 h.zero).1).trans h.zero, (hb.block H1 (Array.getElem?_eq_some_iff.1 h.box).1).trans h.box, Gk.own_below h.row hb, h.one.trans (One.of_below hb), h.h0, h.h1, h.hb, (hb.block _ (Array.getElem?_eq_some_iff.1 h.rb).1).trans h.rb, h.hw⟩
/-- behind a call of the reader -/
theorem RqS.call {w W W' : World} {br H0 H1 : Nat} {c s : Int} {L : List Opn} {S S' : Rd} {v : Value} (h : RqS w br H0 H1 c s L S v W) (hO : One br W W') (hr : RdH W' br S') : RqS w br H0 H1 c s L S' v W' := by
  have l0 := (Array.getElem?_eq_some_iff.1 h.zero).1
  have l1 := (Array.getElem?_eq_some_iff.1 h.box).1
  have e0 := h.h0
  have e1 := h.h1
  have eb := h.hb
  exact ⟨hr, (hO.block H0 l0 (by omega)).trans h.zero, (hO.block H1 l1 (by omega)).trans h.box, Gk.own_stay h.row (fun g hg => hO.block g (h.row.lt g hg).2 (by have := (h.row.lt g hg).1; omega)), h.one.trans hO, h.h0, h.h1, h.hb, (hO.block _ (Array.getElem?_eq_some_iff.1 h.rb).1 (by omega)).trans h.rb, h.hw⟩
theorem RqS.c2 {w W : World} {br H0 H1 : Nat} {c s : Int} {L : List Opn} {S : Rd} {v : Value} (h : RqS w br H0 H1 c s L S v W) : W.cell? ⟨H1, 2, none⟩ = some v := by rw [cell_of_block h.box]; rfl
theorem RqS.f2 {w W : World} {br H0 H1 : Nat} {c s : Int} {L : List Opn} {S : Rd} {v : Value} (h : RqS w br H0 H1 c s L S v W) : W.frozen? ⟨H1, 2, none⟩ = false := unfrozen_of_block h.box 2
theorem RqS.lt {w W : World} {br H0 H1 : Nat} {c s : Int} {L : List Opn} {S : Rd} {v : Value} (h : RqS w br H0 H1 c s L S v W) : H1 < W.heap.size := (Array.getElem?_eq_some_iff.1 h.box).1
theorem RqS.away {w W : World} {br H0 H1 : Nat} {c s : Int} {L : List Opn} {S : Rd} {v : Value} (h : RqS w br H0 H1 c s L S v W) (k : Nat) (hk : k ≤ H1) : some k ≠ v.ownBlock := fun e => by have := (h.row.lt k e.symm).1; omega
/-- the list is put back, one longer -/
theorem RqS.put {w W W' : World} {br H0 H1 : Nat} {c s : Int} {L L' : List Opn} {S : Rd} {v v' : Value} (h : RqS w br H0 H1 c s L S v W) (hg : W.grownBy W' v.ownBlock) (hr : W'.ownsRow (H1 + 1) 29 6 v' L'.length (rc oenc L')) : RqS w br H0 H1 c s L' S v' (W'.setCell ⟨H1, 2, none⟩ v') := by
  have l0 := (Array.getElem?_eq_some_iff.1 h.zero).1
  have l1 := h.lt
  have e0 := h.h0
  have e1 := h.h1
  have eb := h.hb
  have hz := hg.size
  have hk : ∀ k, k ≤ H1 → W'.heap[k]? = W.heap[k]? := fun k hk => hg.block k (by omega) (h.away k hk)
  have hs : ∀ k, k ≠ H1 → (W'.setCell ⟨H1, 2, none⟩ v').heap[k]? = W'.heap[k]? := fun k hk => Below.heap_setCell W' _ _ k hk
  refine ⟨h.rd.over (by simpa using hz) (fun k hkb => (hs k (by omega)).trans (hk k (by omega))), (hs H0 (by omega)).trans ((hk H0 (by omega)).trans h.zero), by rw [block_setCell ((hk H1 (Nat.le_refl _)).trans h.box)]; rfl,
    Gk.own_stay hr (fun g hg' => hs g (by have := (hr.lt g hg').1; omega)), ?_, h.h0, h.h1, h.hb, (hs _ (by have := h.hw; omega)).trans ((hk _ (by have := h.hw; omega)).trans h.rb), h.hw⟩
  refine One.setNew ⟨hg.os.trans h.one.os, hg.tape.trans h.one.tape, hg.output.trans h.one.output, Nat.le_trans h.one.size hg.size, fun k hk' hn => (hk k (by omega)).trans (h.one.block k hk' hn)⟩ H1 2 (by omega) _

/-- the reader's box, and a new request -/
abbrev QX (w : World) (H br : Nat) (W : World) : Prop :=
  W.cell? ⟨H, 0, none⟩ = some (.pointer (some ⟨br, 0, none⟩)) ∧
  Hid (br < H ∧ W.heap[H]? = some (.cells #[.pointer (some ⟨br, 0, none⟩)] 60 (0, 0)) ∧ W.heap[H + 1]? = some (.cells #[.int .i64 0, .int .i64 0, .slice none 0 0] 24 (0, 0)) ∧ One br w W)
theorem QX.mk {w W : World} {H br : Nat} (h0 : br < H) (h1 : W.heap[H]? = some (.cells #[.pointer (some ⟨br, 0, none⟩)] 60 (0, 0))) (h2 : W.heap[H + 1]? = some (.cells #[.int .i64 0, .int .i64 0, .slice none 0 0] 24 (0, 0))) (h3 : One br w W) : QX w H br W :=
  ⟨by rw [cell_of_block h1]; rfl, h0, h1, h2, h3⟩
theorem QX.one {w W W' : World} {H br : Nat} (hO : One br W W') (h : QX w H br W) : QX w H br W' := by
  obtain ⟨h0, h1, h2, h3⟩ := h.2.out
  exact QX.mk h0 ((hO.block H (Array.getElem?_eq_some_iff.1 h1).1 (by omega)).trans h1) ((hO.block (H + 1) (Array.getElem?_eq_some_iff.1 h2).1 (by omega)).trans h2) (h3.trans hO)
theorem QX.below {w W W' : World} {H br : Nat} (h : QX w H br W) (hb : Below W.heap.size W W') : QX w H br W' := QX.one (One.of_below hb) h
theorem QX.drew {w W : World} {H br : Nat} (h : QX w H br W) : QX w H br W.drew := h.below ((Below.refl _ _).drew)
abbrev zRq : Obj := .cells #[.int .i64 0, .int .i64 0, .slice none 0 0] 24
/-- a block of the call's own, behind the request's -/
abbrev Nw (w W : World) (n : Nat) : Prop := W.heap[n]? = some (.cells #[.int .i64 0, .int .i64 0, .slice none 0 0] 24 (0, 0)) ∧ w.heap.size + 1 < n
theorem QX.new {w X W : World} {br : Nat} (h : QX w w.heap.size br X) (hO : One br (X.alloc zRq) W) : Nw w W X.heap.size := by
  obtain ⟨h0, h1, h2, h3⟩ := h.2.out
  have hl := (Array.getElem?_eq_some_iff.1 h2).1
  exact ⟨(hO.block _ (by simp) (by omega)).trans (heap_alloc_new X _), hl⟩
theorem QX.newd {w X W : World} {br : Nat} (h : QX w w.heap.size br X) (hO : One br (X.alloc zRq).drew W) : Nw w W X.heap.size :=
  h.new ((One.of_below ((Below.refl _ _).drew)).trans hO)
theorem Nw.kept {w V W : World} {br n : Nat} (hw : br < w.heap.size) (hO : One br V W) (h : Nw w V n) : Nw w W n :=
  ⟨(hO.block n (Array.getElem?_eq_some_iff.1 h.1).1 (by have := h.2; omega)).trans h.1, h.2⟩
theorem Nw.c0 {w W : World} {n : Nat} (h : Nw w W n) : W.cell? ⟨n, 0, none⟩ = some (.int .i64 0) := by rw [cell_of_block h.1]; rfl
theorem Nw.c1 {w W : World} {n : Nat} (h : Nw w W n) : W.cell? ⟨n, 1, none⟩ = some (.int .i64 0) := by rw [cell_of_block h.1]; rfl
theorem Nw.c2 {w W : World} {n : Nat} (h : Nw w W n) : W.cell? ⟨n, 2, none⟩ = some (.slice none 0 0) := by rw [cell_of_block h.1]; rfl
theorem set3 {W : World} {R t : Nat} {x0 x1 x2 : Value} (a b c : Value) (h : W.heap[R]? = some (.cells #[x0, x1, x2] t (0, 0))) :
    (((W.setCell ⟨R, 0, none⟩ a).setCell ⟨R, 1, none⟩ b).setCell ⟨R, 2, none⟩ c).heap[R]? = some (.cells #[a, b, c] t (0, 0)) := by
  have e0 : (W.setCell ⟨R, 0, none⟩ a).heap[R]? = some (.cells #[a, x1, x2] t (0, 0)) := by rw [block_setCell h]; rfl
  have e1 : ((W.setCell ⟨R, 0, none⟩ a).setCell ⟨R, 1, none⟩ b).heap[R]? = some (.cells #[a, b, x2] t (0, 0)) := by rw [block_setCell e0]; rfl
  rw [block_setCell e1]; rfl
theorem QX.set {w W : World} {br n : Nat} {a b c : Value} (hn : Nw w W n) (h : QX w w.heap.size br W) : QX w w.heap.size br (((W.setCell ⟨n, 0, none⟩ a).setCell ⟨n, 1, none⟩ b).setCell ⟨n, 2, none⟩ c) := by
  obtain ⟨h0, h1, h2, h3⟩ := h.2.out
  have hl := hn.2
  have hs : ∀ (V : World) i v k, k < n → (V.setCell ⟨n, i, none⟩ v).heap[k]? = V.heap[k]? := fun V i v k hk => Below.heap_setCell V _ _ k (by show k ≠ n; omega)
  refine QX.mk h0 ?_ ?_ ?_
  · rw [hs _ _ _ _ (by omega), hs _ _ _ _ (by omega), hs _ _ _ _ (by omega)]; exact h1
  · rw [hs _ _ _ _ (by omega), hs _ _ _ _ (by omega), hs _ _ _ _ (by omega)]; exact h2
  · exact One.setNew (One.setNew (One.setNew h3 _ 0 (by omega) _) _ 1 (by omega) _) _ 2 (by omega) _

theorem RqS.laid {w W : World} {br : Nat} {S : Rd} {c s : Int} (h : QX w w.heap.size br W) (hr : RdH W br S) : RqS w br (w.heap.size + 1) W.heap.size c s [] S (.slice none 0 0) (W.alloc (.cells #[.int .i64 c, .int .i64 s, .slice none 0 0] 24)) := by
  obtain ⟨h0, h1, h2, h3⟩ := h.2.out
  have hl := (Array.getElem?_eq_some_iff.1 h2).1
  exact ⟨hr.below (below1 _ _), ((below1 W _).block _ hl).trans h2, heap_alloc_new _ _, World.ownsRow_nil _ _ _ _, h3.trans (One.of_below (below1 _ _)), by omega, hl, h0, ((below1 W _).block _ (by omega)).trans h1, by omega⟩
theorem RqS.put0 {w W : World} {br n : Nat} {S : Rd} {c s : Int} (h : QX w w.heap.size br W) (hr : RdH W br S) (hn : Nw w W n) : RqS w br (w.heap.size + 1) n c s [] S (.slice none 0 0) (((W.setCell ⟨n, 0, none⟩ (.int .i64 c)).setCell ⟨n, 1, none⟩ (.int .i64 s)).setCell ⟨n, 2, none⟩ (.slice none 0 0)) := by
  obtain ⟨h0, h1, h2, h3⟩ := (QX.set (a := .int .i64 c) (b := .int .i64 s) (c := .slice none 0 0) hn h).2.out
  have hl := hn.2
  exact ⟨((hr.set n 0 (by omega) _).set n 1 (by omega) _).set n 2 (by omega) _, h2, set3 _ _ _ hn.1, World.ownsRow_nil _ _ _ _, h3, by omega, hl, h0, h1, by omega⟩
theorem RqS.cb {w W : World} {br H0 H1 : Nat} {c s : Int} {L : List Opn} {S : Rd} {v : Value} (h : RqS w br H0 H1 c s L S v W) : W.cell? ⟨w.heap.size, 0, none⟩ = some (.pointer (some ⟨br, 0, none⟩)) := by rw [cell_of_block h.rb]; rfl

set_option maxRecDepth 100000 in
set_option maxHeartbeats 4000000 in
theorem request_rd (S : Rd) (br : Nat) (w : World) (h : RdH w br S) :
    Calls Try.prog 34 #[.agg #[.pointer (some ⟨br, 0, none⟩)]] w fun e w' => ∃ a cap, e = .returned (.agg #[.int .i64 S.req.1.client, .int .i64 S.req.1.seq, .slice a S.req.1.ops.length cap]) ∧ Gk.Lies w' oenc a S.req.1.ops ∧ (∀ b off, a = some ⟨b, off, none⟩ → S.req.1.ops ≠ [] → w.heap.size ≤ b) ∧ RdH w' br S.req.2 ∧ One br w w' := by
  have hlt := h.lt
  obtain ⟨W, hW⟩ : ∃ W, W = (w.alloc (.cells #[.pointer (some ⟨br, 0, none⟩)] 60)).alloc (.cells #[.int .i64 0, .int .i64 0, .slice none 0 0] 24) := ⟨_, rfl⟩
  have hbW : Below w.heap.size w W := by rw [hW]; exact below2 _ _ _
  have hX : QX w w.heap.size br W := by
    refine QX.mk hlt ?_ ?_ (One.of_below hbW)
    · rw [hW]; exact ((below1 _ _).block _ (by simp)).trans (heap_alloc_new _ _)
    · rw [hW]; have := heap_alloc_new (w.alloc (.cells #[.pointer (some ⟨br, 0, none⟩)] 60)) (.cells #[.int .i64 0, .int .i64 0, .slice none 0 0] 24); simpa using this
  have hR := h.below hbW
  go_enter Try.func34, Try.ntmps34
  go_wp2_with fail
  rw [← hW]
  clear hW hbW h
  go_upto_region 1 with fail
  go_cut [3] from 4 to 24 (fun v wx => ∃ H1, v = .pointer (some ⟨H1, 0, none⟩) ∧ RqS w br (w.heap.size + 1) H1 S.num.1 S.num.2.num.1 [] S.num.2.num.2 (.slice none 0 0) wx)
  case first =>
    go_region_held3 (QX w w.heap.size br) (first | with_reducible exact QX.drew (by assumption) | with_reducible exact QX.one (by assumption) (by assumption) | with_reducible assumption | exact QX.below (by assumption) (below1 _ _) | exact QX.set (by assumption) (by assumption) | exact QX.below hX2 (below1 _ _))
      (first
        | (go_at_call 64; refine (number_rd _ br _ (by first | with_reducible assumption | with_reducible exact RdH.drew (by assumption) | with_reducible exact RdH.drew (RdH.drew (by assumption)) | with_reducible exact RdH.drew (RdH.below (by assumption) (below1 _ _)) | with_reducible exact RdH.below (by assumption) (below1 _ _))).mono ?_; rintro e w2 ⟨rfl, hR2, hO2⟩; have hX2 : QX w w.heap.size br w2 := QX.one hO2 (by first | with_reducible assumption | with_reducible exact QX.drew (by assumption) | with_reducible exact QX.below (by assumption) (below1 _ _) | with_reducible exact QX.drew (QX.below (by assumption) (below1 _ _))); first | (have hB := QX.newd (by first | with_reducible assumption | with_reducible exact QX.drew (by assumption)) hO2; have k0 := hB.c0; have k1 := hB.c1; have k2 := hB.c2; have f0 := unfrozen_of_block hB.1 0; have f1 := unfrozen_of_block hB.1 1; have f2 := unfrozen_of_block hB.1 2) | (have hB := QX.new (by first | with_reducible assumption | with_reducible exact QX.drew (by assumption)) hO2; have k0 := hB.c0; have k1 := hB.c1; have k2 := hB.c2; have f0 := unfrozen_of_block hB.1 0; have f1 := unfrozen_of_block hB.1 1; have f2 := unfrozen_of_block hB.1 2) | (have hB := Nw.kept hlt hO2 (by assumption); have k0 := hB.c0; have k1 := hB.c1; have k2 := hB.c2; have f0 := unfrozen_of_block hB.1 0; have f1 := unfrozen_of_block hB.1 1; have f2 := unfrozen_of_block hB.1 2) | skip)
        | fail)
    all_goals
      go_wp2_with fail
      go_meet
      case rel => exact ⟨_, rfl, by first | exact RqS.laid hX2 hR2 | exact RqS.put0 hX2 hR2 hB⟩
  case rest =>
    obtain ⟨H1, rfl, hS2'⟩ := hcut
    have hS2 := hide hS2'
    have cb := hS2'.cb
    clear hX hR hS2'
    go_wp2_with fail
    have hrd := hS2.out.rd
    refine (count_rd _ 32 br _ hrd).mono ?_
    rintro e w3 ⟨rfl, h3, hO3⟩
    have hS3 : Hid (RqS w br (w.heap.size + 1) H1 S.num.1 S.num.2.num.1 [] (S.num.2.num.2.count 32).2 (.slice none 0 0) w3) := hS2.out.call hO3 h3
    clear hrd hS2 hO3 h3
    have hcnt := Rd.count_in S.num.2.num.2 32 (by decide)
    obtain ⟨n, hn⟩ : ∃ n : Nat, n = S.reqN := ⟨_, rfl⟩
    have hni : (S.num.2.num.2.count 32).1 = (n : Int) := by rw [hn]; unfold Rd.reqN Rd.req0; omega
    rw [hni] at hcnt
    rw [hni]
    have hn' := hide hn
    have hni' := hide hni
    clear hn hni
    obtain ⟨cc, hcc⟩ : ∃ cc, cc = S.num.1 := ⟨_, rfl⟩
    obtain ⟨ss, hss⟩ : ∃ ss, ss = S.num.2.num.1 := ⟨_, rfl⟩
    obtain ⟨S3, hS3e⟩ : ∃ S3, S3 = (S.num.2.num.2.count 32).2 := ⟨_, rfl⟩
    rw [← hcc, ← hss, ← hS3e] at hS3
    have hcc' := hide hcc
    have hss' := hide hss
    have hS3e' := hide hS3e
    clear hcc hss hS3e hni'
    go_wp2
    go_loopw [14] (fun i wr => ∃ (k : Nat) (a : Option Addr) (cap : Nat), k ≤ n ∧ i = .int .i64 k ∧ Hid (RqS w br (w.heap.size + 1) H1 cc ss (S3.ops k).1 (S3.ops k).2 (.slice a k cap) wr)) (fun i _ => n - (intOf i).toNat)
    case atStart => exact ⟨0, none, 0, by omega, rfl, hS3⟩
    case round =>
      clear hS3
      obtain ⟨k, a, cap, hk, rfl, hS⟩ := hrel
      have c2 := hS.out.c2
      have cb := hS.out.cb
      have hltH := hS.out.lt
      by_cases hlk : k < n
      · have hLl := hide (Rd.ops_len S3 k)
        have HN : Hid ((S3.ops (k + 1)) = ((S3.ops k).1 ++ [(S3.ops k).2.opn.1], (S3.ops k).2.opn.2)) := rfl
        generalize S3.ops k = SL at *
        obtain ⟨L, Sk⟩ := SL
        simp only at hS hLl HN
        obtain rfl : L.length = k := hLl.out
        clear hLl
        have hL31 : L.length ≤ 31 := by omega
        go_wp2
        go_region_law (first | (go_simp; go_at_call 66; refine (operation_rd Sk br _ (hS.out.rd.below ((Below.refl _ _).drew))).mono ?_; rintro e w5 ⟨rfl, h5, hO5⟩; have hS5 := hide ((hS.out.below ((Below.refl _ _).drew)).call hO5 h5); have k2 := hS5.out.c2; have kb := hS5.out.cb; have hz5 := hS5.out.lt) | (refine step_append_keep (enc := oenc) (by rfl) (.tmp 17) (.tmp 20) 22 (by rfl) 29 _ 64 Try.underlying22 op_inf rfl (by decide) oenc_len oenc_one (H1 + 1) (.slice a L.length cap) L (by rfl) ((hS5.out.below (below1 _ _)).row) w5.heap.size 0 [Sk.opn.1] 1 1 (by rfl) rfl (new_cells w5 (rc oenc [Sk.opn.1]) 29) (by show (L.length + 1) * 64 ≤ _; omega) (by show L.length + 1 ≤ _; omega) (by simp <;> omega) ?_; intro ad7 cap7 w7 hrow7 hg7 hkeep7 hat7; have hb7 := hide (hg7.block H1 (by simp <;> omega) (hS5.out.away _ (Nat.le_refl _))); have k7 := (World.cell?_of_block (a := ⟨H1, 2, none⟩) hb7.out).trans (hS5.out.below (below1 w5 _)).c2; have z7 := (World.frozen?_of_block (a := ⟨H1, 2, none⟩) hb7.out).trans (hS5.out.below (below1 w5 _)).f2))
        all_goals
          have hS8 := hide ((hS5.out.below (below1 w5 _)).put hg7 hrow7)
          clear hS5 hS hg7 hrow7 hkeep7 hat7 hb7 h5 hO5 k2 c2 k7 z7
          go_wp2
          go_roundw
          case rel => exact ⟨L.length + 1, ad7, cap7, by omega, by go_num, hide (by rw [HN.out]; exact hS8.out)⟩
          case measure => simp [intOf]; omega
      · have hkn : k = n := by omega
        subst hkn
        have x0 : wr.cell? ⟨H1, 0, none⟩ = some (.int .i64 cc) := by rw [cell_of_block hS.out.box]; rfl
        have x1 : wr.cell? ⟨H1, 1, none⟩ = some (.int .i64 ss) := by rw [cell_of_block hS.out.box]; rfl
        have z0 : wr.cell? ⟨w.heap.size + 1, 0, none⟩ = some (.int .i64 0) := by rw [cell_of_block hS.out.zero]; rfl
        have z1 : wr.cell? ⟨w.heap.size + 1, 1, none⟩ = some (.int .i64 0) := by rw [cell_of_block hS.out.zero]; rfl
        have z2 : wr.cell? ⟨w.heap.size + 1, 2, none⟩ = some (.slice none 0 0) := by rw [cell_of_block hS.out.zero]; rfl
        have y0 := unfrozen_of_block hS.out.zero 0
        have y1 := unfrozen_of_block hS.out.zero 1
        have y2 := unfrozen_of_block hS.out.zero 2
        have hrq : Hid (S.req = (⟨cc, ss, (S3.ops k).1⟩, (S3.ops k).2)) := by
          show _ = _
          unfold Rd.req
          rw [← hn'.out, hcc'.out, hss'.out, hS3e'.out]
          rfl
        have hlen := hide (Rd.ops_len S3 k)
        go_wp2
        refine bodyPost_ret (v := .agg #[.int .i64 cc, .int .i64 ss, .slice a k cap]) (by simp [results, Try.results34, go_sem, z0, z1, z2]) rfl ?_
        rw [hrq.out]
        have hrow : Gk.Row wr oenc 29 6 (.slice a k cap) (S3.ops k).1 := Gk.own_mono hS.out.row (Nat.zero_le _)
        have h1 := hS.out.h1
        have hbb : br < w.heap.size + 1 := by omega
        have hblk : ∀ b off, a = some ⟨b, off, none⟩ → (S3.ops k).1 ≠ [] → H1 + 1 ≤ b := by
          intro b off ea he
          refine (hS.out.row.lt b ?_).1
          rcases hS.out.row.2 with ⟨e1, h0⟩ | ⟨g, cap', cur, e1, _⟩
          · exact absurd (List.eq_nil_of_length_eq_zero h0) he
          · simp only [Value.slice.injEq] at e1
            rw [ea] at e1 ⊢
            have := e1.1
            simp only [Option.some.injEq, Addr.mk.injEq] at this
            rw [this.1, this.2.1]
            rfl
        refine ⟨a, cap, by show _ = Ending.returned (.agg #[.int .i64 cc, .int .i64 ss, .slice a (S3.ops k).1.length cap]); rw [hlen.out], ?_, fun b off ea he => by have := hblk b off ea he; omega, ((hS.out.rd.set _ 0 hbb _).set _ 1 hbb _).set _ 2 hbb _, One.setNew (One.setNew (One.setNew hS.out.one _ 0 (Nat.le_succ _) _) _ 1 (Nat.le_succ _) _) _ 2 (Nat.le_succ _) _⟩
        by_cases he : (S3.ops k).1 = []
        · exact Or.inl he
        · refine hrow.lies.later (fun b off ea _ => ?_) (by simp)
          have hbk : w.heap.size + 1 ≠ b := by have := hblk b off ea he; have := hS.out.h1; omega
          exact (Below.heap_setCell _ _ _ b (Ne.symm hbk)).trans ((Below.heap_setCell _ _ _ b (Ne.symm hbk)).trans (Below.heap_setCell _ _ _ b (Ne.symm hbk)))


end Go.Proofs.Ytkjcfkninmmbhaa.Oq
