/- Layer 8: the fields of a reply: the walk over replyFields. -/
import Derived.Test.YtkjcfkninmmbhaaOpRpG
namespace Go.Proofs.Ytkjcfkninmmbhaa.Oq
open Go.RowKit Go.Joins Go.Proofs.Ytkjcfkninmmbhaa.Gk

/-- a reply's box, and the list that grows -/
abbrev S6 (B H : Nat) (w : World) (c0 c1 c2 c3 c4 v : Value) (l : List Fld) (W : World) : Prop :=
  (W.cell? ⟨H, 0, none⟩ = some c0 ∧ W.cell? ⟨H, 1, none⟩ = some c1 ∧ W.cell? ⟨H, 2, none⟩ = some c2 ∧ W.cell? ⟨H, 3, none⟩ = some c3 ∧ W.cell? ⟨H, 4, none⟩ = some c4) ∧ B ≤ H ∧ Keep B H w v l W
theorem S6.call {B H : Nat} {w : World} {c0 c1 c2 c3 c4 v : Value} {l : List Fld} {a b : World} (hb : Below a.heap.size a b) (h : S6 B H w c0 c1 c2 c3 c4 v l a) : S6 B H w c0 c1 c2 c3 c4 v l b := by
  obtain ⟨⟨k0, k1, k2, k3, k4⟩, hB, hk⟩ := h
  have hc : ∀ j, b.cell? ⟨H, j, none⟩ = a.cell? ⟨H, j, none⟩ := fun j => hb.cell (p := ⟨H, j, none⟩) hk.lt
  exact ⟨⟨(hc 0).trans k0, (hc 1).trans k1, (hc 2).trans k2, (hc 3).trans k3, (hc 4).trans k4⟩, hB, hk.call hb (by have := hk.lt; omega)⟩
theorem S6.drew {B H : Nat} {w : World} {c0 c1 c2 c3 c4 v : Value} {l : List Fld} {a : World} (h : S6 B H w c0 c1 c2 c3 c4 v l a) : S6 B H w c0 c1 c2 c3 c4 v l a.drew := h.call ((Below.refl _ _).drew)
theorem S6.alloc {B H : Nat} {w : World} {c0 c1 c2 c3 c4 v : Value} {l : List Fld} {a : World} (h : S6 B H w c0 c1 c2 c3 c4 v l a) (o : Obj) : S6 B H w c0 c1 c2 c3 c4 v l (a.alloc o) := h.call ((Below.refl _ _).alloc (Nat.le_refl _) o)
theorem S6.app {B H : Nat} {w : World} {c0 c1 c2 c3 c4 v : Value} {l : List Fld} {a b : World} (hg : a.grownBy b v.ownBlock) (ho : b.ownsRow B 77 3 v l.length (rc fenc l)) (h : S6 B H w c0 c1 c2 c3 c4 v l a) : S6 B H w c0 c1 c2 c3 c4 v l b := by
  obtain ⟨⟨k0, k1, k2, k3, k4⟩, hB, hk⟩ := h
  have hc : ∀ j, b.cell? ⟨H, j, none⟩ = a.cell? ⟨H, j, none⟩ := fun j => World.cell?_of_block (a := ⟨H, j, none⟩) (hg.block H hk.lt hk.ne)
  exact ⟨⟨(hc 0).trans k0, (hc 1).trans k1, (hc 2).trans k2, (hc 3).trans k3, (hc 4).trans k4⟩, hB, ⟨Nat.lt_of_lt_of_le hk.lt hg.size, ho, hk.bel.grown hg (by have := hk.lt; omega) (fun k hk' => (hk.own.lt k hk').1), hk.ne⟩⟩
theorem S6.row {B H : Nat} {w : World} {c0 c1 c2 c3 c4 v : Value} {l : List Fld} {a : World} (h : S6 B H w c0 c1 c2 c3 c4 v l a) : a.ownsRow B 77 3 v l.length (rc fenc l) := h.2.2.own
theorem S6.room {B H : Nat} {w : World} {c0 c1 c2 c3 c4 v : Value} {l : List Fld} {a : World} (h : S6 B H w c0 c1 c2 c3 c4 v l a) : B ≤ a.heap.size := by have := h.2.2.lt; have := h.2.1; omega

def rpF1 (a c n : Int) : List Fld := [numF a, numF c, numF n]
set_option maxRecDepth 100000 in
set_option maxHeartbeats 8000000 in
theorem replyFields_op (client seq at_ code : Int) (l : List RsA) (a : Option Addr) (cap : Nat) (w : World) (hl : ResL w a l) (hn : l.length ≤ 32) (hr : ∀ x ∈ l, x.r.rows.length ≤ 100) :
    Calls Try.prog 43 #[.agg #[.int .i64 client, .int .i64 seq, .slice a l.length cap, .int .i64 at_, .int .i64 code]] w fun e w' => ∃ v, e = .returned v ∧
      w'.ownsRow w.heap.size 77 3 v (Rp.fields ⟨client, seq, l.map RsA.r, at_, code⟩).length (fcells (Rp.fields ⟨client, seq, l.map RsA.r, at_, code⟩)) ∧ Below w.heap.size w w' := by
  obtain ⟨W, hW⟩ : ∃ W, W = w.alloc (.cells #[.int .i64 client, .int .i64 seq, .slice a l.length cap, .int .i64 at_, .int .i64 code] 44) := ⟨_, rfl⟩
  have hS : S5 w.heap.size w.heap.size w (.int .i64 client) (.int .i64 seq) (.slice a l.length cap) (.int .i64 at_) (.int .i64 code) W := by
    rw [hW]; exact ⟨⟨by simp, by simp, by simp, by simp, by simp⟩, Nat.le_refl _, by simp, (Below.refl _ _).alloc (Nat.le_refl _) _⟩
  go_enter Try.func43, Try.ntmps43
  go_wp2
  rw [← hW]
  clear hW
  go_region_held3 (S5 w.heap.size w.heap.size w (.int .i64 client) (.int .i64 seq) (.slice a l.length cap) (.int .i64 at_) (.int .i64 code)) (first | with_reducible exact S5.drew (by assumption) | with_reducible exact S5.call (by assumption) (by assumption) | with_reducible exact S5.alloc (by assumption) _ | with_reducible assumption)
    (first | (go_at_call 56; refine (number_op _ _).mono ?_; rintro e w3 ⟨rfl, hb3⟩))
  obtain ⟨X, hX⟩ : ∃ X, X = w3.alloc (.cells #[.bool false, .int .i64 client, .string ⟨#[]⟩, .bool false, .int .i64 seq, .string ⟨#[]⟩] 77) := ⟨_, rfl⟩
  have hR : S5 w.heap.size w.heap.size w (.int .i64 client) (.int .i64 seq) (.slice a l.length cap) (.int .i64 at_) (.int .i64 code) X := by rw [hX]; assumption
  have hz3 : w.heap.size < w3.heap.size := by
    have h1 := hR.2.2.1
    rw [hX, World.size_alloc] at h1
    rcases Nat.lt_or_ge w.heap.size w3.heap.size with h | h
    · exact h
    · have e : w.heap.size = w3.heap.size := by omega
      have h2 := hR.1.1
      rw [hX, e, cell_of_block (heap_alloc_new w3 _)] at h2
      cases h2
  have hown0 : X.ownsRow w.heap.size 77 3 (.slice (some ⟨w3.heap.size, 0, none⟩) 2 2) 2 (fcells [numF client, numF seq]) := by
    rw [hX]; exact own_new w3 w.heap.size (by omega) [numF client, numF seq] (by simp)
  rw [fcells_rc] at hown0
  have hne0 : some w.heap.size ≠ (Value.slice (some ⟨w3.heap.size, 0, none⟩) 2 2).ownBlock := fun e => by
    have e2 : some w.heap.size = some w3.heap.size := e
    have e3 := Option.some.inj e2
    omega
  obtain ⟨V0, hV0⟩ : ∃ V0, V0 = Value.slice (some ⟨w3.heap.size, 0, none⟩) 2 2 := ⟨_, rfl⟩
  rw [← hX, ← hV0]
  rw [← hV0] at hown0 hne0
  obtain ⟨L0, hL0⟩ : ∃ L0, L0 = [numF client, numF seq] := ⟨_, rfl⟩
  rw [← hL0] at hown0
  have hL0b : L0.length = 2 := by rw [hL0]; rfl
  have hS2 : S6 w.heap.size w.heap.size w (.int .i64 client) (.int .i64 seq) (.slice a l.length cap) (.int .i64 at_) (.int .i64 code) V0 L0 X := ⟨hR.1, Nat.le_refl _, ⟨hR.2.2.1, by rw [hL0b]; exact hown0, hR.2.2.2, hne0⟩⟩
  have HL0 := hide hL0
  have hL0c : L0.length ≤ 2 := by omega
  clear hX hS hR hown0 hne0 hV0 hz3 hL0 hL0b
  go_wp2
  go_region_held3 (S6 w.heap.size w.heap.size w (.int .i64 client) (.int .i64 seq) (.slice a l.length cap) (.int .i64 at_) (.int .i64 code) V0 L0) (first | with_reducible exact S6.drew (by assumption) | with_reducible exact S6.call (by assumption) (by assumption) | with_reducible exact S6.alloc (by assumption) _ | with_reducible exact S6.app (by assumption) (by assumption) (by assumption) | with_reducible assumption)
    (first | (go_at_call 56; refine (number_op _ _).mono ?_; rintro e w3 ⟨rfl, hb3⟩) | (refine step_append_keep (enc := fenc) rfl (.tmp 15) (.tmp 28) 53 rfl 77 _ 32 Try.underlying53 field_info rfl (by decide) fenc_len fenc_one w.heap.size V0 L0 rfl (S6.row (by assumption)) _ 0 (rpF1 at_ code l.length) 3 3 rfl rfl (new_cells _ (rc fenc (rpF1 at_ code l.length)) _) (by simp only [rpF1, List.length_cons, List.length_nil]; omega) (by simp only [rpF1, List.length_cons, List.length_nil]; omega) (S6.room (by assumption)) ?_; intro ad4 cap4 w4 hown4 hg4 hk4 hat4))
  have hf : S6 w.heap.size w.heap.size w (.int .i64 client) (.int .i64 seq) (.slice a l.length cap) (.int .i64 at_) (.int .i64 code) V0 L0 w4 := by assumption
  have hbX := hf.2.2.bel
  have x2 := hf.1.2.2.1
  have e5 : L0 ++ rpF1 at_ code l.length = [numF client, numF seq, numF at_, numF code, numF l.length] := by rw [HL0.out]; rfl
  have hown0 : w4.ownsRow w.heap.size 77 3 (.slice ad4 (L0.length + (rpF1 at_ code l.length).length) cap4) 5 (fcells [numF client, numF seq, numF at_, numF code, numF l.length]) := by
    rw [e5] at hown4
    rw [fcells_rc]; exact hown4
  obtain ⟨V5, hV5⟩ : ∃ V5, V5 = Value.slice ad4 (L0.length + (rpF1 at_ code l.length).length) cap4 := ⟨_, rfl⟩
  rw [← hV5] at hown0
  clear hf hown4 hg4 hk4 hat4 hb3 hS2 e5 HL0 hL0c
  go_wp2
  rw [← hV5]
  clear hV5
  go_loopw [3, 33] (fun v i wr => ∃ k : Nat, k ≤ l.length ∧ i = .int .i64 k ∧ wr.ownsRow w.heap.size 77 3 v ([numF client, numF seq, numF at_, numF code, numF l.length] ++ ((l.map RsA.r).take k).flatMap Rs.fields).length (fcells ([numF client, numF seq, numF at_, numF code, numF l.length] ++ ((l.map RsA.r).take k).flatMap Rs.fields)) ∧ Below w.heap.size w wr) (fun _ i _ => l.length - (intOf i).toNat)
  case atStart => exact ⟨0, by omega, rfl, by simpa using hown0, hbX⟩
  case round =>
    clear hown0 hbX x2
    obtain ⟨k, hk, rfl, hown, hbel⟩ := hrel
    have hwr := hbel.size
    by_cases hlt : k < l.length
    · obtain ⟨b, off, rfl, _, hc⟩ := (hl.lies.later (fun b _ _ h => hbel.block b h) hwr).at rsenc_len k hlt
      have c0 := hc 0 _ rfl
      have c1 := hc 1 _ rfl
      have c2 := hc 2 _ rfl
      have c3 := hc 3 _ rfl
      rw [Nat.add_zero] at c0
      clear hc
      have hrows := hl.rows _ (List.getElem_mem hlt)
      have hrl := hr _ (List.getElem_mem hlt)
      have HT : Hid (((l.map RsA.r).take (k + 1)).flatMap Rs.fields = ((l.map RsA.r).take k).flatMap Rs.fields ++ Rs.fields (l[k]).r) := by
        show _ = _; rw [List.take_succ_eq_append_getElem (by simpa using hlt), List.flatMap_append]; simp
      have hlen0 : (((l.map RsA.r).take k).flatMap Rs.fields).length ≤ 304 * 32 := by
        refine Nat.le_trans (ress_flen _ (fun x hx => ?_)) (Nat.mul_le_mul_left _ ?_)
        · obtain ⟨y, hy, rfl⟩ := List.mem_map.1 (List.mem_of_mem_take hx)
          exact hr y hy
        · rw [List.length_take, List.length_map]; omega
      generalize l[k] = x0 at *
      obtain ⟨⟨xc, xs, xv, xr⟩, xa, xcap⟩ := x0
      simp only at c0 c1 c2 c3 hrows hrl HT
      obtain ⟨L, hL⟩ : ∃ L, L = [numF client, numF seq, numF at_, numF code, numF l.length] ++ ((l.map RsA.r).take k).flatMap Rs.fields := ⟨_, rfl⟩
      have hLb : L.length ≤ 9800 := by rw [hL, List.length_append]; simp only [List.length_cons, List.length_nil]; omega
      have hL' := hide hL
      rw [← hL] at hown
      clear hL hlen0
      obtain ⟨V, rfl⟩ : ∃ V : Value, V = u3 := ⟨_, rfl⟩
      go_wp2
      obtain ⟨W, hW⟩ : ∃ W, W = wr.alloc (.cells #[.int .i64 xc, .int .i64 xs, .string xv, .slice xa xr.length xcap] 107) := ⟨_, rfl⟩
      have hS : S4 w.heap.size wr.heap.size w ⟨⟨xc, xs, xv, xr⟩, xa, xcap⟩ V L W := by
        rw [hW]
        exact ⟨⟨by simp, by simp, by simp, by simp⟩, hwr, ⟨by simp, hown.alloc _, hbel.alloc hwr _, fun e => by have := (hown.lt _ e.symm).2; omega⟩⟩
      rw [← hW]
      clear hW c0 c1 c2 c3 hown
      go_region_held3 (S4 w.heap.size wr.heap.size w ⟨⟨xc, xs, xv, xr⟩, xa, xcap⟩ V L) (first | with_reducible exact S4.drew (by assumption) | with_reducible exact S4.call (by assumption) (by assumption) | with_reducible exact S4.alloc (by assumption) _ | with_reducible exact S4.app (by assumption) (by assumption) (by assumption) | with_reducible assumption)
        (first | (go_at_call 56; refine (number_op _ _).mono ?_; rintro e w3 ⟨rfl, hb3⟩) | (go_at_call 57; refine (text_op _ _).mono ?_; rintro e w3 ⟨rfl, hb3⟩) | (refine step_append_keep (enc := fenc) rfl (.tmp 37) (.tmp 51) 53 rfl 77 _ 32 Try.underlying53 field_info rfl (by decide) fenc_len fenc_one w.heap.size V L rfl (S4.row (by assumption)) _ 0 ([numF xc, numF xs, txtF xv, numF xr.length]) 4 4 rfl rfl (new_cells _ (rc fenc ([numF xc, numF xs, txtF xv, numF xr.length])) _) (by simp only [List.length_cons, List.length_nil]; omega) (by simp only [List.length_cons, List.length_nil]; omega) (S4.room (by assumption)) ?_; intro ad4 cap4 w4 hown4 hg4 hk4 hat4))
      have hf : S4 w.heap.size wr.heap.size w ⟨⟨xc, xs, xv, xr⟩, xa, xcap⟩ V L w4 := by assumption
      have hbel4 := hf.2.2.bel
      have e3 := hf.1.2.2.2
      obtain ⟨L2, hL2⟩ : ∃ L2, L2 = L ++ [numF xc, numF xs, txtF xv, numF xr.length] := ⟨_, rfl⟩
      rw [← hL2, ← fcells_rc] at hown4
      have hL2' := hide hL2
      have hL2b : L2.length ≤ 9804 := by rw [hL2, List.length_append]; simp only [List.length_cons, List.length_nil]; omega
      have hrows4 := hrows.later (fun b _ _ h => hbel4.block b h) hbel4.size
      have hown5 := hide hown4
      clear hf hown4 hg4 hk4 hat4 hb3 hL2 hS
      go_wp2
      obtain ⟨w0, hw0⟩ : ∃ w0 : World, w0 = w4 := ⟨_, rfl⟩
      go_loopw [3, 56] (fun v i wx => ∃ j : Nat, j ≤ xr.length ∧ i = .int .i64 j ∧ wx.ownsRow w.heap.size 77 3 v (L2 ++ (xr.take j).flatMap Rw.fields).length (fcells (L2 ++ (xr.take j).flatMap Rw.fields)) ∧ Below w.heap.size w wx) (fun _ i _ => xr.length - (intOf i).toNat)
      case atStart => exact ⟨0, by omega, rfl, by simpa [hL2'.out] using hown5.out, hbel4⟩
      case round =>
        clear hown5 e3 hrows4
        obtain ⟨j, hj, rfl, hown6, hbelx⟩ := hrel
        have hwx := hbelx.size
        obtain ⟨wx, hwxe⟩ : ∃ wx : World, wx = wr := ⟨_, rfl⟩
        rw [← hwxe] at hown6 hbelx hwx ⊢
        clear hwxe
        obtain ⟨V2, hV2⟩ : ∃ V2 : Value, V2 = u3 := ⟨_, rfl⟩
        rw [← hV2] at hown6 ⊢
        clear hV2
        by_cases hlj : j < xr.length
        · obtain ⟨b2, off2, rfl, _, hc⟩ := (hrows.later (fun b _ _ h => hbelx.block b h) hwx).at rwenc_len j hlj
          have c0 := hc 0 _ rfl
          have c1 := hc 1 _ rfl
          have c2 := hc 2 _ rfl
          rw [Nat.add_zero] at c0
          clear hc
          have HT3 : Hid ((xr.take (j + 1)).flatMap Rw.fields = (xr.take j).flatMap Rw.fields ++ Rw.fields xr[j]) := by
            show _ = _; rw [List.take_succ_eq_append_getElem hlj, List.flatMap_append]; simp
          have hlen3 : ((xr.take j).flatMap Rw.fields).length ≤ 300 := by rw [rows_flen, List.length_take]; omega
          generalize xr[j] = y at *
          obtain ⟨L3, hL3⟩ : ∃ L3, L3 = L2 ++ (xr.take j).flatMap Rw.fields := ⟨_, rfl⟩
          have hL3b : L3.length ≤ 10200 := by rw [hL3, List.length_append]; omega
          have hL3' := hide hL3
          rw [← hL3] at hown6
          clear hL3 hlen3
          go_wp2
          obtain ⟨Y, hY⟩ : ∃ Y, Y = wx.alloc (.cells #[.string y.key, .int .i64 y.stamp, .string y.val] 111) := ⟨_, rfl⟩
          have hS3 : S3 w.heap.size wx.heap.size w y V2 L3 Y := by
            rw [hY]
            exact ⟨⟨by simp, by simp, by simp⟩, hwx, ⟨by simp, hown6.alloc _, hbelx.alloc hwx _, fun e => by have := (hown6.lt _ e.symm).2; omega⟩⟩
          rw [← hY]
          clear hY c0 c1 c2 hown6
          go_region_held3 (S3 w.heap.size wx.heap.size w y V2 L3) (first | with_reducible exact S3.drew (by assumption) | with_reducible exact S3.call (by assumption) (by assumption) | with_reducible exact S3.alloc (by assumption) _ | with_reducible exact S3.app (by assumption) (by assumption) (by assumption) | with_reducible assumption)
            (first | (go_at_call 56; refine (number_op _ _).mono ?_; rintro e w3 ⟨rfl, hb3⟩) | (go_at_call 57; refine (text_op _ _).mono ?_; rintro e w3 ⟨rfl, hb3⟩) | (refine step_append_keep (enc := fenc) rfl (.tmp 60) (.tmp 70) 53 rfl 77 _ 32 Try.underlying53 field_info rfl (by decide) fenc_len fenc_one w.heap.size V2 L3 rfl (S3.row (by assumption)) _ 0 ([txtF y.key, numF y.stamp, txtF y.val]) 3 3 rfl rfl (new_cells _ (rc fenc ([txtF y.key, numF y.stamp, txtF y.val])) _) (by simp only [List.length_cons, List.length_nil]; omega) (by simp only [List.length_cons, List.length_nil]; omega) (S3.room (by assumption)) ?_; intro ad4 cap4 w4 hown4 hg4 hk4 hat4))
          have hf : S3 w.heap.size wx.heap.size w y V2 L3 w4 := by assumption
          have hbel7 := hf.2.2.bel
          have hown7 := hide hown4
          clear hf hown4 hg4 hk4 hat4 hb3 hS3
          go_wp2
          go_roundw
          case rel => exact ⟨j + 1, by omega, by go_num, by rw [HT3.out, ← List.append_assoc, ← hL3'.out]; exact hown7.out, hbel7⟩
          case measure => simp [intOf]; omega
        · have hjl : j = xr.length := by omega
          subst hjl
          rw [List.take_length] at hown6
          have hown7 : wx.ownsRow w.heap.size 77 3 V2 ([numF client, numF seq, numF at_, numF code, numF l.length] ++ ((l.map RsA.r).take (k + 1)).flatMap Rs.fields).length (fcells ([numF client, numF seq, numF at_, numF code, numF l.length] ++ ((l.map RsA.r).take (k + 1)).flatMap Rs.fields)) := by
            rw [HT.out, ← List.append_assoc, ← hL'.out, Rs.fields, ← List.append_assoc, ← hL2'.out]
            exact hown6
          clear hown6
          go_wp2
          go_roundw
          case rel => exact ⟨k + 1, by omega, by go_num, hown7, hbelx⟩
          case measure => simp [intOf]; omega
    · have hkl : k = l.length := by omega
      subst hkl
      go_wp2
      go_ret
      refine ⟨_, rfl, ?_, hbel⟩
      rw [Rp.fields]
      rw [show (l.map RsA.r).take l.length = l.map RsA.r by rw [show l.length = (l.map RsA.r).length by simp]; exact List.take_length] at hown
      simpa using hown

end Go.Proofs.Ytkjcfkninmmbhaa.Oq
