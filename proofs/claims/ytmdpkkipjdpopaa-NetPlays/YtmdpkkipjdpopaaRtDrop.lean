/- Walks over skylarkref03: drop, Lose, Take. -/
import Derived.Test.YtmdpkkipjdpopaaRtSet
namespace Go.Proofs.Ytmdpkkipjdpopaa.Nk
open Go.RowKit Go.Joins Gk
attribute [local go_sem ↓] Go.wp_at_zero Go.wp_at_succ

set_option maxHeartbeats 3200000 in
set_option maxRecDepth 100000 in
theorem rdrop_any {own : Nat → Prop} {br : Nat} {S : Nst} {v u : Value} {gs : List Nat} (w : World) (h : RNHeldL w own br S v u gs) (hfr : Fresh own w) (hl : S.ls.length ≤ 4096) (i : Nat) (hi : i < S.ls.length) :
    Calls Try.prog 47 #[.pointer (some ⟨br, 0, none⟩), .int .i64 i] w fun e w' => e = .returned (.tuple #[]) ∧ RNHeld w' own br { S with ls := S.ls.eraseIdx i } ∧ Only own w w' := by
  obtain ⟨g, cap, cur, rfl, hg, hc1, hc2, hc3, hc4⟩ := own_form h.row (by omega)
  unfold maxLen at hc2
  have c1 := h.c1
  have hbl := h.lt
  have hgl := (Array.getElem?_eq_some_iff.1 hg).1
  have n1 : br ≠ w.heap.size := by omega
  have HB1 := hide (show Below w.heap.size w (w.drew.alloc (.cells #[] RLetT)) from (Below.refl _ _).drew.alloc (Nat.le_refl _) _)
  have HM1 := hide (show Row (w.drew.alloc (.cells #[] RLetT)) lenc RLetT 4 (.slice (some ⟨w.heap.size, 0, none⟩) 0 0) [] from own_mono (World.ownsRow_made (base := 0) (e := RLetT) (size := 4) w.drew #[] 0 (Nat.zero_le _) (Nat.zero_le _) rfl) (Nat.zero_le _))
  obtain ⟨A, hA, hsrc⟩ : ∃ A : Addr, (if cap = i + 1 then some (⟨g, 0, none⟩ : Addr) else some ⟨g, (i + 1) * 4, none⟩) = some A ∧ Hid (∀ W : World, Row W lenc RLetT 4 (.slice (some ⟨g, 0, none⟩) S.ls.length cap) S.ls → Lies W lenc (some A) (S.ls.drop (i + 1))) := by
    by_cases hce : cap = i + 1
    · refine ⟨⟨g, 0, none⟩, by simp [hce], fun W hW => Or.inl (List.drop_eq_nil_of_le (by omega))⟩
    · exact ⟨⟨g, (i + 1) * 4, none⟩, by simp [hce], fun W hW => hW.drop lenc_len (i + 1) (by omega)⟩
  have HH := hide h
  have i1 : (0 : Int) ≤ (i : Int) := by omega
  have i2 : (i : Int) ≤ (S.ls.length : Int) := by omega
  have i3 : (i : Int) + 1 ≤ (S.ls.length : Int) := by omega
  have i4 : (0 : Int) ≤ (i : Int) + 1 := by omega
  have i5 : (i : Int) ≤ (cap : Int) := by omega
  have i6 : (i : Int) + 1 ≤ (cap : Int) := by omega
  have hw1 : IntKind.i64.wrap ((i : Int) + 1) = (i : Int) + 1 := by rw [IntKind.wrap_i64]; omega
  have HL := hide (show (S.ls.take i).length = i by rw [List.length_take]; omega)
  have HD := hide (show S.ls.length - (i + 1) = (S.ls.drop (i + 1)).length by rw [List.length_drop])
  have HE := hide (show S.ls.take i ++ S.ls.drop (i + 1) = S.ls.eraseIdx i by rw [List.eraseIdx_eq_take_drop_succ])
  clear h hg hc3 hc4
  go_enter Try.func47, Try.ntmps47
  go_wp2_with fail
  go_region_law (first
    | (refine step_fill (enc := lenc) (k := 4) (by rfl) (.tmp 5) (.tmp 11) 63 (by rfl) RLetT noL 40 Try.underlying63 rlet_info rfl (by decide) lenc_len lenc_one (.slice (some ⟨w.heap.size, 0, none⟩) 0 0) (by rfl) HM1.out (some ⟨g, 0, none⟩) (S.ls.take i) i cap (by rfl) HL.out.symm (((HH.out.below HB1.out).row.take lenc_len i (by omega)).lies) (fun e => by cases e) (by rw [HL.out]; omega) (by rw [HL.out]; omega) ?_; rw [HL.out]; intro ad3 cap3 w3 hrow3 hg3 hat3; have hb3 : Below w.heap.size w w3 := HB1.out.grown hg3 HB1.out.size (fun k hk => by simp [Value.ownBlock] at hk; omega); have HR3 := hide (HH.out.below hb3); have k3 := HR3.out.c1; have hz3 := hb3.size; have hup3 : ∀ g', (Value.slice ad3 i cap3).ownBlock = some g' → w.heap.size ≤ g' := fun g' hg' => (hat3 g' hg').elim (fun h => by simp [Value.ownBlock] at h; omega) (fun h => by simp at h; omega))
    | (refine step_append_row (enc := lenc) (k := 4) (by rfl) (.tmp 12) (.tmp 19) 63 (by rfl) RLetT noL 40 Try.underlying63 rlet_info rfl (by decide) lenc_len lenc_one (.slice ad3 i cap3) (S.ls.take i) (by rfl) hrow3 (some A) (S.ls.drop (i + 1)) (S.ls.length - (i + 1)) (cap - (i + 1)) (by simp [Act.eval, Act.put]) HD.out (hsrc.out _ HR3.out.row) (fun e => by cases e) (by simp; omega) (by simp; omega) ?_; obtain ⟨n5, hn5⟩ : ∃ n5, n5 = (S.ls.take i).length + (S.ls.drop (i + 1)).length := ⟨_, rfl⟩; rw [← hn5]; clear hn5; intro ad5 cap5 w5 hrow5 hg5 hat5; have hb5 : Below w.heap.size w w5 := hb3.grown hg5 hb3.size (fun k hk => hup3 k hk); have HR5 := hide (HH.out.below hb5); have k5 := HR5.out.c1; have z5 := HR5.out.fz 1))
  all_goals
    refine bodyPost_end (v := .tuple #[]) (by simp [results, Try.results47]) rfl ?_
    rw [HE.out] at hrow5
    have hO5 : Only own w w5 := Only.of_below hb5
    refine ⟨rfl, ⟨_, _, _, HR5.out.setRow hrow5 (fun g' hg' => hfr g' ?_)⟩, hO5.trans (Only.of_set w5 HR5.out.ownD _)⟩
    rcases hat5 g' hg' with h | h
    · exact hup3 g' h
    · omega

theorem RNHeldL.tight {w : World} {own : Nat → Prop} {br : Nat} {S : Nst} {v u : Value} {gs : List Nat} (h : RNHeldL w own br S v u gs) : ∃ own' : Nat → Prop, RNHeldL w own' br S v u gs ∧ ∀ b, own' b → own b ∧ b < w.heap.size :=
  ⟨fun b => b = br ∨ v.ownBlock = some b ∨ u.ownBlock = some b ∨ b ∈ gs, ⟨h.block, h.row, h.crow, h.glen, h.gnod, h.cut, Or.inl rfl, fun _ hg => Or.inr (Or.inl hg), fun _ hg => Or.inr (Or.inr (Or.inl hg)), fun _ hg => Or.inr (Or.inr (Or.inr hg))⟩, fun b hb => by
    rcases hb with rfl | hb | hb | hb
    · exact ⟨h.ownD, h.lt⟩
    · exact ⟨h.ownR b hb, (h.row.lt b hb).2⟩
    · exact ⟨h.ownC b hb, (h.crow.lt b hb).2⟩
    · obtain ⟨i, hi, rfl⟩ := List.getElem_of_mem hb
      exact ⟨h.ownG _ hb, (Array.getElem?_eq_some_iff.1 (h.cut i hi)).1⟩⟩

set_option maxHeartbeats 1600000 in
theorem rlose_any {own : Nat → Prop} {br : Nat} {S : Nst} (w : World) (h : RNHeld w own br S) (hfr : Fresh own w) (hok : S.Ok) (id : Int) :
    Calls Try.prog 25 #[.pointer (some ⟨br, 0, none⟩), .int .i64 id] w fun e w' => e = .returned (.int .i64 (S.lose id).1) ∧ RNHeld w' own br (S.lose id).2 ∧ Only own w w' := by
  obtain ⟨v, u, gs, h⟩ := h
  have hF := rfind_any w h hok.many id
  cases hf : S.find id with
  | none =>
    have hv : S.lose id = (5, S) := by simp [Nst.lose, hf]
    rw [hv]
    rw [find_none hf] at hF
    have HH := hide h
    clear h
    go_enter Try.func25, Try.ntmps25
    go_wp2_with (first | (go_at_call 46; refine hF.mono ?_; rintro e w1 ⟨rfl, hb1⟩))
    go_ret
    exact ⟨rfl, ⟨v, u, gs, HH.out.below hb1⟩, Only.of_below hb1⟩
  | some i =>
    obtain ⟨h1, h2⟩ := find_some hf
    have hv : S.lose id = (0, { S with ls := S.ls.eraseIdx i }) := by simp [Nst.lose, hf]
    rw [hv]
    rw [h1] at hF
    clear h1
    have hR := fun W (hb : Below w.heap.size w W) => rdrop_any W (h.below hb) (hfr.later hb.size) hok.many i h2
    generalize ({ S with ls := S.ls.eraseIdx i } : Nst) = S' at *
    have i1 : (0 : Int) ≤ (i : Int) := by omega
    clear h
    go_enter Try.func25, Try.ntmps25
    go_wp2_with (first | (go_at_call 46; refine hF.mono ?_; rintro e w1 ⟨rfl, hb1⟩; have hR1 := hR w1 hb1) | (go_at_call 47; refine hR1.mono ?_; rintro e w2 ⟨rfl, hh2, ho2⟩))
    go_ret
    exact ⟨rfl, hh2, (Only.of_below hb1).trans ho2⟩

end Go.Proofs.Ytmdpkkipjdpopaa.Nk
