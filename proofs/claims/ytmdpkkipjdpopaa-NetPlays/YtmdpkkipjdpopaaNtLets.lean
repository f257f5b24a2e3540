/- Walks over net.go: Letters. -/
import Derived.Test.YtmdpkkipjdpopaaNtJoin
import Derived.Test.YtmdpkkipjdpopaaGApp
import Derived.Lib.SliceRun
namespace Go.Proofs.Ytmdpkkipjdpopaa.Nk
open Go.RowKit Go.Joins Gk

set_option maxHeartbeats 1600000 in
theorem cloneL_any (v : Value) (l : List Lt) (w : World) (hr : Row w lenc LetT 4 v l) (hl : l.length ≤ 4096) :
    Calls Try.prog 36 #[v] w fun e w' => ∃ v', e = .returned v' ∧ w'.ownsRow w.heap.size LetT 4 v' l.length (rc lenc l) ∧ Below w.heap.size w w' := by
  obtain ⟨a, cap, rfl⟩ := hr.slice
  cases a with
  | none =>
    have hl0 : l = [] := by
      rcases hr.lies with h | ⟨_, _, h, _⟩
      · exact h
      · cases h
    subst hl0
    have hq : ∀ n c W, (binOp .eql 45 (.slice none n c) (.slice none 0 0)).run Try.prog W = .ok (.bool true) W := fun n c W => Lib.run_eql_slice_nil W 45 LetT none n c 0 0 Try.underlying45
    go_enter Try.func36, Try.ntmps36
    go_wp2
    go_ret
    exact ⟨_, rfl, World.ownsRow_nil _ _ _ _, Below.refl _ _⟩
  | some ad =>
    have hown0 : (w.alloc (.cells #[] LetT)).ownsRow w.heap.size LetT 4 (.slice (some ⟨w.heap.size, 0, none⟩) 0 0) ([] : List Lt).length (rc lenc []) := World.ownsRow_made w #[] 0 (Nat.le_refl _) (Nat.zero_le _) rfl
    have hl0 := hr.lies.below (below_alloc1 w (.cells #[] LetT))
    have hq : ∀ n c W, (binOp .eql 45 (.slice (some ad) n c) (.slice none 0 0)).run Try.prog W = .ok (.bool false) W := fun n c W => Lib.run_eql_slice_nil W 45 LetT (some ad) n c 0 0 Try.underlying45
    go_enter Try.func36, Try.ntmps36
    go_wp2_with (at_builtin; refine wpList_append_row (enc := lenc) (k := 4) rfl (.tmp 5) (.tmp 6) 45 rfl LetT noL 40 Try.underlying45 let_info rfl (by decide) lenc_len lenc_one w.heap.size _ [] rfl hown0 _ l _ _ rfl rfl hl0 (fun e => by cases e) ?c1 ?c2 ?c3 ?_)
    case c1 => simp; omega
    case c2 => simp; omega
    case c3 => simp
    intro v4 w4 hown4 hg4 _
    have hb4 : Below w.heap.size w w4 := ((Below.refl _ _).alloc (Nat.le_refl _) _).grown hg4 (by simp) (fun k hk => (hown0.lt k hk).1)
    go_wp2
    go_ret
    exact ⟨_, rfl, hown4, hb4⟩

/-- a cell of a row is set to what it is -/
theorem own_setSame {w : World} {B e size g n cap k : Nat} {xs : List Value} {u : Value} (h : w.ownsRow B e size (.slice (some ⟨g, 0, none⟩) n cap) n xs) (hk : xs[k]? = some u) : (w.setCell ⟨g, k, none⟩ u).ownsRow B e size (.slice (some ⟨g, 0, none⟩) n cap) n xs := by
  rcases h.2 with ⟨h0, _⟩ | ⟨g', cap', cur, he, hb, hg, h1, h2, h3, h4⟩
  · cases h0
  · cases he
    refine ⟨h.1, .inr ⟨g, cap, cur, rfl, hb, ?_, h1, h2, h3, h4⟩⟩
    rw [block_setCell hg]
    have hc : cur.setIfInBounds k u = cur := by
      apply Array.ext'
      rw [Array.toList_setIfInBounds]
      refine List.ext_getElem? fun j => ?_
      rw [List.getElem?_set]
      split
      · rename_i e; subst e
        rw [← h4, List.getElem?_take] at hk
        split at hk
        · rw [hk]; split
          · rfl
          · have := (List.getElem?_eq_some_iff.1 hk).1; omega
        · cases hk
      · rfl
    rw [hc]

set_option maxHeartbeats 1600000 in
theorem letters_any {own : Nat → Prop} {bn : Nat} {S : Nst} (w : World) (h : NHeld w own bn S) (hok : S.Ok) :
    Calls Try.prog 17 #[.pointer (some ⟨bn, 0, none⟩)] w fun e w' => ∃ v, e = .returned v ∧ w'.ownsRow w.heap.size LetT 4 v S.ls.length (rc lenc S.ls) ∧ Below w.heap.size w w' := by
  obtain ⟨v, u, h⟩ := h
  obtain ⟨av, cv, rfl⟩ := h.row.slice
  have c2 := h.c2
  have hC := cloneL_any _ S.ls w h.row hok.many
  have hsz : ∀ x ∈ S.ls, x.body.size ≤ 65536 := fun x hx => (hok.each x hx).2.2.2
  have hml := hok.many
  generalize S.ls = ls at *
  clear h hok
  go_enter Try.func17, Try.ntmps17
  go_wp2_with fail
  refine hC.mono ?_
  rintro e w1 ⟨v1, rfl, hown, hb⟩
  obtain ⟨a, cap, rfl⟩ := own_slice hown
  have hz := hb.size
  clear hC
  go_wp2
  go_loopw [4, 12] (fun _ i wr => ∃ k : Nat, k ≤ ls.length ∧ i = .int .i64 k ∧ wr.ownsRow w.heap.size LetT 4 (.slice a ls.length cap) ls.length (rc lenc ls) ∧ Below w.heap.size w wr) (fun _ i _ => ls.length - (intOf i).toNat)
  case atStart => exact ⟨0, by omega, rfl, hown, hb⟩
  case round =>
    obtain ⟨k, hk, rfl, ho, hbel⟩ := hrel
    by_cases hlt : k < ls.length
    · obtain ⟨g, cap', e⟩ := ownsRow_form ho (by omega)
      cases e
      have hcell := rc_at lenc_len ls k hlt 3 (by omega)
      have hx : (rc lenc ls)[k * 4 + 3]? = some (.string ls[k].body) := hcell
      have hg := ho.lt g rfl
      have c3 : wr.cell? ⟨g, k * 4 + 3, none⟩ = some (.string ls[k].body) := (ho.cellAt _ (by omega)).trans hx
      have hs := hsz ls[k] (List.getElem_mem hlt)
      have HX := hide hx
      have i1 : (0 : Int) ≤ (k : Int) := by omega
      have i2 : (k : Int) < (ls.length : Int) := by omega
      generalize ls[k].body = s at *
      clear hcell hx hsz
      go_wp2_with (go_at_call 37; refine (clone_any s _ (by omega)).mono ?_; rintro e w2 ⟨rfl, hb2⟩; have ho2 := own_below ho hb2; have c3' : w2.cell? ⟨g, k * 4 + 3, none⟩ = some (.string s) := (hb2.cell (p := ⟨g, k * 4 + 3, none⟩) hg.2).trans c3; have z3 : w2.frozen? ⟨g, k * 4 + 3, none⟩ = false := (Row.there (enc := lenc) (e := LetT) (k := 4) (l := ls) (own_mono ho2 (Nat.zero_le _)) (k * 4 + 3) (by have := own_form ho2 (by omega); obtain ⟨_, _, _, e, _, h1, _⟩ := this; cases e; omega)).2)
      go_roundw
      case rel => exact ⟨k + 1, by omega, by go_num, own_setSame ho2 HX.out, (hbel.trans (hb2.mono hbel.size)).setCell (p := ⟨g, k * 4 + 3, none⟩) hg.1 _⟩
      case measure => simp [intOf]; omega
    · go_wp2
      go_ret
      exact ⟨_, rfl, ho, hbel⟩

end Go.Proofs.Ytmdpkkipjdpopaa.Nk
