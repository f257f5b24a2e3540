/- Layer 9, the document's answer: whether a span has a key. Layer 9, the document's answer: Rows, Drop, Fork. -/
import Derived.Test.YthdempdiibjabaaTrRep
import Derived.Test.YthdempdiibjabaaTrOne
import Derived.Test.YthdempdiibjabaaTbRows
namespace Go.Proofs.Ythdempdiibjabaa.Tr
open Go.RowKit Go.Joins Go.Proofs.Ythdempdiibjabaa.Gk Go.Proofs.Ythdempdiibjabaa.Oq Go.Proofs.Ythdempdiibjabaa.Sp Go.Proofs.Ythdempdiibjabaa.Tb

def senc (s : Sp.Sp) : List Value := [.string s.fr, .string s.to]
theorem senc_len (s : Sp.Sp) : (senc s).length = 2 := rfl
abbrev SpT : TypeId := 31
theorem empty_nix (a : ByteArray) : a.toList.isEmpty = decide (a = nix) := by
  rw [Lib.toList_data, Bool.eq_iff_iff, List.isEmpty_iff, decide_eq_true_eq]
  exact ⟨fun h => ba_ext h, fun h => by rw [h]⟩
theorem has_eq (s : Sp.Sp) (key : ByteArray) : s.has key = (!Op.bytesLess key.toList s.fr.toList && (s.to.toList.isEmpty || Op.bytesLess key.toList s.to.toList)) := by
  rw [less_b4, less_b4, empty_nix]; rfl

set_option maxRecDepth 100000 in
set_option maxHeartbeats 1600000 in
theorem rHas_any (key : ByteArray) (a : Option Addr) (cap : Nat) (l : List Sp.Sp) (w : World) (hl : Lies w senc a l) (hn : l.length ≤ 9223372036854775807) :
    Calls Try.prog 55 #[.slice a l.length cap, .string key] w fun e w' => e = .returned (.bool (hasL l key)) ∧ Below w.heap.size w w' := by
  go_enter Try.func55, Try.ntmps55
  go_wp2
  go_loopw [5] (fun i wr => ∃ k : Nat, k ≤ l.length ∧ i = .int .i64 k ∧ Below w.heap.size w wr ∧ Hid (∀ j (hj : j < l.length), j < k → l[j].has key = false)) (fun i _ => l.length - (intOf i).toNat)
  case atStart => exact ⟨0, by omega, rfl, Below.refl _ _, fun j _ hj => by omega⟩
  case round =>
    obtain ⟨k, hk, rfl, hbel, HA⟩ := hrel
    by_cases hlt : k < l.length
    · obtain ⟨b, off, rfl, hbl, hc⟩ := (hl.below hbel).at (k := 2) senc_len k hlt
      have i1 : (0 : Int) ≤ (k : Int) := by omega
      have i2 : (k : Int) < (l.length : Int) := by omega
      have c0 := hc 0 _ rfl
      have c1 := hc 1 _ rfl
      rw [Nat.add_zero] at c0
      clear hc
      obtain ⟨x, hx⟩ : ∃ x, l[k] = x := ⟨_, rfl⟩
      rw [hx] at c0 c1
      have HX := hide hx
      clear hx
      have hz := hbel.size
      have hh := has_eq x key
      have hyes : x.has key = true → hasL l key = true := fun h => hasL_true.2 ⟨_, List.getElem_mem hlt, by rw [HX.out]; exact h⟩
      have hno : x.has key = false → ∀ j (hj : j < l.length), j < k + 1 → l[j].has key = false := fun h j hj hjk => by
        by_cases e : j = k
        · subst e; rw [HX.out]; exact h
        · exact HA.out j hj (by omega)
      have HY := hide hyes
      have HNo := hide hno
      clear hyes hno
      cases h1 : Op.bytesLess key.toList x.fr.toList with
      | true =>
        rw [h1] at hh
        simp only [Bool.not_true, Bool.false_and] at hh
        have HH := hide hh
        clear hh
        go_wp2
        go_roundw
        case rel => exact ⟨k + 1, by omega, by go_num, hbel, HNo.out HH.out⟩
        case measure => simp [intOf]; omega
      | false =>
        rw [h1] at hh
        simp only [Bool.not_false, Bool.true_and] at hh
        cases h2 : x.to.toList.isEmpty with
        | true =>
          have h2' : x.to.toList = [] := by simpa using h2
          rw [h2, Bool.true_or] at hh
          have HH := hide hh
          clear hh
          go_wp2
          go_ret
          exact ⟨by rw [HY.out HH.out]; rfl, hbel⟩
        | false =>
          have h2' : ¬ x.to.toList = [] := by simpa using h2
          rw [h2, Bool.false_or] at hh
          cases h3 : Op.bytesLess key.toList x.to.toList with
          | true =>
            rw [h3] at hh
            have HH := hide hh
            clear hh
            go_wp2
            go_ret
            exact ⟨by rw [HY.out HH.out]; rfl, hbel⟩
          | false =>
            rw [h3] at hh
            have HH := hide hh
            clear hh
            go_wp2
            go_roundw
            case rel => exact ⟨k + 1, by omega, by go_num, hbel, HNo.out HH.out⟩
            case measure => simp [intOf]; omega
    · obtain rfl : k = l.length := by omega
      go_wp2
      go_ret
      refine ⟨?_, hbel⟩
      rw [hasL_false (l := l) fun s hs => by obtain ⟨j, hj, rfl⟩ := List.getElem_of_mem hs; exact HA.out j hj hj]
      rfl

theorem Has1_ref (key : ByteArray) (s : Sp.Sp) (W : World) (g : Nat) (hg : W.heap[g]? = some (.cells #[.string s.fr, .string s.to] SpT (0, 0))) :
    Calls Try.prog 55 #[.slice (some ⟨g, 0, none⟩) 1 1, .string key] W fun e w' => e = .returned (.bool (s.has key)) ∧ Below W.heap.size W w' := by
  have h := rHas_any key (some ⟨g, 0, none⟩) 1 [s] W (Or.inr ⟨g, 0, rfl, (Array.getElem?_eq_some_iff.1 hg).1, fun j u hj => by rw [rc_one] at hj; rw [cell_of_block hg]; simpa [senc] using hj⟩) (by simp)
  have e : hasL [s] key = s.has key := by simp [hasL]
  rw [e] at h
  exact h

end Go.Proofs.Ythdempdiibjabaa.Tr

namespace Go.Proofs.Ythdempdiibjabaa.Tr
open Go.RowKit Go.Joins Go.Proofs.Ythdempdiibjabaa.Gk Go.Proofs.Ythdempdiibjabaa.Oq Go.Proofs.Ythdempdiibjabaa.Sp Go.Proofs.Ythdempdiibjabaa.Tb

set_option maxRecDepth 100000 in
set_option maxHeartbeats 1600000 in
theorem Rows_ref (br : Nat) (l : List Rw) (s : Sp.Sp) (w : World) (hR : RH w br l) :
    Calls Try.prog 33 #[ptr br, spv s] w fun e w' => ∃ a cap L, e = .returned (.slice a L.length cap) ∧ L = l.filter (fun r => s.has r.key) ∧ RL w' a cap L ∧ Below w.heap.size w w' := by
  obtain ⟨hok, a, cap, hg, hl⟩ := id hR
  have hlen := hok.len
  have hlt := hR.lt
  obtain ⟨fr, to⟩ := s
  have hb0 := below_a1 w (.cells #[.string fr, .string to] SpT)
  have hs0 := heap_alloc_new w (.cells #[.string fr, .string to] SpT)
  go_enter Try.func33, Try.ntmps33
  go_wp2
  go_loopw [5, 6] (fun v i wr => ∃ (k : Nat) (G : List Rw), k ≤ l.length ∧ i = .int .i64 k ∧ Hid (G = (l.take k).filter fun r => Sp.Sp.has ⟨fr, to⟩ r.key) ∧ G.length ≤ k ∧ wr.ownsRow (w.heap.size + 1) RowT 3 v G.length (rc rwenc G) ∧ wr.heap[w.heap.size]? = some (.cells #[.string fr, .string to] SpT (0, 0)) ∧ Below w.heap.size w wr) (fun _ i _ => l.length - (intOf i).toNat)
  case atStart => exact ⟨0, [], Nat.zero_le _, rfl, rfl, by simp, World.ownsRow_nil _ _ _ _, hs0, hb0⟩
  case round =>
    obtain ⟨k, G, hk, rfl, HG, hGl, hown, hs, hbel⟩ := hrel
    obtain ⟨gv, gc, rfl⟩ := Gk.own_slice hown
    have t0 : wr.cell? ⟨br, 0, none⟩ = some (.slice a l.length cap) := cellB ((hbel.block br hlt).trans hg) 0 rfl
    have s0 : wr.cell? ⟨w.heap.size, 0, none⟩ = some (.string fr) := cellB hs 0 rfl
    have s1 : wr.cell? ⟨w.heap.size, 1, none⟩ = some (.string to) := cellB hs 1 rfl
    have hsl := (Array.getElem?_eq_some_iff.1 hs).1
    have j0 : (0 : Int) ≤ (k : Int) := by omega
    have hwr := hbel.size
    have hbrl := Nat.lt_of_lt_of_le hlt hwr
    by_cases hkl : k < l.length
    · obtain ⟨b, off, rfl, hbl, hc⟩ := (hl.lies.below hbel).at (k := 3) rwenc_len k hkl
      have c0 := hc 0 _ rfl
      have c1 := hc 1 _ rfl
      have c2 := hc 2 _ rfl
      rw [Nat.add_zero] at c0
      clear hc
      have j1 : (k : Int) < (l.length : Int) := by omega
      have HT := hide (List.take_succ_eq_append_getElem hkl)
      generalize (l[k]'hkl) = y at *
      obtain ⟨yk, ys, yv⟩ := y
      simp only at c0 c1 c2
      have hHas := Has1_ref yk ⟨fr, to⟩ (wr.alloc (.cells #[.string fr, .string to] SpT)).drew wr.heap.size (heap_alloc_new wr _)
      have hbA : Below wr.heap.size wr (wr.alloc (.cells #[.string fr, .string to] SpT)).drew := (below_a1 wr _).drew
      have hsz : wr.heap.size ≤ (wr.alloc (.cells #[.string fr, .string to] SpT)).drew.heap.size := hbA.size
      cases hh : Sp.Sp.has ⟨fr, to⟩ yk
      · rw [hh] at hHas
        have HGN : Hid (G = (l.take (k + 1)).filter fun r => Sp.Sp.has ⟨fr, to⟩ r.key) := by
          show _ = _
          rw [HT.out, List.filter_append, ← HG.out]; simp [hh]
        go_wp2_with fail
        go_region_law (first | (go_simp; go_at_call 55; refine hHas.mono ?_; rintro e w2 ⟨rfl, hb2⟩; have hb3 := hide (hbA.trans (hb2.mono hsz)); clear hb2))
        all_goals
          have hb4 := hbel.trans (hb3.out.mono hwr)
          have hs4 := (hb3.out.block _ hsl).trans hs
          have HO4 := hide (own_below hown hb3.out)
          clear hHas hbA hsz hb3 c0 c1 c2 s0 s1 t0
          go_wp2
          exact ⟨⟨k + 1, G, by omega, by go_num, HGN, by omega, HO4.out, hs4, hb4⟩, by simp [intOf]; omega⟩
      · rw [hh] at hHas
        have HGN : Hid (G ++ [⟨yk, ys, yv⟩] = (l.take (k + 1)).filter fun r => Sp.Sp.has ⟨fr, to⟩ r.key) := by
          show _ = _
          rw [HT.out, List.filter_append, ← HG.out]; simp [hh]
        go_wp2_with fail
        go_region_law (first | (go_simp; go_at_call 55; refine hHas.mono ?_; rintro e w2 ⟨rfl, hb2⟩; have hb3 := hide (hbA.trans (hb2.mono hsz)); clear hb2))
        all_goals
          have hb4 := hide (hbel.trans (hb3.out.mono hwr))
          have hs4 := (hb3.out.block _ hsl).trans hs
          have HO4 := hide (own_below hown hb3.out)
          have t4 : w2.cell? ⟨br, 0, none⟩ = some (.slice (some ⟨b, off, none⟩) l.length cap) := (hb3.out.cell (p := ⟨br, 0, none⟩) hbrl).trans t0
          have d0 := (hb3.out.cell (p := ⟨b, off + k * 3, none⟩) hbl).trans c0
          have d1 := (hb3.out.cell (p := ⟨b, off + k * 3 + 1, none⟩) hbl).trans c1
          have d2 := (hb3.out.cell (p := ⟨b, off + k * 3 + 2, none⟩) hbl).trans c2
          have hsz4 : w.heap.size + 1 ≤ w2.heap.size := by have := (Array.getElem?_eq_some_iff.1 hs4).1; omega
          have HS4 := hide hs4
          clear hHas hbA hsz hb3 c0 c1 c2 s0 s1 t0 hs4
          go_wp2_with (at_builtin; refine wpList_push (enc := rwenc) (k := 3) rfl (.tmp 27) (.tmp 35) RowsT rfl RowT noRw 40 Try.underlying26 row_info rfl (by decide) rwenc_len rwenc_one (w.heap.size + 1) _ G rfl (own_below HO4.out (below_a1 w2 _)) w2.heap.size ⟨yk, ys, yv⟩ rfl (heap_alloc_new w2 _) (by omega) (by omega) (by simp; omega) ?_; intro v5 w5 hown5 hg5 hat5; have B5 := hide ((hb4.out.alloc hb4.out.size _).grown hg5 (by simp; omega) (fun k e => Nat.le_trans (Nat.le_succ _) (HO4.out.lt k e).1)); have HS5 := hide ((hg5.block w.heap.size (by simp; omega) (fun e => by have := (HO4.out.lt _ e.symm).1; omega)).trans ((heap_alloc_old _ _ (by omega)).trans HS4.out)); obtain ⟨N, hN⟩ : ∃ N, N = G ++ [⟨yk, ys, yv⟩] := ⟨_, rfl⟩; rw [← hN] at hown5 HGN; have HNL : Hid (N.length ≤ k + 1) := (by show _ ≤ _; rw [hN, List.length_append]; simp; omega); obtain ⟨a5, c5, rfl⟩ := Gk.own_slice hown5; have H5 := hide hown5; clear hown5 hg5 hat5 hN)
          exact ⟨⟨k + 1, N, by omega, by go_num, HGN, HNL.out, H5.out, HS5.out, B5.out⟩, by simp [intOf]; omega⟩
    · have j1 : ¬ (k : Int) < (l.length : Int) := by omega
      have HE : Hid (G = l.filter fun r => Sp.Sp.has ⟨fr, to⟩ r.key) := by
        have := HG.out
        rw [List.take_of_length_le (by omega)] at this
        exact this
      clear HG
      go_wp2
      go_ret
      exact ⟨gv, gc, G, rfl, HE.out, RL.of_own hown, hbel⟩

end Go.Proofs.Ythdempdiibjabaa.Tr
