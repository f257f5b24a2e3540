/- Layer 9: TablePlays: the law's walk. -/
import Derived.Test.YthdempdiibjabaaTbStep
namespace Go.Proofs.Ythdempdiibjabaa.Tr
open Go.RowKit Go.Joins Go.Proofs.Ythdempdiibjabaa.Gk Go.Proofs.Ythdempdiibjabaa.Oq Go.Proofs.Ythdempdiibjabaa.Sp Go.Proofs.Ythdempdiibjabaa.Tb

abbrev zz9 : ByteArray := ⟨#[122, 122]⟩
theorem step_any (B : World) (bt br : Nat) (l : List Rw) (x : ActV) (w : World) (hD : Duo B bt br l w) (hx : ActAt B x) (hn : x.rows.length ≤ 300) :
    Calls Try.prog 16 #[ptr bt, ptr br, ActV.v x] w fun e w' => e = .returned (.bool true) ∧ ∃ l', Duo B bt br l' w' := by
  have h : x.kind % 4 = 0 ∨ x.kind % 4 = 1 ∨ x.kind % 4 = 2 ∨ x.kind % 4 = 3 := by omega
  rcases h with h | h | h | h
  · exact step_do B bt br l x w hD hx h
  · exact step_rows B bt br l x w hD hx h
  · exact step_take B bt br l x w hD hx h hn
  · exact step_drop B bt br l x w hD hx h

set_option maxRecDepth 100000 in
set_option maxHeartbeats 1600000 in
theorem plays_law (aa : Option Addr) (ac : Nat) (A : List ActV) (w : World) (hA : ActsAt w aa ac A) :
    Calls Try.prog 3 #[.slice aa A.length ac] w fun e w' => e = .returned (.bool true) ∧ Below w.heap.size w w' := by
  have hroom := hA.room
  have hmax := hA.max
  go_enter Try.func3, Try.ntmps3
  go_wp2_with fail
  refine (New_tb _).mono ?_
  rintro e w1 ⟨bt, rfl, ht1, lt1, hb1⟩
  have hba := below_a1 w1 (.cells #[.slice none 0 0] RTabT)
  have hra := heap_alloc_new w1 (.cells #[.slice none 0 0] RTabT)
  have hD1 : Duo w bt w1.heap.size [] (w1.alloc (.cells #[.slice none 0 0] RTabT)) := ⟨ht1.below hba, ⟨Tok.nil, none, 0, hra, RL.nil _⟩, lt1, hb1.size, hb1.trans (hba.mono hb1.size)⟩
  go_wp2
  clear hba hra ht1 hb1 lt1
  go_loopw [3, 4, 5] (fun tv rv i wr => ∃ (k bt br : Nat) (l : List Rw), k ≤ A.length ∧ k ≤ 100 ∧ i = .int .i64 k ∧ tv = ptr bt ∧ rv = ptr br ∧ Duo w bt br l wr) (fun _ _ i _ => A.length - (intOf i).toNat)
  case atStart => exact ⟨0, bt, _, [], Nat.zero_le _, by omega, rfl, rfl, rfl, hD1⟩
  case round =>
    clear hD1
    obtain ⟨k, ct, cr, l, hk, hk100, rfl, rfl, rfl, hD⟩ := hrel
    have hwr := hD.bel.size
    by_cases hgo : k < A.length ∧ k < 100
    · obtain ⟨hlt, h100⟩ := hgo
      have g1 : ((k : Int) < (A.length : Int)) := by omega
      have g2 : ((k : Int) < 100) := by omega
      have g3 : (0 : Int) ≤ (k : Int) := by omega
      obtain ⟨b, off, rfl, hbl, hc⟩ := hA.lies.at (k := 5) aenc_len k hlt
      have hxa := hA.each _ (List.getElem_mem hlt)
      generalize (A[k]'hlt) = x at *
      have cc : ∀ W, Below w.heap.size w W → W.cell? ⟨b, off + k * 5, none⟩ = some (.int .i64 x.kind) ∧ W.cell? ⟨b, off + k * 5 + 1, none⟩ = some (.slice x.oa x.ops.length x.oc) ∧ W.cell? ⟨b, off + k * 5 + 2, none⟩ = some (.string x.fr) ∧ W.cell? ⟨b, off + k * 5 + 3, none⟩ = some (.string x.to) ∧ W.cell? ⟨b, off + k * 5 + 4, none⟩ = some (.slice x.ra x.rows.length x.rcap) := fun W hb => by
        have hq := fun j u hj => (hb.cell (p := ⟨b, off + k * 5 + j, none⟩) hbl).trans (hc j u hj)
        exact ⟨by have := hq 0 _ rfl; rwa [Nat.add_zero] at this, hq 1 _ rfl, hq 2 _ rfl, hq 3 _ rfl, hq 4 _ rfl⟩
      have CC := hide cc
      clear hc cc
      obtain ⟨c0, c1, c2, c3, c4⟩ := CC.out wr hD.bel
      have hkb := hxa.kind
      by_cases h300 : 300 < x.rows.length
      · have i1 : (300 : Int) < (x.rows.length : Int) := by omega
        go_wp2_with fail
        refine (works_tb wr).mono ?_
        rintro e w2 ⟨rfl, hb2⟩
        have hb3 := hD.bel.trans (hb2.mono hD.bel.size)
        clear hb2
        go_wp2
        go_ret
        exact ⟨rfl, hb3⟩
      · have i1 : ¬ (300 : Int) < (x.rows.length : Int) := by omega
        go_wp2_with fail
        refine (among_any x.kind 5 _ (by omega) (by omega) hkb.1 hkb.2).mono ?_
        rintro e w2 ⟨rfl, hw2⟩
        rw [← hw2]
        clear hw2
        by_cases h4 : x.kind % 5 = 4
        · have b4 : (x.kind % 5 == 4) = true := by simp [h4]
          clear c0 c1 c2 c3 c4
          go_wp2_with fail
          refine (Fork_tb ct l wr hD.tab).mono ?_
          rintro e w3 ⟨dt, rfl, hd3, ld3, hb3⟩
          have hD3 := hD.call hb3
          go_wp2_with fail
          refine (Fork_ref cr l w3 hD3.ref).mono ?_
          rintro e w4 ⟨dr, rfl, hr4, lr4, hb4⟩
          have hD4 := hD3.call hb4
          have hd4 := hd3.below hb4
          have hne : dt ≠ ct := by have := hD.tab.lt; omega
          go_wp2_with fail
          refine (Drop_tb ct l ⟨nix, nix⟩ w4 hD4.tab).mono ?_
          rintro e w5 ⟨rfl, ht5, hu5⟩
          have hd5 := hd4.turn hD4.tab hne hu5
          have hr5 := RH.turnT hr4 hD4.tab hu5
          have hB5 := hD4.bel.trans (Only.below hu5 hD4.bel.size (fun b hb => by subst hb; exact hD.lt))
          have hba := below_a1 w5 (.cells (rc oenc [(⟨1, zz9, ⟨#[]⟩, 1, 0, 0⟩ : Opn)]).toArray OpT)
          have hza := heap_alloc_new w5 (.cells (rc oenc [(⟨1, zz9, ⟨#[]⟩, 1, 0, 0⟩ : Opn)]).toArray OpT)
          have hDo := Do_tb ct _ (some ⟨w5.heap.size, 0, none⟩) 1 [⟨1, zz9, ⟨#[]⟩, 1, 0, 0⟩] _ (ht5.below hba) (ops_lie hza)
          go_wp2_with fail
          refine hDo.mono ?_
          rintro e w6 ⟨ra, rcap, rl, rfl, hP⟩
          have hD3 : Duo w dt dr l w6 := ⟨(hd5.below hba).turn (ht5.below hba) hne hP.turn, RH.turnT (hr5.below hba) (ht5.below hba) hP.turn, Nat.le_trans hwr ld3, Nat.le_trans hwr (Nat.le_trans hb3.size lr4), (hB5.trans (hba.mono hB5.size)).trans (Only.below hP.turn (Nat.le_trans hB5.size hba.size) (fun b hb => by subst hb; exact hD.lt))⟩
          clear hDo hP hba hza hB5 hr5 hd5 ht5 hu5 hd4 hD4 hr4 hb4 hb3 hd3
          obtain ⟨_, a3, cp3, hg3, hl3⟩ := id hD3.ref
          have t3 : w6.cell? ⟨dr, 0, none⟩ = some (.slice a3 l.length cp3) := cellB hg3 0 rfl
          have bl : ((l.length : Int) != (l.length : Int)) = false := by simp
          have hLn := fun n => Len_tb dt l (w6.drewN n) (hD3.tab.below (below_drewN (Below.refl _ _) n))
          go_wp2_with fail
          go_quiet (first | (go_at_call 17; exact Calls.quiet_of_same (hLn _)))
          have hD4 := hD3.call (below_drewN (Below.refl _ _) nq)
          clear t3 hLn
          go_wp2
          exact ⟨⟨k + 1, dt, dr, l, by omega, by omega, by go_num, rfl, rfl, hD4⟩, by simp [intOf]; omega⟩
        · have b4 : (x.kind % 5 == 4) = false := by simp [h4]
          go_wp2_with fail
          refine (step_any w ct cr l x wr hD hxa (by omega)).mono ?_
          rintro e w3 ⟨rfl, l3, hD3⟩
          clear c0 c1 c2 c3 c4
          obtain ⟨_, a3, cp3, hg3, hl3⟩ := id hD3.ref
          have t3 : w3.cell? ⟨cr, 0, none⟩ = some (.slice a3 l3.length cp3) := cellB hg3 0 rfl
          have bl : ((l3.length : Int) != (l3.length : Int)) = false := by simp
          have hLn := fun n => Len_tb ct l3 (w3.drewN n) (hD3.tab.below (below_drewN (Below.refl _ _) n))
          go_wp2_with fail
          go_quiet (first | (go_at_call 17; exact Calls.quiet_of_same (hLn _)))
          have hD4 := hD3.call (below_drewN (Below.refl _ _) nq)
          clear t3 hLn
          go_wp2
          exact ⟨⟨k + 1, ct, cr, l3, by omega, by omega, by go_num, rfl, rfl, hD4⟩, by simp [intOf]; omega⟩
    · have hstop : Hid (((k : Int) < (A.length : Int) ∧ ¬ (k : Int) < 100) ∨ ¬ (k : Int) < (A.length : Int)) := by
        by_cases h1 : k < A.length
        · exact Or.inl ⟨by omega, by omega⟩
        · exact Or.inr (by omega)
      clear hgo
      have hTl := hD.tab.1.len
      obtain ⟨_, a3, cp3, hg3, hl3⟩ := id hD.ref
      have t0 : wr.cell? ⟨cr, 0, none⟩ = some (.slice a3 l.length cp3) := cellB hg3 0 rfl
      rcases hstop.out with ⟨g1, g2⟩ | g1
      all_goals
        clear hstop
        go_wp2_with fail
        go_region_law (first
          | (go_simp; go_at_call 19; refine (Rows_all ct l wr.drew hD.drew.tab).mono ?_; rintro e w2 ⟨g2, rfl, ho2, hb2⟩; have t2 : w2.cell? ⟨cr, 0, none⟩ = some (.slice a3 l.length cp3) := (hb2.cell (p := ⟨cr, 0, none⟩) hD.drew.ref.lt).trans t0; have HO2 := hide ho2; have HB2 := hide hb2; clear ho2 hb2)
          | (go_simp; go_at_call 18; refine (sameRows_any _ _ _ _ l w2 (RL.of_own HO2.out).lies ((hl3.below (Below.refl _ _).drew).below HB2.out).lies (by omega)).mono ?_; rintro e w3 ⟨rfl, hb3⟩; have HB3 := hide (HB2.out.trans (hb3.mono HB2.out.size)); clear hb3)
          | (go_simp; go_at_call 10; refine (works_tb w3).mono ?_; rintro e w4 ⟨rfl, hb4⟩; have HB4 := hide (HB3.out.trans (hb4.mono HB3.out.size)); clear hb4))
        all_goals
          have hB5 := hD.drew.bel.trans (HB4.out.mono hD.drew.bel.size)
          go_wp2
          go_ret
          exact ⟨rfl, hB5⟩

end Go.Proofs.Ythdempdiibjabaa.Tr
