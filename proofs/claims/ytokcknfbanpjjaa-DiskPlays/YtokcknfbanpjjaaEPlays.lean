/- DiskPlays: a disk of any room under any calls, any fuse and any crashes answers, call by call, as the document has it, and has the same files behind each. Proved: for every room and every list of calls, no condition. -/
import Derived.Test.YtokcknfbanpjjaaESame
namespace Go.Proofs.Ytokcknfbanpjjaa.Dk
open Go.RowKit Go.Maps Go.Joins Gk

set_option maxHeartbeats 6400000 in
set_option maxRecDepth 100000 in
theorem plays_law (room : Int) (a : Option Addr) (cap : Nat) (ac : List ActV) (w : World) (wf : (Lit.int .i64 room).wf = true) (hl : ActsAt w a ac) :
    Calls Try.prog 3 #[.int .i64 room, .slice a ac.length cap] w fun e w' => e = .returned (.bool true) ∧ Below w.heap.size w w' := by
  have hnb := bounds_i64 wf
  have hmx := hl.many
  by_cases hbad : room < 0 ∨ 262144 < room
  · have h1 := fun W => new_bad room W hbad
    have h2 := fun W => rNew_bad room W hbad
    go_enter Try.func3, Try.ntmps3
    go_wp2_with (first | (go_at_call 4; refine (h1 _).mono ?_; rintro e w1 ⟨rfl, rfl⟩) | (go_at_call 5; refine (h2 _).mono ?_; rintro e w2 ⟨rfl, rfl⟩))
    go_loopw [9] (fun i wr => i = .int .i64 0 ∧ wr = w2) (fun _ _ => 0)
    case atStart => exact ⟨rfl, rfl⟩
    case round =>
      obtain ⟨rfl, rfl⟩ := hrel
      go_wp2_with (first | (go_at_call 8; refine (works_any _).mono ?_; rintro e w3 ⟨rfl, hb3⟩))
      go_ret
      exact ⟨rfl, hb3⟩
  · obtain ⟨m, rfl⟩ : ∃ m : Nat, room = (m : Int) := ⟨room.toNat, by omega⟩
    have hm : m ≤ 262144 := by omega
    clear hbad
    go_enter Try.func3, Try.ntmps3
    go_wp2_with fail
    refine (new_ok m w hm).mono ?_
    rintro e w1 ⟨bd, rfl, hD1, hb1⟩
    go_wp2_with fail
    refine (rNew_ok m w1 hm).mono ?_
    rintro e w2 ⟨br, rfl, hR2, hb2⟩
    have hz1 := hb1.size
    have hz2 := hb2.size
    have hbw : Below w.heap.size w w2 := hb1.trans (hb2.mono hz1)
    have hduo : Duo w w2 bd br (St.new m) (St.new m) := by
      refine ⟨fun b => w.heap.size ≤ b ∧ b < w1.heap.size, fun b => w1.heap.size ≤ b ∧ b < w2.heap.size, ⟨(hD1.own fun b hb ho => ⟨ho, hb⟩).below hb2, hR2.owns fun b hb ho => ⟨ho, hb⟩, hbw, fun b hb => ⟨hb.1, by omega⟩, fun b hb => ⟨by omega, hb.2⟩, fun b h1 h2 => by omega⟩⟩
    clear hD1 hR2 hb1 hb2
    go_wp2
    go_loopw [9] (fun i wr => ∃ (k : Nat) (S : St), k ≤ ac.length ∧ k ≤ 200 ∧ i = .int .i64 k ∧ Duo w wr bd br S S) (fun i _ => 200 - (intOf i).toNat)
    case atStart => exact ⟨0, _, by omega, by omega, rfl, hduo⟩
    case round =>
      obtain ⟨k, S, hk, hk1, rfl, hd⟩ := hrel
      have hbel := hd.below
      clear hduo hbw
      by_cases hlt : k < ac.length ∧ k < 200
      · obtain ⟨hlt1, hlt2⟩ := hlt
        have j1 : (k : Int) < (ac.length : Int) := by omega
        have j2 : (k : Int) < 200 := by omega
        have j0 : (0 : Int) ≤ (k : Int) := by omega
        obtain ⟨b, off, rfl, d0, d1, d2, d3, d4⟩ := hl.lies.at k hlt1 hbel
        obtain ⟨hx1, hx2⟩ := hl.each ac[k] (List.getElem_mem hlt1)
        have hSt := step_any hd ac[k] hx1 hx2
        generalize ac[k] = x at *
        clear hx1 hx2 hd hl
        go_wp2_with fail
        refine hSt.mono ?_
        rintro e w3 ⟨rfl, S', hd3⟩
        clear hSt d0 d1 d2 d3 d4 hbel
        go_wp2_with fail
        refine (same_any hd3).mono ?_
        rintro e w4 ⟨rfl, hd4⟩
        clear hd3
        go_wp2
        go_roundw
        case rel => exact ⟨k + 1, S', by omega, by omega, by go_num, hd4⟩
        case measure => simp [intOf]; omega
      · by_cases hl1 : (k : Int) < (ac.length : Int)
        · have hl3 : ¬ (k : Int) < 200 := fun h => hlt ⟨by omega, by omega⟩
          go_wp2_with (first | (go_at_call 8; refine (works_any _).mono ?_; rintro e w3 ⟨rfl, hb3⟩))
          go_ret
          exact ⟨rfl, hbel.trans (hb3.mono hbel.size)⟩
        · go_wp2_with (first | (go_at_call 8; refine (works_any _).mono ?_; rintro e w3 ⟨rfl, hb3⟩))
          go_ret
          exact ⟨rfl, hbel.trans (hb3.mono hbel.size)⟩

end Go.Proofs.Ytokcknfbanpjjaa.Dk
