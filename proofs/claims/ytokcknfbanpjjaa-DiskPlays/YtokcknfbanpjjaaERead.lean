/- Walks over skylarkref02: Read, Fuse, New. -/
import Derived.Test.YtokcknfbanpjjaaEKnown
namespace Go.Proofs.Ytokcknfbanpjjaa.Dk
open Go.RowKit Go.Maps Go.Joins

set_option maxHeartbeats 800000 in
theorem rRead_any {own : Nat → Prop} {br : Nat} {S : St} (w : World) (h : RHeld w own br S) (s : ByteArray) (hs : s.size ≤ 140737488351232) :
    Calls Try.prog 21 #[.pointer (some ⟨br, 0, none⟩), .string s] w fun e w' => e = .returned (.tuple #[.string (txt (S.read s.data.toList).1), .int .i64 (S.read s.data.toList).2]) ∧ Below w.heap.size w w' := by
  obtain ⟨v, fused, left, hL, _, hok⟩ := h
  have hK := known_any w hL hok.many hok.rising s hs
  obtain ⟨k, d, sf, cd, hv, hd⟩ : ∃ (k d : ByteArray) (sf cd : Nat), knownV S.files s.data.toList = .tuple #[RV3 k d sf, .int .i64 cd] ∧ txt (S.read s.data.toList).1 = d ∧ (S.read s.data.toList).2 = cd := by
    cases hnm : named s.data.toList
    · exact ⟨⟨#[]⟩, ⟨#[]⟩, 0, 20, by simp [knownV, hnm], by simp [St.read, hnm, txt], by simp [St.read, hnm]⟩
    · cases hg : getL s.data.toList S.files with
      | none => exact ⟨⟨#[]⟩, ⟨#[]⟩, 0, 5, by simp [knownV, hnm, hg], by simp [St.read, hnm, hg, txt], by simp [St.read, hnm, hg]⟩
      | some f => exact ⟨txt s.data.toList, txt f.data, f.safe, 0, by simp [knownV, hnm, hg], by simp [St.read, hnm, hg], by simp [St.read, hnm, hg]⟩
  rw [hv] at hK
  rw [hd.1, hd.2]
  clear hv hd
  go_enter Try.func21, Try.ntmps21
  go_wp2_with fail
  refine hK.mono ?_
  rintro e w1 ⟨rfl, hb1⟩
  clear hK
  have hz1 := hb1.size
  go_wp2
  go_ret2
  exact ⟨rfl, hb1.alloc hz1 _⟩

set_option maxHeartbeats 800000 in
theorem rFuse_any {own : Nat → Prop} {br : Nat} {S : St} (w : World) (h : RHeld w own br S) (n : Int) (n0 : -9223372036854775808 ≤ n) (n1 : n ≤ 9223372036854775807) :
    Calls Try.prog 23 #[.pointer (some ⟨br, 0, none⟩), .int .i64 n] w fun e w' => e = .returned (.int .i64 (S.light n).1) ∧ RHeld w' own br (S.light n).2 ∧ Only own w w' := by
  obtain ⟨v, fused, left, hL, hF, hok⟩ := h
  have hok' := hok.light n n1
  by_cases h0 : n < 0
  · have hv : S.light n = (1, S) := by simp [St.light, h0]
    rw [hv]
    go_enter Try.func23, Try.ntmps23
    go_wp2
    go_ret
    exact ⟨rfl, ⟨v, fused, left, hL, hF, hok⟩, Only.refl _ _⟩
  · have hv : S.light n = (0, { S with fuse := n }) := by simp [St.light, h0]
    rw [hv] at hok' ⊢
    have c2 := hL.c2
    have c3 := hL.c3
    have z2 := hL.fz 2
    have z3 := hL.fz 3
    go_enter Try.func23, Try.ntmps23
    go_wp2
    go_ret
    refine ⟨rfl, ⟨v, true, n, ?_, ⟨by simp, fun _ => by omega, n0, n1⟩, hok'⟩, (Only.of_set w hL.ownD _).trans (Only.of_set _ hL.ownD _)⟩
    exact (hL.set (i := 2) (u := .bool true) (fused' := true) (left' := left) (down' := S.down) rfl).set (i := 3) (u := .int .i64 n) (fused' := true) (left' := n) (down' := S.down) rfl

set_option maxHeartbeats 800000 in
theorem rNew_bad (room : Int) (w : World) (h : room < 0 ∨ 262144 < room) : Calls Try.prog 5 #[.int .i64 room] w fun e w' => e = .returned (.tuple #[.pointer none, .int .i64 1]) ∧ w' = w := by
  go_enter Try.func5, Try.ntmps5
  go_wp2
  all_goals
    go_ret2
    exact ⟨rfl, rfl⟩

set_option maxHeartbeats 800000 in
theorem rNew_ok (room : Nat) (w : World) (h : room ≤ 262144) : Calls Try.prog 5 #[.int .i64 room] w fun e w' => ∃ br, e = .returned (.tuple #[.pointer (some ⟨br, 0, none⟩), .int .i64 0]) ∧ RHeld w' (fun b => w.heap.size ≤ b) br (St.new room) ∧ Below w.heap.size w w' := by
  have h0 : (0 : Int) ≤ (room : Int) := by omega
  have h1 : (room : Int) ≤ 262144 := by omega
  go_enter Try.func5, Try.ntmps5
  go_wp2
  go_ret2
  refine ⟨w.heap.size, rfl, ⟨.slice none 0 0, false, 0, ⟨?_, World.ownsRow_nil _ _ _ _, by simp, by simp [Value.ownBlock]⟩, ⟨by simp [St.new], by simp, by omega, by omega⟩, St.new_ok h⟩, below_alloc1 _ _⟩
  exact heap_alloc_new w _

end Go.Proofs.Ytokcknfbanpjjaa.Dk
