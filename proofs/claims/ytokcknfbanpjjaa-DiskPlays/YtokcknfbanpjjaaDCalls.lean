/- The calls that only read, of a disk as it is; what the laws use besides. -/
import Derived.Test.YtokcknfbanpjjaaDAppend
import Derived.Test.YtokcknfbanpjjaaDRename
import Derived.Test.YtokcknfbanpjjaaDNew
import Derived.Test.YtokcknfbanpjjaaDCrash
namespace Go.Proofs.Ytokcknfbanpjjaa.Dk
open Go.RowKit Go.Maps Go.Joins

def txt (k : Bs) : ByteArray := ⟨k.toArray⟩
theorem txt_list (k : Bs) : (txt k).data.toList = k := by simp [txt]
def namesOf (l : Fls) : List ByteArray := l.map fun p => txt p.1

theorem used_held {own : Nat → Prop} {bd : Nat} {S : St} (w : World) (h : Held w own bd S) :
    Calls Try.prog 29 #[.pointer (some ⟨bd, 0, none⟩)] w fun e w' => e = .returned (.int .i64 (used S.files : Nat)) ∧ Below w.heap.size w w' := by
  obtain ⟨bm, l, hL, hfl, hok⟩ := h
  have hs : sumL (fun x => x.2.data.length) l ≤ 262144 := by rw [← used_strip, ← hfl]; exact Nat.le_trans hok.sum hok.room
  have := used_any w hL hs
  rw [← used_strip, ← hfl] at this
  exact this
theorem names_held {own : Nat → Prop} {bd : Nat} {S : St} (w : World) (h : Held w own bd S) :
    Calls Try.prog 26 #[.pointer (some ⟨bd, 0, none⟩)] w fun e w' => ∃ v, e = .returned v ∧ w'.ownsRow w.heap.size 9 1 v (namesOf S.files).length (tcells (namesOf S.files)) ∧ Below w.heap.size w w' := by
  obtain ⟨bm, l, hL, hfl, hok⟩ := h
  have hn : l.length ≤ 64 := by have := hok.many; rw [hfl, List.length_map] at this; exact this
  have := names_any w hL.base hn (fun p hp => (hok.each (p.1, p.2.2) (by rw [hfl]; exact List.mem_map.2 ⟨p, hp, rfl⟩)).1)
  have e : nms l = namesOf S.files := by rw [hfl, namesOf, List.map_map]; rfl
  rw [e] at this
  exact this

/-- what was made since is owned -/
abbrev since (B : Nat) : Nat → Prop := fun b => B ≤ b
theorem fresh_since {B : Nat} {w : World} (h : B ≤ w.heap.size) : Fresh (since B) w := fun _ hb => Nat.le_trans h hb
theorem Only.since {B : Nat} {own : Nat → Prop} {w w' : World} (h : Only own w w') (hB : B ≤ w.heap.size) (ho : ∀ b, own b → B ≤ b) : Below B w w' := h.below hB ho
/-- the disk as it is now, apart from what comes -/
theorem Held.now {w : World} {own : Nat → Prop} {bd : Nat} {S : St} (h : Held w own bd S) : Held w (fun b => own b ∧ b < w.heap.size) bd S := h.own fun _ hb ho => ⟨ho, hb⟩

end Go.Proofs.Ytokcknfbanpjjaa.Dk
