/- Disks that are up, without a fuse. -/
import Derived.Test.YtmgamfenbbcfhaaDActs
namespace Go.Proofs.Ytmgamfenbbcfhaa.Dk
open Go.RowKit Go.Maps Go.Joins

structure St.Up (S : St) (room : Nat) : Prop where
  fuse : S.fuse = -1
  down : S.down = false
  room : S.room = room
theorem St.Up.take {S : St} {r : Nat} (h : S.Up r) : S.take = (true, S) := by
  obtain ⟨room, files, fuse, down⟩ := S
  have h1 := h.fuse; have h2 := h.down
  simp only at h1 h2
  subst h1 h2
  rfl
theorem St.Up.do {S : St} {r : Nat} (h : S.Up r) (g : Fls → Fls) : S.do g = (0, { S with files := g S.files }) := by
  unfold St.do; rw [h.take]; rfl
theorem St.Up.with {S : St} {r : Nat} (h : S.Up r) (l : Fls) : ({ S with files := l } : St).Up r := ⟨h.fuse, h.down, h.room⟩
theorem St.Up.append {S : St} {r : Nat} (h : S.Up r) (k d : Bs) : (S.append k d).2.Up r := by
  unfold St.append; split
  · exact h
  · split
    · exact h
    · rw [h.do]; exact h.with _
theorem St.Up.cut {S : St} {r : Nat} (h : S.Up r) (k : Bs) (n : Int) : (S.cut k n).2.Up r := by
  unfold St.cut; split
  · exact h
  · split
    · exact h
    · split
      · exact h
      · rw [h.do]; exact h.with _
theorem St.Up.sync {S : St} {r : Nat} (h : S.Up r) : S.sync.2.Up r := by unfold St.sync; rw [h.do]; exact h.with _
theorem St.Up.rename {S : St} {r : Nat} (h : S.Up r) (a b : Bs) : (S.rename a b).2.Up r := by
  unfold St.rename; split
  · exact h
  · split
    · exact h
    · rw [h.do]; exact h.with _
theorem St.Up.remove {S : St} {r : Nat} (h : S.Up r) (k : Bs) : (S.remove k).2.Up r := by
  unfold St.remove; split
  · exact h
  · split
    · exact h
    · rw [h.do]; exact h.with _
theorem stepG_up {S : St} {r : Nat} (h : S.Up r) (x : ActV) : (stepG S x).Up r := by
  unfold stepG
  split
  · exact h.append _ _
  · split
    · exact h.cut _ _
    · split
      · exact h.sync
      · split
        · exact h.rename _ _
        · exact h.remove _
theorem fold_up {r : Nat} : ∀ (l : List ActV) (S : St), S.Up r → (l.foldl stepG S).Up r
  | [], _, h => h
  | x :: l, S, h => by rw [List.foldl_cons]; exact fold_up l _ (stepG_up h x)
theorem grownS_up (room : Nat) (ac : List ActV) (i : Nat) : (grownS room ac i).Up room := fold_up _ _ ⟨rfl, rfl, rfl⟩

/-- all bytes of all files are safe: a crash leaves them -/
theorem crash_all_safe : ∀ (l : Fls) (ds : List Int), (∀ p ∈ l, p.2.data.length = p.2.safe) → crashL l ds = l
  | [], _, _ => rfl
  | p :: r, ds, h => by
    unfold crashL
    rw [if_pos (h p (List.mem_cons_self ..)), crash_all_safe r ds fun q hq => h q (List.mem_cons_of_mem _ hq)]
theorem sync_safe (l : Fls) : ∀ p ∈ syncL l, p.2.data.length = p.2.safe := by
  intro p hp
  simp only [syncL, List.mem_map] at hp
  obtain ⟨q, _, rfl⟩ := hp
  rfl
theorem allOf_sync (l : Fls) : allOf (syncL l) = allOf l := by
  induction l with
  | nil => rfl
  | cons p r ih => simp only [allOf, syncL, List.map_cons, List.flatMap_cons] at *; rw [ih]
theorem crash_safe_all : ∀ (l : Fls) (ds : List Int), (∀ p ∈ l, p.2.safe ≤ p.2.data.length) → ∀ p ∈ crashL l ds, p.2.data.length = p.2.safe
  | [], _, _ => by simp [crashL]
  | q :: r, ds, h => by
    have h0 := h q (List.mem_cons_self ..)
    have hr := fun x hx => h x (List.mem_cons_of_mem _ hx)
    intro p hp
    unfold crashL at hp
    split at hp
    · rename_i e
      rcases List.mem_cons.1 hp with rfl | hp
      · exact e
      · exact crash_safe_all r ds hr p hp
    · rcases List.mem_cons.1 hp with rfl | hp
      · have := keptOf_le (ds.headD 0) (q.2.data.length - q.2.safe)
        simp only [tornF, List.length_take]; omega
      · exact crash_safe_all r ds.tail hr p hp

theorem LiesT.only {w w' : World} {own : Nat → Prop} {a : Option Addr} {ts : List ByteArray} (h : LiesT w a ts) (hno : ∀ b off, a = some ⟨b, off, none⟩ → ¬ own b) (ho : Only own w w') : LiesT w' a ts := by
  rcases h with rfl | ⟨b, off, rfl, hlt, hl⟩
  · exact Or.inl rfl
  · exact Or.inr ⟨b, off, rfl, Nat.lt_of_lt_of_le hlt ho.size, fun i hi => (World.cell?_of_block (a := ⟨b, off + i, none⟩) (ho.block b hlt (hno b off rfl))).trans (hl i hi)⟩
/-- the disk as it is, and what comes: but nothing of what came since w -/
abbrev renew (own : Nat → Prop) (m n : Nat) : Nat → Prop := fun b => (own b ∧ b < m) ∨ n ≤ b
theorem Held.renew {w w' : World} {own : Nat → Prop} {bd : Nat} {S : St} (h : Held w own bd S) (hb : Below w.heap.size w w') : Held w' (renew own w.heap.size w'.heap.size) bd S :=
  (h.now.below hb).own fun _ _ ho => Or.inl ho
theorem fresh_renew {own : Nat → Prop} {m : Nat} {w w' : World} (h : w.heap.size ≤ w'.heap.size) : Fresh (renew own m w.heap.size) w' := fun _ hb => Or.inr (Nat.le_trans h hb)
theorem row_not {w w' : World} {B e n : Nat} {a : Option Addr} {c : Nat} {xs : List Value} {own : Nat → Prop} (h : w'.ownsRow w.heap.size e 1 (.slice a n c) n xs) (_ : B ≤ w.heap.size) : ∀ b off, a = some ⟨b, off, none⟩ → ¬ renew own w.heap.size w'.heap.size b := by
  rintro b off rfl (⟨_, h1⟩ | h1)
  · have := (h.lt b rfl).1; omega
  · have := (h.lt b rfl).2; omega

end Go.Proofs.Ytmgamfenbbcfhaa.Dk
