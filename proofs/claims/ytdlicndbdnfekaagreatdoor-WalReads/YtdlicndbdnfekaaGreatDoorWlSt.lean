/- A log's segments on a disk, in plain mathematics: what the disk's calls do to them. -/
import Derived.Test.YtdlicndbdnfekaaGreatDoorWlPure
import Derived.Test.YtdlicndbdnfekaaGreatDoorDTwo
namespace Go.Proofs.YtdlicndbdnfekaaGreatDoor.Wl
open Go.Proofs.YtdlicndbdnfekaaGreatDoor.Dk (Bs named Fil Fls St St.Ok getL putL delL Rising getL_of_mem getL_some getL_none mem_putL mem_delL getL_put syncL crashL tornF keptOf keptOf_le fileOr used)

/-! lists by keys -/
theorem getL_put_ne {α : Type} {l : List (Bs × α)} (hr : Rising l) {k k' : Bs} {a : α} (h : k' ≠ k) : getL k' (putL k a l) = getL k' l := by
  cases hg : getL k' l with
  | some b => exact getL_of_mem hr.put (mem_putL.2 (Or.inr ⟨getL_some hg, h⟩))
  | none =>
    cases hp : getL k' (putL k a l) with
    | none => rfl
    | some b =>
      rcases mem_putL.1 (getL_some hp) with e | ⟨h1, _⟩
      · cases e; exact absurd rfl h
      · exact absurd rfl (getL_none hg _ h1)
theorem getL_del_ne {α : Type} {l : List (Bs × α)} (hr : Rising l) {k k' : Bs} (h : k' ≠ k) : getL k' (delL k l) = getL k' l := by
  cases hg : getL k' l with
  | some b => exact getL_of_mem hr.del (mem_delL.2 ⟨getL_some hg, h⟩)
  | none =>
    cases hp : getL k' (delL k l) with
    | none => rfl
    | some b => exact absurd rfl (getL_none hg _ (mem_delL.1 (getL_some hp)).1)
theorem getL_sync (k : Bs) (l : Fls) : getL k (syncL l) = (getL k l).map fun f => ⟨f.data, f.data.length⟩ := Dk.getL_map (fun f : Fil => (⟨f.data, f.data.length⟩ : Fil)) k l
theorem getL_crash (k : Bs) : ∀ (l : Fls) (ds : List Int) (f : Fil), getL k l = some f → f.safe ≤ f.data.length → ∃ m, f.safe ≤ m ∧ m ≤ f.data.length ∧ getL k (crashL l ds) = some ⟨f.data.take m, m⟩
  | [], _, _, h, _ => by simp [getL] at h
  | p :: r, ds, f, h, hs => by
    unfold crashL
    by_cases hk : (p.1 == k) = true
    · have e : p.2 = f := by simpa [getL, List.find?_cons, hk] using h
      subst e
      split
      · rename_i e
        refine ⟨p.2.data.length, by omega, Nat.le_refl _, ?_⟩
        have : p.2 = ⟨p.2.data.take p.2.data.length, p.2.data.length⟩ := by
          rw [List.take_length]; cases hp : p.2 with | mk d s => simp only [hp] at e; simp only [e]
        simp only [getL, List.find?_cons, hk, Option.map_some]; rw [← this]
      · have := keptOf_le (ds.headD 0) (p.2.data.length - p.2.safe)
        exact ⟨p.2.safe + keptOf (ds.headD 0) (p.2.data.length - p.2.safe), by omega, by omega, by simp only [getL, List.find?_cons, hk, Option.map_some]; rfl⟩
    · have hk' : (p.1 == k) = false := by simpa using hk
      have h' : getL k r = some f := by simpa [getL, List.find?_cons, hk'] using h
      split
      · obtain ⟨m, h1, h2, h3⟩ := getL_crash k r ds f h' hs
        exact ⟨m, h1, h2, by simpa [getL, List.find?_cons, hk'] using h3⟩
      · obtain ⟨m, h1, h2, h3⟩ := getL_crash k r ds.tail f h' hs
        exact ⟨m, h1, h2, by simpa [getL, List.find?_cons, hk'] using h3⟩
theorem crash_keys : ∀ (l : Fls) (ds : List Int) (p : Bs × Fil), p ∈ crashL l ds → ∃ q ∈ l, p.1 = q.1
  | [], _, _, h => by simp [crashL] at h
  | q :: r, ds, p, h => by
    unfold crashL at h
    split at h
    · rcases List.mem_cons.1 h with rfl | h
      · exact ⟨p, List.mem_cons_self .., rfl⟩
      · obtain ⟨x, hx, e⟩ := crash_keys r _ p h
        exact ⟨x, List.mem_cons_of_mem _ hx, e⟩
    · rcases List.mem_cons.1 h with rfl | h
      · exact ⟨q, List.mem_cons_self .., rfl⟩
      · obtain ⟨x, hx, e⟩ := crash_keys r _ p h
        exact ⟨x, List.mem_cons_of_mem _ hx, e⟩

/-! segments -/
structure Sg where
  first : Nat
  recs : List Rec
  tl : Bs
  safe : Nat
def Sg.bytes (s : Sg) : Nat := (frs s.first s.recs).length
def Sg.data (s : Sg) : Bs := frs s.first s.recs ++ s.tl
def Sg.fil (s : Sg) : Fil := ⟨s.data, s.safe⟩
/-- the number behind its last record -/
def Sg.last (s : Sg) : Nat := s.first + s.recs.length
/-- each begins where the one ahead ends -/
def Chain : Nat → List Sg → Nat → Prop
  | n, [], m => n = m
  | n, s :: l, m => s.first = n ∧ Chain s.last l m
theorem chain_append : ∀ (a b : List Sg) (n m : Nat), Chain n (a ++ b) m ↔ ∃ k, Chain n a k ∧ Chain k b m
  | [], b, n, m => ⟨fun h => ⟨n, rfl, h⟩, fun ⟨k, e, h⟩ => by have e' : n = k := e; subst e'; exact h⟩
  | s :: a, b, n, m => by
    simp only [List.cons_append, Chain, chain_append a b]
    constructor
    · rintro ⟨h, k, h1, h2⟩; exact ⟨k, ⟨h, h1⟩, h2⟩
    · rintro ⟨k, ⟨h, h1⟩, h2⟩; exact ⟨h, k, h1, h2⟩
theorem chain_snoc {a : List Sg} {s : Sg} {n m : Nat} : Chain n (a ++ [s]) m ↔ Chain n a s.first ∧ s.last = m := by
  rw [chain_append]
  constructor
  · rintro ⟨k, h1, h2, h3⟩; exact ⟨h2 ▸ h1, h3⟩
  · rintro ⟨h1, h2⟩; exact ⟨_, h1, rfl, h2⟩
theorem Chain.le : ∀ {l : List Sg} {n m : Nat}, Chain n l m → n ≤ m
  | [], _, _, h => Nat.le_of_eq h
  | s :: l, n, m, h => by have := Chain.le h.2; have := h.1; unfold Sg.last at *; omega
theorem Chain.sum : ∀ {l : List Sg} {n m : Nat}, Chain n l m → n + (l.flatMap (·.recs)).length = m
  | [], _, _, h => h
  | s :: l, n, m, h => by
    have h1 := Chain.sum h.2
    have := h.1
    unfold Sg.last at h1
    rw [List.flatMap_cons, List.length_append]; omega

theorem Chain.last_le : ∀ {l : List Sg} {n m : Nat}, Chain n l m → ∀ s ∈ l, s.last ≤ m
  | [], _, _, _, _, hs => by simp at hs
  | t :: l, n, m, h, s, hs => by
    rcases List.mem_cons.1 hs with rfl | hs
    · exact Chain.le h.2
    · exact Chain.last_le h.2 s hs

/-- what may be a log from n to m: all but the last segment are whole, safe, and have a record -/
structure Lg (l : List Sg) (n m : Nat) : Prop where
  chain : Chain n l m
  full : ∀ s ∈ l.dropLast, s.recs ≠ [] ∧ s.tl = [] ∧ s.safe = s.data.length
  may : ∀ s ∈ l, ∀ r ∈ s.recs, r.may
  torn : ∀ s ∈ l, Torn s.tl
  safe : ∀ s ∈ l, s.safe ≤ s.data.length
theorem Lg.nil (n : Nat) : Lg [] n n := ⟨rfl, by simp, by simp, by simp, by simp⟩
theorem Lg.rise : ∀ {l : List Sg} {n m : Nat}, Lg l n m → l.Pairwise (fun s t => s.first < t.first) ∧ ∀ s ∈ l, n ≤ s.first ∧ s.first ≤ m
  | [], _, _, _ => by simp
  | [s], n, m, h => by
    have h1 := h.chain.1
    have h2 : s.last = m := h.chain.2
    unfold Sg.last at h2
    refine ⟨by simp, fun t ht => ?_⟩
    rw [List.mem_singleton.1 ht]; omega
  | s :: t :: l, n, m, h => by
    have hs : s.recs ≠ [] := (h.full s (by simp)).1
    have hl : 0 < s.recs.length := List.length_pos_iff.2 hs
    have hrest : Lg (t :: l) s.last m := ⟨h.chain.2, fun x hx => h.full x (by rw [List.dropLast_cons_cons]; exact List.mem_cons_of_mem _ hx), fun x hx => h.may x (List.mem_cons_of_mem _ hx), fun x hx => h.torn x (List.mem_cons_of_mem _ hx), fun x hx => h.safe x (List.mem_cons_of_mem _ hx)⟩
    obtain ⟨h1, h2⟩ := Lg.rise hrest
    have h0 := h.chain.1
    unfold Sg.last at h2
    refine ⟨List.pairwise_cons.2 ⟨fun x hx => ?_, h1⟩, fun x hx => ?_⟩
    · have := (h2 x hx).1; omega
    · rcases List.mem_cons.1 hx with rfl | hx
      · have := (h2 t (List.mem_cons_self ..)); omega
      · have := h2 x hx; omega
theorem Lg.inj {l : List Sg} {n m : Nat} (h : Lg l n m) {s t : Sg} (hs : s ∈ l) (ht : t ∈ l) (e : s.first = t.first) : s = t := by
  have := h.rise.1
  rcases List.mem_iff_getElem.1 hs with ⟨i, hi, rfl⟩
  rcases List.mem_iff_getElem.1 ht with ⟨j, hj, rfl⟩
  rw [List.pairwise_iff_getElem] at this
  rcases Nat.lt_trichotomy i j with hij | rfl | hij
  · have := this i j hi hj hij; omega
  · rfl
  · have := this j i hj hi hij; omega
/-- the segments ahead of the last one, and it -/
theorem Lg.snoc {a : List Sg} {s : Sg} {n m : Nat} : Lg (a ++ [s]) n m ↔ Chain n a s.first ∧ s.last = m ∧ (∀ t ∈ a, t.recs ≠ [] ∧ t.tl = [] ∧ t.safe = t.data.length) ∧ (∀ t ∈ a, ∀ r ∈ t.recs, r.may) ∧ (∀ r ∈ s.recs, r.may) ∧ Torn s.tl ∧ s.safe ≤ s.data.length := by
  constructor
  · intro h
    obtain ⟨h1, h2⟩ := chain_snoc.1 h.chain
    have hf := h.full
    rw [List.dropLast_concat] at hf
    exact ⟨h1, h2, hf, fun t ht => h.may t (List.mem_append_left _ ht), h.may s (by simp), h.torn s (by simp), h.safe s (by simp)⟩
  · rintro ⟨h1, h2, h3, h4, h5, h6, h7⟩
    refine ⟨chain_snoc.2 ⟨h1, h2⟩, by rw [List.dropLast_concat]; exact h3, fun t ht => ?_, fun t ht => ?_, fun t ht => ?_⟩
    all_goals rcases List.mem_append.1 ht with ht | ht
    · exact h4 t ht
    · rw [List.mem_singleton.1 ht]; exact h5
    · rw [(h3 t ht).2.1]; exact Torn.nil
    · rw [List.mem_singleton.1 ht]; exact h6
    · exact Nat.le_of_eq (h3 t ht).2.2
    · rw [List.mem_singleton.1 ht]; exact h7
/-- without the first one -/
theorem Lg.tail {s t : Sg} {l : List Sg} {n m : Nat} (h : Lg (s :: t :: l) n m) : Lg (t :: l) s.last m :=
  ⟨h.chain.2, fun x hx => h.full x (by rw [List.dropLast_cons_cons]; exact List.mem_cons_of_mem _ hx), fun x hx => h.may x (List.mem_cons_of_mem _ hx), fun x hx => h.torn x (List.mem_cons_of_mem _ hx), fun x hx => h.safe x (List.mem_cons_of_mem _ hx)⟩
/-- where segments begin, one by one -/
theorem Chain.step : ∀ {l : List Sg} {n m : Nat}, Chain n l m → (∀ h : 0 < l.length, l[0].first = n) ∧ (∀ i (h : i + 1 < l.length), l[i + 1].first = l[i].last) ∧ (∀ h : 0 < l.length, (l[l.length - 1]).last = m)
  | [], _, _, _ => ⟨by simp, by simp, by simp⟩
  | [s], n, m, h => ⟨fun _ => h.1, by simp, fun _ => h.2⟩
  | s :: t :: l, n, m, h => by
    obtain ⟨h1, h2, h3⟩ := Chain.step (l := t :: l) h.2
    refine ⟨fun _ => h.1, fun i hi => ?_, fun _ => ?_⟩
    · cases i with
      | zero => exact h1 (by simp)
      | succ i => exact h2 i (by simpa using hi)
    · have := h3 (by simp)
      simpa using this

/-- they are what a disk has -/
structure On (S : St) (l : List Sg) : Prop where
  has : ∀ s ∈ l, getL (nm s.first) S.files = some s.fil
  all : ∀ p ∈ S.files, ∃ s ∈ l, p.1 = nm s.first
theorem On.read {S : St} {l : List Sg} (h : On S l) {s : Sg} (hs : s ∈ l) (hn : s.first ≤ 1048577) : S.read (nm s.first) = (s.data, 0) := by
  unfold St.read
  rw [if_neg (by simp [nm_named hn]), h.has s hs]; rfl
theorem On.files {S S' : St} {l : List Sg} (h : On S l) (e : S'.files = S.files) : On S' l := ⟨fun s hs => by rw [e]; exact h.has s hs, fun p hp => h.all p (by rw [← e]; exact hp)⟩
theorem do_no {S : St} {g : Fls → Fls} (h : (S.do g).1 ≠ 0) : (S.do g).2.files = S.files ∧ (S.do g).1 = 21 ∧ (S.do g).2.room = S.room := by
  unfold St.do at h ⊢
  split at h
  · exact absurd rfl h
  · rename_i h1; rw [if_neg h1]; exact ⟨rfl, rfl, rfl⟩
theorem do_yes {S : St} {g : Fls → Fls} (h : (S.do g).1 = 0) : (S.do g).2.files = g S.files ∧ (S.do g).2.room = S.room := by
  unfold St.do at h ⊢
  split at h
  · rename_i h1; rw [if_pos h1]; exact ⟨rfl, rfl⟩
  · exact absurd h (by simp)
theorem sync_no {S : St} (h : S.sync.1 ≠ 0) : S.sync.2.files = S.files ∧ S.sync.1 = 21 := ⟨(do_no h).1, (do_no h).2.1⟩
theorem append_no {S : St} {k d : Bs} (hn : named k = true) (h : (S.append k d).1 ≠ 0) : (S.append k d).2.files = S.files ∧ ((S.append k d).1 = 21 ∨ (S.append k d).1 = 22 ∧ (S.append k d).2 = S) := by
  unfold St.append at h ⊢
  rw [if_neg (by simp [hn])] at h ⊢
  split at h
  · rename_i h1; rw [if_pos h1]; exact ⟨rfl, Or.inr ⟨rfl, rfl⟩⟩
  · rename_i h1; rw [if_neg h1]; exact ⟨(do_no h).1, Or.inl (do_no h).2.1⟩
theorem append_yes {S : St} {k d : Bs} (hn : named k = true) (h : (S.append k d).1 = 0) : (S.append k d).2.files = putL k ⟨(fileOr k S.files).data ++ d, (fileOr k S.files).safe⟩ S.files := by
  unfold St.append at h ⊢
  rw [if_neg (by simp [hn])] at h ⊢
  split at h
  · exact absurd h (by simp)
  · rename_i h1; rw [if_neg h1]; exact (do_yes h).1
def syncd (s : Sg) : Sg := { s with safe := s.data.length }
theorem On.sync {S : St} {l : List Sg} (h : On S l) (h0 : S.sync.1 = 0) : On S.sync.2 (l.map syncd) := by
  have e : S.sync.2.files = syncL S.files := (do_yes h0).1
  constructor
  · intro s hs
    obtain ⟨t, ht, rfl⟩ := List.mem_map.1 hs
    rw [e, getL_sync]
    show (getL (nm t.first) S.files).map _ = _
    rw [h.has t ht]; rfl
  · intro p hp
    rw [e] at hp
    obtain ⟨q, hq, rfl⟩ := List.mem_map.1 hp
    obtain ⟨s, hs, e⟩ := h.all q hq
    exact ⟨syncd s, List.mem_map.2 ⟨s, hs, rfl⟩, e⟩
/-- a record more in the last segment -/
theorem On.more {S : St} {a : List Sg} {s : Sg} {n m : Nat} (hr : Rising S.files) (h : On S (a ++ [s])) (hl : Lg (a ++ [s]) n m) (ht : s.tl = []) (hn : s.first ≤ 1048577) (r : Rec) (h0 : (S.append (nm s.first) (fr m r)).1 = 0) :
    On (S.append (nm s.first) (fr m r)).2 (a ++ [{ s with recs := s.recs ++ [r] }]) := by
  have e := append_yes (nm_named hn) h0
  have hf : fileOr (nm s.first) S.files = s.fil := by unfold fileOr; rw [h.has s (by simp)]; rfl
  have hm : s.first + s.recs.length = m := (Lg.snoc.1 hl).2.1
  rw [hf] at e
  constructor
  · intro t ht'
    rw [e]
    rcases List.mem_append.1 ht' with ht' | ht'
    · have hne : nm t.first ≠ nm s.first := fun e => by
        have := hl.rise.1
        rw [List.pairwise_append] at this
        have := this.2.2 t ht' s (by simp)
        have := nm_inj e; omega
      rw [getL_put_ne hr hne]; exact h.has t (List.mem_append_left _ ht')
    · rw [List.mem_singleton.1 ht']
      show getL (nm s.first) _ = _
      rw [getL_put hr]
      simp only [Sg.fil, Sg.data, ht, List.append_nil, frs_snoc, hm]
  · intro p hp
    rw [e] at hp
    rcases mem_putL.1 hp with rfl | ⟨hp, _⟩
    · exact ⟨{ s with recs := s.recs ++ [r] }, by simp, rfl⟩
    · obtain ⟨t, ht', e⟩ := h.all p hp
      rcases List.mem_append.1 ht' with ht' | ht'
      · exact ⟨t, List.mem_append_left _ ht', e⟩
      · rw [List.mem_singleton.1 ht'] at e
        exact ⟨{ s with recs := s.recs ++ [r] }, by simp, e⟩
/-- a record in a new segment -/
theorem On.new {S : St} {l : List Sg} {m : Nat} (hr : Rising S.files) (h : On S l) (hl : ∀ s ∈ l, s.first ≠ m) (hn : m ≤ 1048577) (r : Rec) (h0 : (S.append (nm m) (fr m r)).1 = 0) :
    On (S.append (nm m) (fr m r)).2 (l ++ [⟨m, [r], [], 0⟩]) := by
  have e := append_yes (nm_named hn) h0
  have hf : fileOr (nm m) S.files = ⟨[], 0⟩ := by
    unfold fileOr
    cases hg : getL (nm m) S.files with
    | none => rfl
    | some f =>
      obtain ⟨s, hs, e⟩ := h.all _ (getL_some hg)
      exact absurd (nm_inj e).symm (hl s hs)
  rw [hf] at e
  constructor
  · intro t ht'
    rw [e]
    rcases List.mem_append.1 ht' with ht' | ht'
    · rw [getL_put_ne hr (fun e => hl t ht' (nm_inj e))]; exact h.has t ht'
    · rw [List.mem_singleton.1 ht']
      show getL (nm m) _ = _
      rw [getL_put hr]
      simp only [Sg.fil, Sg.data, frs_one, List.nil_append, List.append_nil]
  · intro p hp
    rw [e] at hp
    rcases mem_putL.1 hp with rfl | ⟨hp, _⟩
    · exact ⟨⟨m, [r], [], 0⟩, by simp, rfl⟩
    · obtain ⟨t, ht', e⟩ := h.all p hp
      exact ⟨t, List.mem_append_left _ ht', e⟩

/-- a disk that is up, without a fuse -/
structure Up (S : St) : Prop where
  fuse : S.fuse = -1
  down : S.down = false
theorem Up.take {S : St} (h : Up S) : S.take = (true, S) := by
  obtain ⟨room, files, fuse, down⟩ := S
  have h1 := h.fuse; have h2 := h.down
  simp only at h1 h2
  subst h1 h2
  rfl
theorem Up.do {S : St} (h : Up S) (g : Fls → Fls) : S.do g = (0, { S with files := g S.files }) := by
  unfold St.do; rw [h.take]; rfl
theorem Up.with {S : St} (h : Up S) (l : Fls) : Up { S with files := l } := ⟨h.fuse, h.down⟩
/-- what stands behind the last whole frame is cut off -/
theorem On.cut {S : St} {a : List Sg} {s : Sg} {n m : Nat} (hr : Rising S.files) (hu : Up S) (h : On S (a ++ [s])) (hl : Lg (a ++ [s]) n m) (hn : s.first ≤ 1048577) :
    S.cut (nm s.first) (s.bytes : Int) = (0, { S with files := putL (nm s.first) ⟨frs s.first s.recs, min s.safe s.bytes⟩ S.files }) ∧
    On { S with files := putL (nm s.first) ⟨frs s.first s.recs, min s.safe s.bytes⟩ S.files } (a ++ [{ s with tl := [], safe := min s.safe s.bytes }]) := by
  constructor
  · unfold St.cut
    rw [if_neg (by simp [nm_named hn]), h.has s (by simp)]
    simp only
    rw [if_neg (by simp only [Sg.fil, Sg.data, Sg.bytes, List.length_append]; omega), hu.do, Int.toNat_natCast]
    simp only [Sg.fil, Sg.data, Sg.bytes, List.take_left]
  · constructor
    · intro t ht
      rcases List.mem_append.1 ht with ht | ht
      · have hne : nm t.first ≠ nm s.first := fun e => by
          have := hl.rise.1
          rw [List.pairwise_append] at this
          have := this.2.2 t ht s (by simp)
          have := nm_inj e; omega
        show getL _ (putL _ _ _) = _
        rw [getL_put_ne hr hne]; exact h.has t (List.mem_append_left _ ht)
      · rw [List.mem_singleton.1 ht]
        show getL (nm s.first) (putL _ _ _) = _
        rw [getL_put hr]
        simp only [Sg.fil, Sg.data, List.append_nil]
    · intro p hp
      rcases mem_putL.1 hp with rfl | ⟨hp, _⟩
      · exact ⟨_, List.mem_append_right _ (List.mem_singleton.2 rfl), rfl⟩
      · obtain ⟨t, ht, e⟩ := h.all p hp
        rcases List.mem_append.1 ht with ht | ht
        · exact ⟨t, List.mem_append_left _ ht, e⟩
        · rw [List.mem_singleton.1 ht] at e
          exact ⟨_, List.mem_append_right _ (List.mem_singleton.2 rfl), e⟩
/-- a segment is removed -/
theorem On.drop {S : St} {a b : List Sg} {s : Sg} {n m : Nat} (hr : Rising S.files) (hu : Up S) (h : On S (a ++ s :: b)) (hl : Lg (a ++ s :: b) n m) (hn : s.first ≤ 1048577) :
    S.remove (nm s.first) = (0, { S with files := delL (nm s.first) S.files }) ∧ On { S with files := delL (nm s.first) S.files } (a ++ b) := by
  have hp := hl.rise.1
  rw [List.pairwise_append, List.pairwise_cons] at hp
  have hne : ∀ t ∈ a ++ b, nm t.first ≠ nm s.first := fun t ht e => by
    have e' := nm_inj e
    rcases List.mem_append.1 ht with ht | ht
    · have := hp.2.2 t ht s (by simp); omega
    · have := hp.2.1.1 t ht; omega
  constructor
  · unfold St.remove
    rw [if_neg (by simp [nm_named hn]), h.has s (by simp)]
    exact hu.do _
  · constructor
    · intro t ht
      show getL _ (delL _ _) = _
      rw [getL_del_ne hr (hne t ht)]
      refine h.has t ?_
      rcases List.mem_append.1 ht with ht | ht
      · exact List.mem_append_left _ ht
      · exact List.mem_append_right _ (List.mem_cons_of_mem _ ht)
    · intro p hp
      obtain ⟨hp, hk⟩ := mem_delL.1 hp
      obtain ⟨t, ht, e⟩ := h.all p hp
      refine ⟨t, ?_, e⟩
      rcases List.mem_append.1 ht with ht | ht
      · exact List.mem_append_left _ ht
      · rcases List.mem_cons.1 ht with rfl | ht
        · exact absurd e hk
        · exact List.mem_append_right _ ht

end Go.Proofs.YtdlicndbdnfekaaGreatDoor.Wl
