/- What a disk is, as the document has it, and what its calls do. -/
import Derived.Test.YtokcknfbanpjjaaDPut
namespace Go.Proofs.Ytokcknfbanpjjaa.Dk
open Go.RowKit Go.Maps Go.Joins

structure St where
  room : Nat
  files : Fls
  fuse : Int
  down : Bool
structure St.Ok (S : St) : Prop where
  sum : used S.files ≤ S.room
  room : S.room ≤ 262144
  many : S.files.length ≤ 64
  rising : Rising S.files
  each : ∀ p ∈ S.files, named p.1 = true ∧ p.2.safe ≤ p.2.data.length
  f0 : -1 ≤ S.fuse
  f1 : S.fuse ≤ 9223372036854775807

/-- one call more: is it taken; what the disk is then -/
def St.take (S : St) : Bool × St := ((taken S.fuse S.down).1, { S with fuse := (taken S.fuse S.down).2.1, down := (taken S.fuse S.down).2.2 })
/-- a call that is refused for no other reason -/
def St.do (S : St) (g : Fls → Fls) : Nat × St := if S.take.1 = true then (0, { S.take.2 with files := g S.files }) else (21, S.take.2)
def fileOr (k : Bs) (l : Fls) : Fil := (getL k l).getD ⟨[], 0⟩
def St.append (S : St) (k d : Bs) : Nat × St :=
  if named k = false then (20, S)
  else if S.room < used S.files + d.length ∨ (getL k S.files = none ∧ 64 ≤ S.files.length) then (22, S)
  else S.do (putL k ⟨(fileOr k S.files).data ++ d, (fileOr k S.files).safe⟩)
def St.cut (S : St) (k : Bs) (n : Int) : Nat × St :=
  if named k = false then (20, S)
  else match getL k S.files with
    | none => (5, S)
    | some f => if n < 0 ∨ (f.data.length : Int) < n then (1, S) else S.do (putL k ⟨f.data.take n.toNat, min f.safe n.toNat⟩)
def syncL (l : Fls) : Fls := l.map fun p => (p.1, ⟨p.2.data, p.2.data.length⟩)
def St.sync (S : St) : Nat × St := S.do syncL
def St.rename (S : St) (a b : Bs) : Nat × St :=
  if named a = false ∨ named b = false then (20, S)
  else match getL a S.files with
    | none => (5, S)
    | some f => S.do fun l => putL b f (delL a l)
def St.remove (S : St) (k : Bs) : Nat × St :=
  if named k = false then (20, S)
  else match getL k S.files with
    | none => (5, S)
    | some _ => S.do (delL k)
def St.read (S : St) (k : Bs) : Bs × Nat :=
  if named k = false then ([], 20)
  else match getL k S.files with
    | none => ([], 5)
    | some f => (f.data, 0)
def St.light (S : St) (n : Int) : Nat × St := if n < 0 then (1, S) else (0, { S with fuse := n })
def tornF (f : Fil) (draw : Int) : Fil := ⟨f.data.take (f.safe + keptOf draw (f.data.length - f.safe)), f.safe + keptOf draw (f.data.length - f.safe)⟩
def crashL : Fls → List Int → Fls
  | [], _ => []
  | p :: r, ds => if p.2.data.length = p.2.safe then p :: crashL r ds else (p.1, tornF p.2 (ds.headD 0)) :: crashL r ds.tail
def St.crash (S : St) (ds : List Int) : Nat × St := if 4096 < ds.length then (2, S) else (0, { S with files := crashL S.files ds, fuse := -1, down := false })

/-- a disk lies there, and is S -/
def Held (w : World) (own : Nat → Prop) (bd : Nat) (S : St) : Prop := ∃ bm l, HeldL w own bd bm S.room l S.fuse S.down ∧ S.files = l.map (fun p => (p.1, p.2.2)) ∧ S.Ok

theorem Held.below {w w' : World} {own : Nat → Prop} {bd : Nat} {S : St} (h : Held w own bd S) (hb : Below w.heap.size w w') : Held w' own bd S := by
  obtain ⟨bm, l, h1, h2, h3⟩ := h; exact ⟨bm, l, h1.below hb, h2, h3⟩
theorem Held.frame {w w' : World} {own : Nat → Prop} {bd : Nat} {S : St} (h : Held w own bd S) (hs : ∀ k, k < w.heap.size → own k → w'.heap[k]? = w.heap[k]?) : Held w' own bd S := by
  obtain ⟨bm, l, h1, h2, h3⟩ := h; exact ⟨bm, l, h1.frame hs, h2, h3⟩
theorem Held.own {w : World} {own own' : Nat → Prop} {bd : Nat} {S : St} (h : Held w own bd S) (ho : ∀ b, b < w.heap.size → own b → own' b) : Held w own' bd S := by
  obtain ⟨bm, l, h1, h2, h3⟩ := h; exact ⟨bm, l, h1.own ho, h2, h3⟩
theorem Held.ok {w : World} {own : Nat → Prop} {bd : Nat} {S : St} (h : Held w own bd S) : S.Ok := by obtain ⟨_, _, _, _, h3⟩ := h; exact h3

theorem taken_f0 {fuse : Int} {down : Bool} (h : -1 ≤ fuse) : -1 ≤ (taken fuse down).2.1 := by
  unfold taken; split
  · exact h
  · rename_i hn; simp only; split
    · omega
    · have : fuse ≠ 0 := fun e => hn (Or.inl e); omega
theorem taken_f1 {fuse : Int} {down : Bool} (h : fuse ≤ 9223372036854775807) (h0 : -1 ≤ fuse) : (taken fuse down).2.1 ≤ 9223372036854775807 := by
  unfold taken; split
  · exact h
  · simp only; split <;> omega

/-- what a disk has at a key, as a row that is apart from all others -/
theorem HeldL.at {w : World} {own : Nat → Prop} {bd bm room : Nat} {l : List (Bs × Ent)} {fuse : Int} {down : Bool} (h : HeldL w own bd bm room l fuse down) (k : Bs) :
    ∃ ad cap f, fileAt l k = FV (.slice ad f.data.length cap) f.safe ∧ f = fileOr k (l.map fun p => (p.1, p.2.2)) ∧ RowOk w own (.slice ad f.data.length cap, f) ∧ (∀ p ∈ delL k l, Apart (.slice ad f.data.length cap, f) p.2) ∧
      (ad = none → cap = 0) ∧ f.data.length ≤ cap ∧ cap ≤ 9223372036854775807 := by
  have hfo : fileOr k (l.map fun p => (p.1, p.2.2)) = ((getL k l).map (·.2)).getD ⟨[], 0⟩ := by unfold fileOr; rw [getL_map (fun x : Ent => x.2)]
  cases hg : getL k l with
  | none =>
    refine ⟨none, 0, ⟨[], 0⟩, by simp [fileAt, hg], by rw [hfo, hg]; rfl, ⟨World.ownsRow_nil _ _ _ _, by simp [Value.ownBlock]⟩, fun p _ g hg' => by simp [Value.ownBlock] at hg', fun _ => rfl, by simp, by omega⟩
  | some x =>
    obtain ⟨v, f⟩ := x
    have hr : RowOk w own (v, f) := h.rows.1 _ (getL_some hg)
    obtain ⟨ad, cap, rfl⟩ : ∃ ad cap, v = .slice ad f.data.length cap := own_slice hr.1
    refine ⟨ad, cap, f, by simp [fileAt, hg], by rw [hfo, hg]; rfl, hr, h.rows.others h.base.rising hg, ?_⟩
    rcases hr.1.2 with ⟨e, h0⟩ | ⟨g, cap', cur, e, _, _, h1, h2, _⟩
    · obtain ⟨rfl, _, rfl⟩ : ad = none ∧ f.data.length = 0 ∧ cap = 0 := by simpa using e
      exact ⟨fun _ => rfl, by simp only at h0; omega, by omega⟩
    · cases e
      simp only at h1 h2
      unfold maxLen at h2
      exact ⟨by simp, h1, by omega⟩

end Go.Proofs.Ytokcknfbanpjjaa.Dk
