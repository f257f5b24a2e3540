/- Where a log lies: its block, its row of segments; the disk beside it. -/
import Derived.Test.YtdlicndbdnfekaaGreatDoorWlFirst
import Derived.Test.YtdlicndbdnfekaaGreatDoorWlRow
import Derived.Test.YtdlicndbdnfekaaGreatDoorWlRec
import Derived.Test.YtdlicndbdnfekaaGreatDoorWlCr
import Derived.Test.YtdlicndbdnfekaaGreatDoorDAppend
import Derived.Test.YtdlicndbdnfekaaGreatDoorDCrash
import Derived.Test.YtdlicndbdnfekaaGreatDoorDNew
import Derived.Test.YtdlicndbdnfekaaGreatDoorDFuse
namespace Go.Proofs.YtdlicndbdnfekaaGreatDoor.Wl
open Go.RowKit Go.Joins
open Go.Proofs.YtdlicndbdnfekaaGreatDoor.Dk (Bs Fil Fls St St.Ok Held)

abbrev WalT : TypeId := 59
abbrev walC (bd most : Nat) (v : Value) (nx : Nat) : Array Value := #[.pointer (some ⟨bd, 0, none⟩), .int .i64 most, v, .int .i64 nx]
/-- a log lies at bw -/
structure WH (w : World) (bw bd most : Nat) (v : Value) (l : List Sm) (nx : Nat) : Prop where
  block : w.heap[bw]? = some (.cells (walC bd most v nx) WalT (0, 0))
  row : SR w v l
section
variable {w w' : World} {bw bd most : Nat} {v : Value} {l : List Sm} {nx : Nat}
theorem SR.ne {b t : Nat} {cs : Array Value} (h : SR w v l) (hb : w.heap[b]? = some (.cells cs t (0, 0))) (ht : t ≠ SegT) {g : Nat} (hg : v.ownBlock = some g) : g ≠ b := by
  intro e
  rcases h with ⟨rfl, _⟩ | ⟨g', o, cap, rfl, h⟩
  · simp [Value.ownBlock] at hg
  · simp only [Value.ownBlock, Option.some.injEq] at hg
    obtain ⟨cur, h1, _⟩ := h.block
    rw [hg, e, hb] at h1; cases h1; exact ht rfl
/-- its row and another one's -/
theorem SR.ne_row {B e size n : Nat} {u : Value} {xs : List Value} (h : SR w v l) (hr : w.ownsRow B e size u n xs) (ht : e ≠ SegT) {g : Nat} (hg : v.ownBlock = some g) : u.ownBlock ≠ some g := by
  intro hu
  rcases hr.2 with ⟨rfl, _⟩ | ⟨g', cap, cur, rfl, _, hc, _⟩
  · simp [Value.ownBlock] at hu
  · simp only [Value.ownBlock, Option.some.injEq] at hu
    subst hu
    exact h.ne hc ht hg rfl
theorem wal_ne : WalT ≠ SegT := by decide
theorem WH.lt (h : WH w bw bd most v l nx) : bw < w.heap.size := (Array.getElem?_eq_some_iff.1 h.block).1
theorem WH.ne (h : WH w bw bd most v l nx) {g : Nat} (hg : v.ownBlock = some g) : g ≠ bw := h.row.ne h.block wal_ne hg
theorem WH.stay (h : WH w bw bd most v l nx) (h1 : w'.heap[bw]? = w.heap[bw]?) (h2 : ∀ g, v.ownBlock = some g → w'.heap[g]? = w.heap[g]?) : WH w' bw bd most v l nx := ⟨h1.trans h.block, h.row.stay h2⟩
theorem WH.below (h : WH w bw bd most v l nx) (hb : Below w.heap.size w w') : WH w' bw bd most v l nx := h.stay (hb.block _ h.lt) fun g hg => hb.block g (h.row.lt hg)
theorem WH.c0 (h : WH w bw bd most v l nx) : w.cell? ⟨bw, 0, none⟩ = some (.pointer (some ⟨bd, 0, none⟩)) := by rw [cell_of_block h.block]; rfl
theorem WH.c1 (h : WH w bw bd most v l nx) : w.cell? ⟨bw, 1, none⟩ = some (.int .i64 most) := by rw [cell_of_block h.block]; rfl
theorem WH.c2 (h : WH w bw bd most v l nx) : w.cell? ⟨bw, 2, none⟩ = some v := by rw [cell_of_block h.block]; rfl
theorem WH.c3 (h : WH w bw bd most v l nx) : w.cell? ⟨bw, 3, none⟩ = some (.int .i64 nx) := by rw [cell_of_block h.block]; rfl
theorem WH.fz (h : WH w bw bd most v l nx) (i : Nat) : w.frozen? ⟨bw, i, none⟩ = false := unfrozen_of_block h.block i
/-- another next number -/
theorem WH.next (h : WH w bw bd most v l nx) (m : Nat) : WH (w.setCell ⟨bw, 3, none⟩ (.int .i64 m)) bw bd most v l m :=
  ⟨by rw [block_setCell h.block]; rfl, h.row.stay fun g hg => Below.heap_setCell _ _ _ g (h.ne hg)⟩
/-- another row -/
theorem WH.segs (h : WH w bw bd most v l nx) {v' : Value} {l' : List Sm} (hr : SR w v' l') : WH (w.setCell ⟨bw, 2, none⟩ v') bw bd most v' l' nx :=
  ⟨by rw [block_setCell h.block]; rfl, hr.stay fun g hg => Below.heap_setCell _ _ _ g (hr.ne h.block wal_ne hg)⟩
theorem SR.shape {g o n cap : Nat} (h : SR w (.slice (some ⟨g, o * 2, none⟩) n cap) l) : SRc w g o cap l := by
  rcases h with ⟨e, _⟩ | ⟨g', o', cap', e, h⟩
  · cases e
  · simp only [Value.slice.injEq, Option.some.injEq, Addr.mk.injEq] at e
    obtain ⟨⟨rfl, eo, _⟩, _, rfl⟩ := e
    obtain rfl : o = o' := by omega
    exact h
/-- the last segment has other bytes -/
theorem WH.bytes {g o n cap : Nat} {a : List Sm} {f b : Nat} (h : WH w bw bd most (.slice (some ⟨g, o * 2, none⟩) n cap) (a ++ [(f, b)]) nx) (hn : n = a.length + 1) (m : Nat) : WH (w.setCell ⟨g, o * 2 + a.length * 2 + 1, none⟩ (.int .i64 m)) bw bd most (.slice (some ⟨g, o * 2, none⟩) n cap) (a ++ [(f, m)]) nx := by
  have h1 := h.row.shape.set a.length (by simp) m
  have e1 : (a ++ [(f, b)])[a.length]'(by simp) = (f, b) := by simp
  rw [e1] at h1
  have e2 : (a ++ [(f, b)]).set a.length (f, m) = a ++ [(f, m)] := by simp
  simp only [e2] at h1
  have hne : bw ≠ g := fun e => h.ne (g := g) rfl e.symm
  exact ⟨(Below.heap_setCell w ⟨g, o * 2 + a.length * 2 + 1, none⟩ _ bw hne).trans h.block, Or.inr ⟨g, o, cap, by rw [hn]; simp, h1⟩⟩
/-- its cells -/
theorem WH.lastCells {g o n cap : Nat} {a : List Sm} {f b : Nat} (h : WH w bw bd most (.slice (some ⟨g, o * 2, none⟩) n cap) (a ++ [(f, b)]) nx) : w.cell? ⟨g, o * 2 + a.length * 2, none⟩ = some (.int .i64 f) ∧ w.cell? ⟨g, o * 2 + a.length * 2 + 1, none⟩ = some (.int .i64 b) ∧ w.frozen? ⟨g, o * 2 + a.length * 2, none⟩ = false ∧ w.frozen? ⟨g, o * 2 + a.length * 2 + 1, none⟩ = false := by
  have h1 := h.row.shape.at a.length (by simp)
  simpa using h1
end
/-- the library's table, and a log's block -/
theorem tab_named : Tryz.prog.globalNamed "internal/strconv.uint64pow10" = some 0 := by kernel_rfl
theorem Tab.stay {w w' : World} (h : Tab w) (e : w'.heap[(0 : Nat)]? = w.heap[(0 : Nat)]?) : Tab w' := by
  have h : w.var? Tryz.prog "internal/strconv.uint64pow10" = some _ := h
  show w'.var? Tryz.prog "internal/strconv.uint64pow10" = some _
  unfold World.var? at h ⊢
  rw [tab_named] at h ⊢
  simp only [Option.bind_some] at h ⊢
  rw [e]
  exact h
theorem Tab.lt {w : World} (h : Tab w) : (0 : Nat) < w.heap.size := by
  have h : w.var? Tryz.prog "internal/strconv.uint64pow10" = some _ := h
  unfold World.var? at h
  rw [tab_named] at h
  simp only [Option.bind_some] at h
  rcases Nat.lt_or_ge (0 : Nat) w.heap.size with h' | h'
  · exact h'
  · rw [Array.getElem?_eq_none h'] at h; cases h
theorem Tab.ne {w : World} (h : Tab w) {b t : Nat} {cs : Array Value} {fr : Nat × Nat} (hb : w.heap[b]? = some (.cells cs t fr)) (hc : cs.size ≠ 20) : (0 : Nat) ≠ b := by
  intro e
  have h : w.var? Tryz.prog "internal/strconv.uint64pow10" = some (Lib.pow10Tab.map fun z => Value.int .u64 z).toArray := h
  unfold World.var? at h
  rw [tab_named] at h
  simp only [Option.bind_some] at h
  rw [e, hb] at h
  simp only [Option.some.injEq] at h
  exact hc (by rw [h]; rfl)
theorem Tab.grown {w w' : World} {bw bd most : Nat} {v : Value} {l : List Sm} {nx : Nat} (h : Tab w) (hW : WH w bw bd most v l nx) (hg : w.grownBy w' (some bw)) : Tab w' :=
  h.stay (hg.block _ h.lt fun e => by cases e; exact h.ne hW.block (show (4 : Nat) ≠ 20 by decide) rfl)
/-- the segments as the log keeps them -/
def ms (l : List Sg) : List Sm := l.map fun s => (s.first, s.bytes)
theorem ms_length (l : List Sg) : (ms l).length = l.length := by simp [ms]
theorem ms_append (a b : List Sg) : ms (a ++ b) = ms a ++ ms b := by simp [ms]
theorem ms_at (l : List Sg) (i : Nat) (h : i < l.length) : (ms l)[i]'(by rw [ms_length]; exact h) = (l[i].first, l[i].bytes) := by simp [ms]

/-- the disk is there, and has what is owned, and nothing that is not there yet -/
structure DH (w : World) (own : Nat → Prop) (bd : Nat) (S : St) : Prop where
  held : Held w own bd S
  old : ∀ b, own b → b < w.heap.size
theorem DH.frame {w w' : World} {own : Nat → Prop} {bd : Nat} {S : St} (h : DH w own bd S) (hs : ∀ k, k < w.heap.size → own k → w'.heap[k]? = w.heap[k]?) (hz : w.heap.size ≤ w'.heap.size) : DH w' own bd S :=
  ⟨h.held.frame hs, fun b hb => Nat.lt_of_lt_of_le (h.old b hb) hz⟩
theorem DH.below {w w' : World} {own : Nat → Prop} {bd : Nat} {S : St} (h : DH w own bd S) (hb : Below w.heap.size w w') : DH w' own bd S := h.frame (fun k hk _ => hb.block k hk) hb.size
/-- what is owned, and what comes -/
abbrev plus (own : Nat → Prop) (n : Nat) : Nat → Prop := fun b => own b ∨ n ≤ b
theorem DH.open {w : World} {own : Nat → Prop} {bd : Nat} {S : St} (h : DH w own bd S) : Held w (plus own w.heap.size) bd S := h.held.own fun _ _ ho => Or.inl ho
theorem fresh_plus {own : Nat → Prop} {n : Nat} {w : World} (h : n ≤ w.heap.size) : Dk.Fresh (plus own n) w := fun _ hb => Or.inr (Nat.le_trans h hb)
/-- behind a call that was given what comes -/
theorem DH.shut {w : World} {own : Nat → Prop} {bd n : Nat} {S : St} (h : Held w (plus own n) bd S) : DH w (fun b => plus own n b ∧ b < w.heap.size) bd S := ⟨h.own fun _ hb ho => ⟨ho, hb⟩, fun _ hb => hb.2⟩

/-- all numbers of a log may be in names -/
theorem Lg.small {l : List Sg} {n m : Nat} (h : Lg l n m) (hm : m ≤ 1048577) : ∀ s ∈ l, s.first ≤ 1048577 := fun s hs => Nat.le_trans (h.rise.2 s hs).2 hm
/-- the names of a disk's files, as numbers -/
theorem On.names {S : St} {l : List Sg} {n m : Nat} (h : On S l) (hl : Lg l n m) (hr : Dk.Rising S.files) : ∃ fs : List Nat, S.files.map (·.1) = fs.map nm ∧ fs.Perm (l.map (·.first)) := by
  have h1 : ∀ L : Fls, (∀ p ∈ L, ∃ s ∈ l, p.1 = nm s.first) → ∃ fs : List Nat, L.map (·.1) = fs.map nm ∧ ∀ k ∈ fs, k ∈ l.map (·.first) := by
    intro L
    induction L with
    | nil => exact fun _ => ⟨[], rfl, by simp⟩
    | cons p r ih =>
      intro hp
      obtain ⟨fs, e, hm⟩ := ih fun q hq => hp q (List.mem_cons_of_mem _ hq)
      obtain ⟨s, hs, es⟩ := hp p (List.mem_cons_self ..)
      refine ⟨s.first :: fs, by rw [List.map_cons, List.map_cons, e, es], fun k hk => ?_⟩
      rcases List.mem_cons.1 hk with rfl | hk
      · exact List.mem_map.2 ⟨s, hs, rfl⟩
      · exact hm k hk
  obtain ⟨fs, e, hm⟩ := h1 S.files h.all
  refine ⟨fs, e, (List.perm_ext_iff_of_nodup ?_ ?_).2 fun k => ⟨hm k, fun hk => ?_⟩⟩
  · have : (S.files.map (·.1)).Nodup := List.pairwise_map.2 (hr.imp fun {a b} hab e => by rw [e, WideAt.bytes_irrefl] at hab; cases hab)
    rw [e] at this
    exact (List.pairwise_map.1 this).imp fun h1 h2 => h1 (by rw [h2])
  · exact List.pairwise_map.2 (hl.rise.1.imp fun {a b} h => Nat.ne_of_lt h)
  · obtain ⟨s, hs, rfl⟩ := List.mem_map.1 hk
    have h2 : nm s.first ∈ S.files.map (·.1) := List.mem_map.2 ⟨_, Dk.getL_some (h.has s hs), rfl⟩
    rw [e] at h2
    obtain ⟨j, hj, ej⟩ := List.mem_map.1 h2
    rw [← nm_inj ej]; exact hj

theorem On.len {S : St} {l : List Sg} {n m : Nat} (h : On S l) (hl : Lg l n m) (hk : S.Ok) : l.length ≤ 64 := by
  obtain ⟨fs, h1, h2⟩ := h.names hl hk.rising
  have h3 := hk.many
  have h4 := congrArg List.length h1
  have h5 := h2.length_eq
  simp only [List.length_map] at h4 h5
  omega

end Go.Proofs.YtdlicndbdnfekaaGreatDoor.Wl
