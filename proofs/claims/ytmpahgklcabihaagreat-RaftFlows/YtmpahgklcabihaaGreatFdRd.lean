/- Fields of a list, and the reader of fields (package fields), for seats without package op. -/
import Derived.Test.YtmpahgklcabihaaGreatArgs
import Derived.Test.YtmpahgklcabihaaGreatGRow
import Derived.Test.YtmpahgklcabihaaGreatDec
namespace Go.Proofs.YtmpahgklcabihaaGreat.Fd
open Go.RowKit Go.Joins Go.Proofs.YtmpahgklcabihaaGreat.Gk

abbrev numF (n : Int) : Fld := ⟨false, n, ⟨#[]⟩⟩
abbrev txtF (s : ByteArray) : Fld := ⟨true, 0, s⟩
def fenc (x : Fld) : List Value := [.bool x.text, .int .i64 x.n, .string x.s]
theorem fenc_len (x : Fld) : (fenc x).length = 3 := rfl
theorem fenc_one (x : Fld) : ∀ u ∈ fenc x, u.oneCell' = true := by
  intro u hu
  simp only [fenc, List.mem_cons, List.not_mem_nil, or_false] at hu
  rcases hu with rfl | rfl | rfl <;> rfl
theorem fcells_rc (l : List Fld) : fcells l = rc fenc l := rfl

set_option maxRecDepth 100000 in
set_option maxHeartbeats 400000 in
theorem number_op (n : Int) (w : World) :
    Calls Tryz.prog 206 #[.int .i64 n] w fun e w' => e = .returned (.agg #[.bool false, .int .i64 n, .string ⟨#[]⟩]) ∧ Below w.heap.size w w' := by
  go_enter Tryz.func206, Tryz.ntmps206
  go_wp2
  exact bodyPost_ret (v := .agg #[.bool false, .int .i64 n, .string ⟨#[]⟩]) (by simp [results, Tryz.results206, go_sem]) rfl ⟨rfl, (Below.refl _ _).alloc (Nat.le_refl _) _⟩

set_option maxRecDepth 100000 in
set_option maxHeartbeats 400000 in
theorem text_op (s : ByteArray) (w : World) :
    Calls Tryz.prog 245 #[.string s] w fun e w' => e = .returned (.agg #[.bool true, .int .i64 0, .string s]) ∧ Below w.heap.size w w' := by
  go_enter Tryz.func245, Tryz.ntmps245
  go_wp2
  exact bodyPost_ret (v := .agg #[.bool true, .int .i64 0, .string s]) (by simp [results, Tryz.results245, go_sem]) rfl ⟨rfl, (Below.refl _ _).alloc (Nat.le_refl _) _⟩

/-- a new row -/
theorem own_new (w : World) (B : Nat) (hB : B ≤ w.heap.size) (l : List Fld) (hl : l.length ≤ 10000) : (w.alloc (.cells (fcells l).toArray 120)).ownsRow B 120 3 (.slice (some ⟨w.heap.size, 0, none⟩) l.length l.length) l.length (fcells l) :=
  ⟨fcells_length l, Or.inr ⟨w.heap.size, l.length, _, rfl, hB, heap_alloc_new w _, Nat.le_refl _, by unfold maxLen; omega, by simp [fcells_length], by rw [List.toList_toArray, ← fcells_length]; exact List.take_length⟩⟩

/-- a block's cells -/
theorem new_cells (w : World) (cs : List Value) (t : TypeId) : ∀ j u, cs[j]? = some u → (w.alloc (.cells cs.toArray t)).cell? ⟨w.heap.size, 0 + j, none⟩ = some u := by
  intro j u hj
  rw [Nat.zero_add, cell_of_block (heap_alloc_new w _)]
  simpa using hj


/-- what a reader is -/
structure Rd where
  rest : List Fld
  wrong : Bool

def zF : Fld := ⟨false, 0, ⟨#[]⟩⟩
abbrev fV (f : Fld) : Value := .agg #[.bool f.text, .int .i64 f.n, .string f.s]
def Rd.next (S : Rd) (t : Bool) : Fld × Rd :=
  match S.rest with
  | [] => (zF, ⟨[], true⟩)
  | f :: r => if f.text = t then (f, ⟨r, S.wrong⟩) else (zF, ⟨f :: r, true⟩)
def Rd.num (S : Rd) : Int × Rd := ((S.next false).1.n, (S.next false).2)
def Rd.txt (S : Rd) : ByteArray × Rd := ((S.next true).1.s, (S.next true).2)

/-- a reader lies there, and is S -/
structure RdL (w : World) (br : Nat) (a : Option Addr) (c : Nat) (S : Rd) : Prop where
  heap : w.heap[br]? = some (.cells #[.slice a S.rest.length c, .bool S.wrong] 207 (0, 0))
  lies : Gk.Lies w fenc a S.rest
  room : S.rest.length ≤ c
  most : S.rest.length ≤ 4096
  apart : ∀ b off, a = some ⟨b, off, none⟩ → S.rest ≠ [] → b < br
def RdH (w : World) (br : Nat) (S : Rd) : Prop := ∃ a c, RdL w br a c S

theorem RdL.lt {w : World} {br : Nat} {a : Option Addr} {c : Nat} {S : Rd} (h : RdL w br a c S) : br < w.heap.size := (Array.getElem?_eq_some_iff.1 h.heap).1
theorem RdH.lt {w : World} {br : Nat} {S : Rd} (h : RdH w br S) : br < w.heap.size := by obtain ⟨_, _, h⟩ := h; exact h.lt
theorem RdL.c0 {w : World} {br : Nat} {a : Option Addr} {c : Nat} {S : Rd} (h : RdL w br a c S) : w.cell? ⟨br, 0, none⟩ = some (.slice a S.rest.length c) := by simp [World.cell?, h.heap]
theorem RdL.c1 {w : World} {br : Nat} {a : Option Addr} {c : Nat} {S : Rd} (h : RdL w br a c S) : w.cell? ⟨br, 1, none⟩ = some (.bool S.wrong) := by simp [World.cell?, h.heap]
theorem RdL.fz {w : World} {br : Nat} {a : Option Addr} {c : Nat} {S : Rd} (h : RdL w br a c S) (o : Nat) : w.frozen? ⟨br, o, none⟩ = false := by simp [World.frozen?, h.heap]
theorem RdL.below {w w' : World} {br : Nat} {a : Option Addr} {c : Nat} {S : Rd} (h : RdL w br a c S) (hb : Below w.heap.size w w') : RdL w' br a c S :=
  ⟨(hb.block br h.lt).trans h.heap, h.lies.below hb, h.room, h.most, h.apart⟩
theorem RdH.below {w w' : World} {br : Nat} {S : Rd} (h : RdH w br S) (hb : Below w.heap.size w w') : RdH w' br S := by obtain ⟨a, c, h⟩ := h; exact ⟨a, c, h.below hb⟩

/-- what lies behind the reader may turn -/
theorem RdH.over {w w' : World} {br : Nat} {S : Rd} (h : RdH w br S) (hz : w.heap.size ≤ w'.heap.size) (hk : ∀ k, k ≤ br → w'.heap[k]? = w.heap[k]?) : RdH w' br S := by
  obtain ⟨a, c, h⟩ := h
  refine ⟨a, c, (hk br (Nat.le_refl _)).trans h.heap, ?_, h.room, h.most, h.apart⟩
  by_cases e : S.rest = []
  · exact Or.inl e
  · exact h.lies.later (fun b off ea _ => hk b (Nat.le_of_lt (h.apart b off ea e))) hz
theorem RdH.set {w : World} {br : Nat} {S : Rd} (h : RdH w br S) (g o : Nat) (hg : br < g) (v : Value) : RdH (w.setCell ⟨g, o, none⟩ v) br S :=
  h.over (by simp) (fun k hk => Below.heap_setCell w _ _ k (by show k ≠ g; omega))

/-- nothing but the reader's block has turned -/
abbrev One (br : Nat) (w w' : World) : Prop := Only (fun b => b = br) w w'
theorem One.of_below {br : Nat} {w w' : World} (h : Below w.heap.size w w') : One br w w' := Only.of_below h
theorem Rd.next_len (S : Rd) (t : Bool) : (S.next t).2.rest.length ≤ S.rest.length := by
  unfold Rd.next; split
  · simp
  · next f r e => rw [e]; split <;> simp

/-- behind a write into the reader's block -/
theorem RdL.set {w w' : World} {br : Nat} {a a' : Option Addr} {c c' : Nat} {S S' : Rd} (h : RdL w br a c S) (hO : One br w w') (hh : w'.heap[br]? = some (.cells #[.slice a' S'.rest.length c', .bool S'.wrong] 207 (0, 0)))
    (hl : Gk.Lies w fenc a' S'.rest) (hr : S'.rest.length ≤ c') (hm : S'.rest.length ≤ S.rest.length) (hp : ∀ b off, a' = some ⟨b, off, none⟩ → S'.rest ≠ [] → b < br) : RdL w' br a' c' S' := by
  refine ⟨hh, ?_, hr, Nat.le_trans hm h.most, hp⟩
  by_cases e : S'.rest = []
  · exact Or.inl e
  · exact hl.later (fun b off ea hlt => hO.block b hlt (Nat.ne_of_lt (hp b off ea e))) hO.size

theorem Lies.tail {w : World} {b off : Nat} {f : Fld} {r : List Fld} (h : Gk.Lies w fenc (some ⟨b, off, none⟩) (f :: r)) : Gk.Lies w fenc (some ⟨b, off + 3, none⟩) r := by
  rcases h with h | ⟨b', off', e, hlt, hc⟩
  · cases h
  · cases e
    refine Or.inr ⟨b, off + 3, rfl, hlt, fun j u hj => ?_⟩
    have := hc (3 + j) u (by rw [rc_cons, List.getElem?_append_right (by rw [fenc_len]; omega), fenc_len, Nat.add_sub_cancel_left]; exact hj)
    rwa [← Nat.add_assoc] at this
theorem One.set (w : World) (br o : Nat) (v : Value) : One br w (w.setCell ⟨br, o, none⟩ v) := Only.of_set (own := fun b => b = br) (a := ⟨br, o, none⟩) w rfl v
/-- a field is taken -/
theorem RdL.took {w : World} {br b off c : Nat} {f : Fld} {r : List Fld} {wr : Bool} (h : RdL w br (some ⟨b, off, none⟩) c ⟨f :: r, wr⟩) (a' : Option Addr) (c' : Nat) (ha : r = [] ∨ a' = some ⟨b, off + 3, none⟩) (hc : r.length ≤ c') :
    RdL (w.setCell ⟨br, 0, none⟩ (.slice a' r.length c')) br a' c' ⟨r, wr⟩ := by
  refine h.set (S' := ⟨r, wr⟩) (One.set w br 0 _) (by rw [block_setCell h.heap]; rfl) ?_ hc (by simp) ?_
  · rcases ha with rfl | rfl
    · exact Or.inl rfl
    · exact Lies.tail h.lies
  · intro b' off' e hne
    rcases ha with rfl | rfl
    · exact absurd rfl hne
    · cases e; exact h.apart b off rfl (by simp)
/-- a field is not there, or of the other kind -/
theorem RdL.spoilt {w : World} {br : Nat} {a : Option Addr} {c : Nat} {S : Rd} (h : RdL w br a c S) : RdL (w.setCell ⟨br, 1, none⟩ (.bool true)) br a c ⟨S.rest, true⟩ :=
  h.set (S' := ⟨S.rest, true⟩) (One.set w br 1 _) (by rw [block_setCell h.heap]; rfl) h.lies h.room (Nat.le_refl _) h.apart
theorem One.setNew {w w' : World} {br : Nat} (h : One br w w') (g o : Nat) (hg : w.heap.size ≤ g) (v : Value) : One br w (w'.setCell ⟨g, o, none⟩ v) :=
  ⟨h.os, h.tape, h.output, by simpa using h.size, fun k hk hn => (Below.heap_setCell w' _ _ k (by show k ≠ g; omega)).trans (h.block k hk hn)⟩
theorem below1 (w : World) (o : Obj) : Below w.heap.size w (w.alloc o) := (Below.refl _ _).alloc (Nat.le_refl _) _
theorem below2 (w : World) (o o' : Obj) : Below w.heap.size w ((w.alloc o).alloc o') := (below1 w o).alloc (by simp) _

set_option maxRecDepth 100000 in
set_option maxHeartbeats 1000000 in
theorem next_op (S : Rd) (t : Bool) (br : Nat) (w : World) (h : RdH w br S) :
    Calls Tryz.prog 135 #[.pointer (some ⟨br, 0, none⟩), .bool t] w fun e w' => e = .returned (fV (S.next t).1) ∧ RdH w' br (S.next t).2 ∧ One br w w' := by
  obtain ⟨a, c, h⟩ := h
  have hlt := h.lt
  have c0 := h.c0
  have c1 := h.c1
  have f0 := h.fz 0
  have f1 := h.fz 1
  have HH := hide h
  obtain ⟨rest, wr⟩ := S
  cases rest with
  | nil =>
    simp only [List.length_nil] at c0
    clear h
    go_enter Tryz.func135, Tryz.ntmps135
    go_wp2
    exact bodyPost_ret (v := fV zF) (by simp [results, Tryz.results135, go_sem, zF]) rfl ⟨rfl, ⟨a, c, HH.out.spoilt.below (below1 _ _)⟩, (One.set w br 1 _).trans (One.of_below (below1 _ _))⟩
  | cons f r =>
    simp only [List.length_cons] at c0
    obtain ⟨b, off, ea, hbl, hc⟩ := h.lies.at fenc_len 0 (by simp)
    have hne := Nat.ne_of_lt (h.apart b off ea (by simp))
    have hrm := h.room
    have hmo := h.most
    subst ea
    simp only [List.getElem_cons_zero, Nat.zero_mul, Nat.add_zero] at hc
    have d0 := hc 0 _ rfl
    have d1 := hc 1 _ rfl
    have d2 := hc 2 _ rfl
    rw [Nat.add_zero] at d0
    clear hc h
    simp only [List.length_cons] at hrm hmo
    obtain ⟨ft, fn, fs⟩ := f
    have hz : ((r.length : Int) + 1 == 0) = false := by rw [beq_eq_false_iff_ne]; omega
    by_cases ht : ft = t
    · subst ht
      have HN : Hid (Rd.next ⟨⟨ft, fn, fs⟩ :: r, wr⟩ ft = (⟨ft, fn, fs⟩, ⟨r, wr⟩)) := by show _ = _; simp [Rd.next]
      rw [HN.out]
      by_cases hc1 : c = 1
      · subst hc1
        have hr0 : r = [] := List.eq_nil_of_length_eq_zero (by omega)
        subst hr0
        cases ft
        all_goals
          go_enter Tryz.func135, Tryz.ntmps135
          go_wp2
          exact bodyPost_ret (v := fV ⟨_, fn, fs⟩) (by simp [results, Tryz.results135, go_sem]) rfl ⟨rfl, ⟨_, _, (HH.out.took _ _ (Or.inl rfl) (Nat.le_refl _)).below (below2 _ _ _)⟩, (One.set w br 0 _).trans (One.of_below (below2 _ _ _))⟩
      · cases ft
        all_goals
          go_enter Tryz.func135, Tryz.ntmps135
          go_wp2
          exact bodyPost_ret (v := fV ⟨_, fn, fs⟩) (by simp [results, Tryz.results135, go_sem]) rfl ⟨rfl, ⟨_, _, (HH.out.took _ _ (Or.inr rfl) (by omega)).below (below2 _ _ _)⟩, (One.set w br 0 _).trans (One.of_below (below2 _ _ _))⟩
    · have HN : Hid (Rd.next ⟨⟨ft, fn, fs⟩ :: r, wr⟩ t = (zF, ⟨⟨ft, fn, fs⟩ :: r, true⟩)) := by show _ = _; simp [Rd.next, ht]
      rw [HN.out]
      cases ft
      all_goals
        cases t
        all_goals first
          | exact absurd rfl ht
          | (go_enter Tryz.func135, Tryz.ntmps135
             go_wp2
             exact bodyPost_ret (v := fV zF) (by simp [results, Tryz.results135, go_sem, zF]) rfl ⟨rfl, ⟨_, c, HH.out.spoilt.below (below1 _ _)⟩, (One.set w br 1 _).trans (One.of_below (below1 _ _))⟩)


theorem field_n (b : Bool) (n : Int) (s : ByteArray) (w : World) : (Instr.field 120 (.agg #[.bool b, .int .i64 n, .string s]) 1).run Tryz.prog w = .ok (.int .i64 n) w := by kernel_rfl
theorem field_s (b : Bool) (n : Int) (s : ByteArray) (w : World) : (Instr.field 120 (.agg #[.bool b, .int .i64 n, .string s]) 2).run Tryz.prog w = .ok (.string s) w := by kernel_rfl

set_option maxRecDepth 100000 in
set_option maxHeartbeats 400000 in
theorem number_rd (S : Rd) (br : Nat) (w : World) (h : RdH w br S) :
    Calls Tryz.prog 89 #[.pointer (some ⟨br, 0, none⟩)] w fun e w' => e = .returned (.int .i64 S.num.1) ∧ RdH w' br S.num.2 ∧ One br w w' := by
  go_enter Tryz.func89, Tryz.ntmps89
  go_wp2_with fail
  refine (next_op S false br w h).mono ?_
  rintro e w1 ⟨rfl, h1, hO⟩
  have hfd := fun w => field_n (S.next false).1.text (S.next false).1.n (S.next false).1.s w
  go_wp2
  go_ret
  exact ⟨rfl, h1, hO⟩

set_option maxRecDepth 100000 in
set_option maxHeartbeats 400000 in
theorem text_rd (S : Rd) (br : Nat) (w : World) (h : RdH w br S) :
    Calls Tryz.prog 180 #[.pointer (some ⟨br, 0, none⟩)] w fun e w' => e = .returned (.string S.txt.1) ∧ RdH w' br S.txt.2 ∧ One br w w' := by
  go_enter Tryz.func180, Tryz.ntmps180
  go_wp2_with fail
  refine (next_op S true br w h).mono ?_
  rintro e w1 ⟨rfl, h1, hO⟩
  have hfd := fun w => field_s (S.next true).1.text (S.next true).1.n (S.next true).1.s w
  go_wp2
  go_ret
  exact ⟨rfl, h1, hO⟩

def Rd.done (S : Rd) : Bool := !S.wrong && S.rest.length == 0
set_option maxRecDepth 100000 in
set_option maxHeartbeats 400000 in
theorem isDone_rd (S : Rd) (br : Nat) (w : World) (h : RdH w br S) :
    Calls Tryz.prog 91 #[.pointer (some ⟨br, 0, none⟩)] w fun e w' => e = .returned (.bool S.done) ∧ w' = w := by
  obtain ⟨a, c, h⟩ := h
  have c0 := h.c0
  have c1 := h.c1
  clear h
  obtain ⟨rest, wr⟩ := S
  simp only at c0 c1
  cases wr
  · go_enter Tryz.func91, Tryz.ntmps91
    go_wp2
    go_ret
    refine ⟨?_, rfl⟩
    show Ending.returned (.bool ((rest.length : Int) == 0)) = Ending.returned (.bool (!false && rest.length == 0))
    congr 2
    rw [Bool.eq_iff_iff]
    simp
  · go_enter Tryz.func91, Tryz.ntmps91
    go_wp2
    go_ret
    exact ⟨rfl, rfl⟩

theorem decF_most (s : ByteArray) : ∀ (f p : Nat) (l : List Fld), l.length ≤ 4096 → (decF s f p l).1.length ≤ 4096
  | 0, _, _, h => h
  | f + 1, p, l, h => by
    rw [decF]
    split
    · split
      · exact Nat.zero_le _
      · split
        · exact Nat.zero_le _
        · exact decF_most s f _ _ (by simp; omega)
    · exact h
theorem decode_most (s : ByteArray) : (Go.Proofs.YtmpahgklcabihaaGreat.decode s).1.length ≤ 4096 := by
  unfold Go.Proofs.YtmpahgklcabihaaGreat.decode
  split
  · exact Nat.zero_le _
  · exact decF_most s _ _ _ (Nat.zero_le _)
/-- a new reader -/
theorem RdH.new {w : World} {B : Nat} {v : Value} {l : List Fld} (h : w.ownsRow B 120 3 v l.length (fcells l)) (hl : l.length ≤ 4096) : RdH (w.alloc (.cells #[v, .bool false] 207)) w.heap.size ⟨l, false⟩ := by
  have h0 : Gk.Row w fenc 120 3 v l := Gk.own_mono h (Nat.zero_le _)
  rcases h.2 with ⟨rfl, hz⟩ | ⟨g, cap, cur, rfl, _, hg, hnc, _⟩
  · have : l = [] := List.eq_nil_of_length_eq_zero hz
    subst this
    exact ⟨none, 0, heap_alloc_new w _, Or.inl rfl, Nat.le_refl _, Nat.zero_le _, fun _ _ e _ => by cases e⟩
  · refine ⟨_, cap, heap_alloc_new w _, (h0.below (below1 w _)).lies, hnc, hl, fun b off e _ => ?_⟩
    cases e
    exact (Array.getElem?_eq_some_iff.1 hg).1
theorem One.below {br : Nat} {w w' : World} (h : One br w w') {B : Nat} (hB : B ≤ br) (hz : B ≤ w.heap.size) : Below B w w' := Only.below h hz (fun b e => by omega)
set_option maxRecDepth 100000 in
theorem Read_rd (a : Option Addr) (n c : Nat) (w : World) :
    Calls Tryz.prog 87 #[.slice a n c] w fun e w' => e = .returned (.pointer (some ⟨w.heap.size, 0, none⟩)) ∧ w' = w.alloc (.cells #[.slice a n c, .bool false] 207) := by
  go_enter Tryz.func87, Tryz.ntmps87
  go_wp2
  go_ret
  exact ⟨rfl, rfl⟩

end Go.Proofs.YtmpahgklcabihaaGreat.Fd
