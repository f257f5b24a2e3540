/- NetWaits: letters of nodes that are parted wait: none is lost, and, joined again, all can be taken; those of others are not held up. Proved: for all lists, no condition. -/
import Derived.Test.YtmdpkkipjdpopaaNtDrops
import Derived.Test.YtmdpkkipjdpopaaGArgsI
import Derived.Test.YtmdpkkipjdpopaaGArgsT
namespace Go.Proofs.Ytmdpkkipjdpopaa.Nk
open Go.RowKit Go.Joins Gk
attribute [local go_sem ↓] Go.wp_at_zero Go.wp_at_succ

structure Waity (S : Nst) (k : Nat) (ids : List Int) : Prop where
  nodes : S.nodes = 3
  sent : S.sent = k
  ps : S.ps = [(0, 1)]
  ids : S.ls.map (fun x => (x.id : Int)) = ids
  len : S.ls.length ≤ k
  each : ∀ x ∈ S.ls, x.id < k ∧ x.fr = 0 ∧ x.to = 1

theorem Waity.send {S : Nst} {k : Nat} {ids : List Int} (h : Waity S k ids) (hk : k < 60) (s : ByteArray) (hs : s.size ≤ 1000) (t : Nat) (ht : t = 1 ∨ t = 2) :
    S.send 0 (t : Int) s = (((k : Int), 0), S.post 0 t s) := by
  have hf : S.full = false := full_iff.2 ⟨by have := h.len; omega, by rw [h.sent]; omega⟩
  have h1 : hasN S.nodes 0 = true := by rw [h.nodes]; decide
  have h2 : hasN S.nodes (t : Int) = true := by rw [h.nodes, hasN_iff]; omega
  rw [Nst.send, if_neg (by rw [h1, h2]; simp), if_neg (by rw [hf]; simp; omega), h.sent]; rfl
theorem Waity.find {S : Nst} {k : Nat} {ids : List Int} (h : Waity S k ids) (s : ByteArray) (t : Nat) : (S.post 0 t s).find (k : Int) = some S.ls.length ∧ (S.post 0 t s).ls[S.ls.length]? = some ⟨k, 0, t, s⟩ := by
  constructor
  · show (S.ls ++ [Lt.mk S.sent 0 t s]).findIdx? (isId (k : Int)) = some S.ls.length
    rw [List.findIdx?_eq_some_iff_getElem]
    refine ⟨by simp, by simp [isId, h.sent], fun j hj => ?_⟩
    rw [List.getElem_append_left hj]
    have := (h.each S.ls[j] (List.getElem_mem hj)).1
    simp only [isId, Bool.not_eq_true, beq_eq_false_iff_ne]
    omega
  · simp [Nst.post, h.sent]
theorem Waity.take2 {S : Nst} {k : Nat} {ids : List Int} (h : Waity S k ids) (s : ByteArray) : (S.post 0 2 s).take (k : Int) = ((some ⟨k, 0, 2, s⟩, 0), { S with sent := k + 1 }) ∧ Waity { S with sent := k + 1 } (k + 1) ids := by
  obtain ⟨f1, f2⟩ := h.find s 2
  have hp : (S.post 0 2 s).parted 0 2 = false := by
    show memP (prOf 0 2) S.ps = false
    rw [h.ps]; decide
  constructor
  · simp only [Nst.take, f1, f2, hp]
    simp [Nst.post, h.sent, List.eraseIdx_append_of_length_le]
  · exact ⟨h.nodes, rfl, h.ps, h.ids, by have := h.len; exact Nat.le_succ_of_le this, fun x hx => by have := h.each x hx; exact ⟨by omega, this.2⟩⟩
theorem Waity.take1 {S : Nst} {k : Nat} {ids : List Int} (h : Waity S k ids) (s : ByteArray) : (S.post 0 1 s).take (k : Int) = ((none, 4), S.post 0 1 s) ∧ Waity (S.post 0 1 s) (k + 1) (ids ++ [(k : Int)]) := by
  obtain ⟨f1, f2⟩ := h.find s 1
  have hp : (S.post 0 1 s).parted 0 1 = true := by
    show memP (prOf 0 1) S.ps = true
    rw [h.ps]; decide
  constructor
  · simp only [Nst.take, f1, f2, hp]; simp
  · refine ⟨h.nodes, by show S.sent + 1 = k + 1; rw [h.sent], h.ps, by simp [Nst.post, h.ids, h.sent], by have := h.len; simp [Nst.post]; omega, fun x hx => ?_⟩
    simp only [Nst.post, List.mem_append, List.mem_singleton] at hx
    rcases hx with hx | rfl
    · have := h.each x hx; exact ⟨by omega, this.2⟩
    · exact ⟨by rw [h.sent]; show k < k + 1; omega, rfl, rfl⟩
/-- joined again: what is left to be taken -/
structure Freed (S : Nst) (ids : List Int) : Prop where
  ps : S.ps = []
  ids : S.ls.map (fun x => (x.id : Int)) = ids
theorem Waity.join {S : Nst} {k : Nat} {ids : List Int} (h : Waity S k ids) : (S.join 1 0).1 = 0 ∧ Freed (S.join 1 0).2 ids := by
  have h1 : hasN S.nodes 0 = true := by rw [h.nodes]; decide
  have h2 : hasN S.nodes 1 = true := by rw [h.nodes]; decide
  have hj : S.join 1 0 = (0, { S with ps := S.ps.filter fun p => !isPr (prOf 1 0) p }) := by rw [Nst.join, if_neg (by rw [h1, h2]; simp)]; rfl
  rw [hj]
  exact ⟨rfl, by show S.ps.filter _ = []; rw [h.ps]; decide, h.ids⟩
theorem Freed.take {S : Nst} {i : Int} {r : List Int} (h : Freed S (i :: r)) : ∃ x, (S.take i).1 = (some x, 0) ∧ Freed (S.take i).2 r := by
  obtain ⟨n, st, ls, ps⟩ := S
  obtain ⟨h1, h2⟩ := h
  simp only at h1 h2
  cases ls with
  | nil => simp at h2
  | cons x xs =>
    simp only [List.map_cons, List.cons.injEq] at h2
    have hf : (⟨n, st, x :: xs, ps⟩ : Nst).find i = some 0 := by
      show (x :: xs).findIdx? (isId i) = some 0
      simp [List.findIdx?_cons, isId, h2.1]
    have hp : (⟨n, st, x :: xs, ps⟩ : Nst).parted x.fr x.to = false := by
      show memP (prOf x.fr x.to) ps = false
      rw [h1]; rfl
    refine ⟨x, ?_, ?_⟩
    · simp only [Nst.take, hf]; simp [hp]
    · simp only [Nst.take, hf]
      simp only [List.getElem?_cons_zero, hp]
      exact ⟨h1, h2.2⟩

def wait0 : Nst := ⟨3, 0, [], [(0, 1)]⟩
theorem wait0_waity : Waity wait0 0 [] := ⟨rfl, rfl, rfl, rfl, by simp [wait0], by simp [wait0]⟩

set_option maxHeartbeats 6400000 in
set_option maxRecDepth 100000 in
theorem waits_law (a : Option Addr) (cap : Nat) (ts : List ByteArray) (a' : Option Addr) (cap' : Nat) (ds : List Int) (w : World) (hl : TextsAt w a cap ts) (hl' : IntsAt w a' cap' ds) :
    Calls Try.prog 6 #[.slice a ts.length cap, .slice a' ds.length cap'] w fun e w' => e = .returned (.bool true) ∧ Below w.heap.size w w' := by
  have hrm := hl.room
  have hmx := hl.max
  have hrm' := hl'.room
  have hmx' := hl'.max
  have ok0 : (⟨3, 0, [], []⟩ : Nst).Ok := Nst.Ok.new (by omega) (by omega)
  have hP0 : (⟨3, 0, [], []⟩ : Nst).part 0 1 = (0, wait0) := by rfl
  have okw : wait0.Ok := by have := ok0.part 0 1; rw [hP0] at this; exact this
  have cP : ∀ W bn, NHeld W (above w) bn ⟨3, 0, [], []⟩ → Below w.heap.size w W → Calls Try.prog 20 #[.pointer (some ⟨bn, 0, none⟩), .int .i64 0, .int .i64 1] W fun e w' => e = .returned (.int .i64 0) ∧ Kept w W w' bn wait0 := fun W bn h hb => by
    have := part_kept h hb ok0 0 1
    rw [hP0] at this; exact this
  clear hP0
  go_enter Try.func6, Try.ntmps6
  go_wp2_with fail
  refine (new_ok 3 _ (by omega) (by omega) (above w) (Nat.le_refl _)).mono ?_
  rintro e w0 ⟨bn, rfl, -, hh0, hb0⟩
  go_wp2_with fail
  refine (works_any w0).mono ?_
  rintro e w1 ⟨rfl, hb1⟩
  have hh1 := hh0.below hb1
  have hbw : Below w.heap.size w w1 := hb0.trans (hb1.mono hb0.size)
  clear hh0 hb0 hb1
  go_wp2_with fail
  refine (cP w1 bn hh1 hbw).mono ?_
  rintro e w2 ⟨rfl, hK2⟩
  clear cP hh1 hbw
  go_wp2
  go_loopw [7, 8, 9, 10, 11, 12] (fun lf i _ _ _ _ wr => ∃ (k : Nat) (ids : List Int) (S : Nst), k ≤ ts.length ∧ k ≤ 60 ∧ i = .int .i64 k ∧ Row wr ienc IntT 1 lf ids ∧ (∀ g, lf.ownBlock = some g → w.heap.size ≤ g) ∧ ids.length ≤ k ∧ NHeld wr (above w) bn S ∧ S.Ok ∧ Hid (Waity S k ids) ∧ Below w.heap.size w wr) (fun _ i _ _ _ _ _ => 60 - (intOf i).toNat)
  case atStart => exact ⟨0, [], wait0, by omega, by omega, rfl, Row.nil _ _, fun g hg => by simp [Value.ownBlock] at hg, by simp, hK2.held, okw, wait0_waity, hK2.below⟩
  case round =>
    obtain ⟨k, ids, S, hk, hk1, rfl, hrow, hab, hlk, hh, hok, HD, hbel⟩ := hrel
    obtain ⟨av, cv, rfl⟩ := hrow.slice
    by_cases hlt : k < ts.length ∧ k < 60
    · obtain ⟨hlt1, hlt2⟩ := hlt
      have j1 : (k : Int) < (ts.length : Int) := by omega
      have j2 : (k : Int) < 60 := by omega
      have j0 : (0 : Int) ≤ (k : Int) := by omega
      obtain ⟨b, off, rfl, hbl, hc⟩ := hl.lies.at tenc_len k hlt1
      have hx := hl.each ts[k] (List.getElem_mem hlt1)
      have ca0 := hc 0 _ rfl
      rw [Nat.add_zero, Nat.mul_one] at ca0
      clear hc
      generalize ts[k] = x at *
      have ca := (hbel.cell (p := ⟨b, off + k, none⟩) hbl).trans ca0
      by_cases hbig : 1000 < x.size
      · have hbig' : (1000 : Int) < (x.size : Int) := by omega
        go_wp2
        go_ret
        exact ⟨rfl, hbel⟩
      · have hbig' : ¬ (1000 : Int) < (x.size : Int) := by omega
        have hS1 := fun W (hh : NHeld W (above w) bn S) (hb : Below w.heap.size w W) => send_kept hh hb hok 0 1 x (by omega)
        rw [show S.send 0 1 x = _ from HD.out.send hlt2 x (by omega) 1 (Or.inl rfl)] at hS1
        have hS2 := fun W (hh : NHeld W (above w) bn S) (hb : Below w.heap.size w W) => send_kept hh hb hok 0 2 x (by omega)
        rw [show S.send 0 2 x = _ from HD.out.send hlt2 x (by omega) 2 (Or.inr rfl)] at hS2
        have ok1 := hok.send 0 1 x
        rw [show S.send 0 1 x = _ from HD.out.send hlt2 x (by omega) 1 (Or.inl rfl)] at ok1
        have ok2 := hok.send 0 2 x
        rw [show S.send 0 2 x = _ from HD.out.send hlt2 x (by omega) 2 (Or.inr rfl)] at ok2
        simp only at hS1 hS2 ok1 ok2
        obtain ⟨t1, w1'⟩ := HD.out.take1 x
        obtain ⟨t2, w2'⟩ := HD.out.take2 x
        have hT1 := fun W (hh : NHeld W (above w) bn (S.post 0 1 x)) (hb : Below w.heap.size w W) => take_kept hh hb ok1 (k : Int)
        have hT2 := fun W (hh : NHeld W (above w) bn (S.post 0 2 x)) (hb : Below w.heap.size w W) => take_kept hh hb ok2 (k : Int)
        have ok3 := ok2.take (k : Int)
        rw [t1] at hT1
        rw [t2] at hT2 ok3
        simp only [optV] at hT1 hT2 ok3
        have HW1 := hide w1'
        have HW2 := hide w2'
        have H1 := hide ok1
        have H3 := hide ok3
        have hxx : (x.toList != x.toList) = false := by simp
        clear t1 t2 w1' w2' ok1 ok2 ok3
        generalize S.post 0 1 x = P1 at *
        generalize S.post 0 2 x = P2 at *
        generalize ({ S with sent := k + 1 } : Nst) = P3 at *
        by_cases hw : k < ds.length
        · have hw' : (k : Int) < (ds.length : Int) := by omega
          obtain ⟨b2, o2, rfl, hbl2, hc2⟩ := hl'.lies.at ienc_len k hw
          have hy := hl'.each ds[k] (List.getElem_mem hw)
          have da := (hbel.cell (p := ⟨b2, o2 + k * 1 + 0, none⟩) hbl2).trans (hc2 0 _ rfl)
          rw [Nat.add_zero, Nat.mul_one] at da
          clear hc2
          generalize ds[k] = y at *
          have hm : y % 2 = 0 ∨ y % 2 = 1 := by omega
          rcases hm with hm | hm
          · go_wp2_with (first | (go_at_call 16; refine (among_any y 2 _ (by omega) (by omega) hy.1 hy.2).mono ?_; rintro e w3 ⟨rfl, rfl⟩) | (go_at_call 13; refine (hS1 _ hh hbel).mono ?_; rintro e w4 ⟨rfl, hK4⟩; have hr4 := hK4.row hrow (by decide) (by decide) (by decide)) | (go_at_call 18; refine (hT1 _ hK4.held hK4.below).mono ?_; rintro e w5 ⟨rfl, hK5⟩; have hr5 := hK5.row hr4 (by decide) (by decide) (by decide)))
            go_quiet (fail)
            obtain ⟨W6, hW6⟩ : ∃ W6, W6 = (w5.alloc (.cells #[.int .i64 0, .int .i64 0, .int .i64 0, .string ⟨#[]⟩] LetT)).drewN nq := ⟨_, rfl⟩
            rw [← hW6]
            have hb6 : Below w5.heap.size w5 W6 := by rw [hW6]; exact (below_alloc1 w5 _).trans (below_draws _ _ _)
            clear hW6
            have hr6 := hr5.below hb6
            have hh6 := hK5.held.below hb6
            have hbw6 := hK5.below.trans (hb6.mono hK5.below.size)
            clear hr5 hr4 hK4 hK5 hb6 ca hrow hh
            go_wp2_with (at_builtin; refine wpList_push (enc := ienc) (k := 1) rfl (.tmp 105) (.tmp 107) 57 rfl IntT (.int .i64 0) 8 Try.underlying57 int_info rfl (by decide) ienc_len ienc_one 0 _ ids rfl (hr6.below (below_alloc1 W6 _)) W6.heap.size (k : Int) rfl (heap_alloc_new W6 _) ?c1 ?c2 (Nat.zero_le _) ?_)
            case c1 => omega
            case c2 => omega
            intro v7 w7 hown7 hg7 hat7
            have hr7 : Row w7 ienc IntT 1 v7 (ids ++ [(k : Int)]) := by
              show w7.ownsRow 0 IntT 1 v7 (ids ++ [(k : Int)]).length _
              rw [List.length_append]; exact hown7
            have hh7 := (hh6.below (below_alloc1 W6 _)).grown (hr6.below (below_alloc1 W6 _)) (by decide) (by decide) (by decide) hg7
            have hb7 := below_grown (hbw6.alloc hbw6.size (.cells #[.int .i64 (k : Int)] IntT)) hg7 hab
            have hab7 : ∀ g, v7.ownBlock = some g → w.heap.size ≤ g := fun g hg => (hat7 g hg).elim (hab g) fun h => by have := hbw6.size; omega
            clear hown7 hg7 hat7 hr6 hh6 hbw6 hS1 hS2 hT1 hT2
            go_wp2
            go_roundw
            case rel => exact ⟨k + 1, ids ++ [(k : Int)], P1, by omega, by omega, by go_num, hr7, hab7, by simp; omega, hh7, H1.out, HW1, hb7⟩
            case measure => simp [intOf]; omega
          · go_wp2_with (first | (go_at_call 16; refine (among_any y 2 _ (by omega) (by omega) hy.1 hy.2).mono ?_; rintro e w3 ⟨rfl, rfl⟩) | (go_at_call 13; refine (hS2 _ hh hbel).mono ?_; rintro e w4 ⟨rfl, hK4⟩; have hr4 := hK4.row hrow (by decide) (by decide) (by decide)) | (go_at_call 18; refine (hT2 _ hK4.held hK4.below).mono ?_; rintro e w5 ⟨rfl, hK5⟩; have hr5 := hK5.row hr4 (by decide) (by decide) (by decide)))
            have ca5 := (hK5.below.cell (p := ⟨b, off + k, none⟩) hbl).trans ca0
            have hne5 : b ≠ w5.heap.size := by have := hK5.below.size; omega
            have caA : (w5.alloc (.cells #[.int .i64 k, .int .i64 0, .int .i64 2, .string x] LetT)).cell? ⟨b, off + k, none⟩ = some (.string x) := ((below_alloc1 w5 _).cell (p := ⟨b, off + k, none⟩) (Nat.lt_of_lt_of_le hbl hK5.below.size)).trans ca5
            clear ca hr4 hK4 hrow hh
            go_quiet (fail)
            go_wp2
            go_roundw
            case rel => exact ⟨k + 1, ids, P3, by omega, by omega, by go_num, hr5.below ((below_alloc1 w5 _).trans (below_draws _ _ _)), hab, by omega, hK5.held.below ((below_alloc1 w5 _).trans (below_draws _ _ _)), H3.out, HW2, (hK5.below.alloc hK5.below.size _).trans (below_draws _ _ _)⟩
            case measure => simp [intOf]; omega
        · have hw' : ¬ (k : Int) < (ds.length : Int) := by omega
          go_wp2_with (first | (go_at_call 13; refine (hS1 _ hh hbel).mono ?_; rintro e w4 ⟨rfl, hK4⟩; have hr4 := hK4.row hrow (by decide) (by decide) (by decide)) | (go_at_call 18; refine (hT1 _ hK4.held hK4.below).mono ?_; rintro e w5 ⟨rfl, hK5⟩; have hr5 := hK5.row hr4 (by decide) (by decide) (by decide)))
          go_quiet (fail)
          obtain ⟨W6, hW6⟩ : ∃ W6, W6 = (w5.alloc (.cells #[.int .i64 0, .int .i64 0, .int .i64 0, .string ⟨#[]⟩] LetT)).drewN nq := ⟨_, rfl⟩
          rw [← hW6]
          have hb6 : Below w5.heap.size w5 W6 := by rw [hW6]; exact (below_alloc1 w5 _).trans (below_draws _ _ _)
          clear hW6
          have hr6 := hr5.below hb6
          have hh6 := hK5.held.below hb6
          have hbw6 := hK5.below.trans (hb6.mono hK5.below.size)
          clear hr5 hr4 hK4 hK5 hb6 ca hrow hh
          go_wp2_with (at_builtin; refine wpList_push (enc := ienc) (k := 1) rfl (.tmp 105) (.tmp 107) 57 rfl IntT (.int .i64 0) 8 Try.underlying57 int_info rfl (by decide) ienc_len ienc_one 0 _ ids rfl (hr6.below (below_alloc1 W6 _)) W6.heap.size (k : Int) rfl (heap_alloc_new W6 _) ?c1 ?c2 (Nat.zero_le _) ?_)
          case c1 => omega
          case c2 => omega
          intro v7 w7 hown7 hg7 hat7
          have hr7 : Row w7 ienc IntT 1 v7 (ids ++ [(k : Int)]) := by
            show w7.ownsRow 0 IntT 1 v7 (ids ++ [(k : Int)]).length _
            rw [List.length_append]; exact hown7
          have hh7 := (hh6.below (below_alloc1 W6 _)).grown (hr6.below (below_alloc1 W6 _)) (by decide) (by decide) (by decide) hg7
          have hb7 := below_grown (hbw6.alloc hbw6.size (.cells #[.int .i64 (k : Int)] IntT)) hg7 hab
          have hab7 : ∀ g, v7.ownBlock = some g → w.heap.size ≤ g := fun g hg => (hat7 g hg).elim (hab g) fun h => by have := hbw6.size; omega
          clear hown7 hg7 hat7 hr6 hh6 hbw6 hS1 hS2 hT1 hT2
          go_wp2
          go_roundw
          case rel => exact ⟨k + 1, ids ++ [(k : Int)], P1, by omega, by omega, by go_num, hr7, hab7, by simp; omega, hh7, H1.out, HW1, hb7⟩
          case measure => simp [intOf]; omega
    · have hlen : S.ls.length = ids.length := by rw [← HD.out.ids, List.length_map]
      obtain ⟨jn1, jn2⟩ := HD.out.join
      have okj := hok.join 1 0
      have HJ := hide jn2
      have hJn := fun W (hh : NHeld W (above w) bn S) (hb : Below w.heap.size w W) => join_kept hh hb hok 1 0
      rw [jn1] at hJn
      clear jn1 jn2
      generalize (S.join 1 0).2 = S2 at *
      have hLet := letters_any wr hh hok
      rw [hlen] at hLet
      have hql : ((ids.length : Int) != (ids.length : Int)) = false := by simp
      by_cases hl1 : (k : Int) < (ts.length : Int)
      all_goals
        have hl2 : (k : Int) < (ts.length : Int) → ¬ (k : Int) < 60 := fun h h' => hlt ⟨by omega, by omega⟩
        first | (have hl3 := hl2 hl1; clear hl2) | clear hl2
        go_wp2_with fail
        refine hLet.mono ?_
        rintro e w4 ⟨v4, rfl, hown4, hb4⟩
        obtain ⟨a4, c4, rfl⟩ := own_slice hown4
        have hh4 := hh.below hb4
        have hr4 := hrow.below hb4
        have hbw4 := hbel.trans (hb4.mono hbel.size)
        clear hLet hown4 hb4 hh hrow hbel
        go_wp2_with fail
        refine (hJn _ hh4 hbw4).mono ?_
        rintro e w5 ⟨rfl, hK5⟩
        have hr5 := hK5.row hr4 (by decide) (by decide) (by decide)
        clear hJn hh4 hbw4 hr4
        go_wp2
        go_loopw [14, 15, 16, 122] (fun _ _ _ i wr => ∃ (j : Nat) (S' : Nst), j ≤ ids.length ∧ i = .int .i64 j ∧ Row wr ienc IntT 1 (.slice av ids.length cv) ids ∧ NHeld wr (above w) bn S' ∧ S'.Ok ∧ Hid (Freed S' (ids.drop j)) ∧ Below w.heap.size w wr) (fun _ _ _ i _ => ids.length - (intOf i).toNat)
        case atStart => exact ⟨0, S2, by omega, rfl, hr5, hK5.held, okj, HJ, hK5.below⟩
        case round =>
          obtain ⟨j, S', hj, rfl, hrj, hhj, hokj, HF, hbj⟩ := hrel
          by_cases hjl : j < ids.length
          · obtain ⟨b2, o2, rfl, hl2', hc2⟩ := hrj.lies.at ienc_len j hjl
            have f0 := hc2 0 _ rfl
            rw [Nat.add_zero, Nat.mul_one] at f0
            have hF := HF.out
            rw [List.drop_eq_getElem_cons hjl] at hF
            obtain ⟨x, hx1, hx2⟩ := hF.take
            have hokt := hokj.take ids[j]
            have hTk := take_kept hhj hbj hokj ids[j]
            rw [hx1] at hTk
            simp only [optV] at hTk
            have HX := hide hx2
            clear hc2 hF hx1 hx2
            generalize (S'.take ids[j]).2 = S3 at *
            generalize ids[j] = q at *
            have i1 : (0 : Int) ≤ (j : Int) := by omega
            have i2 : (j : Int) < (ids.length : Int) := by omega
            go_wp2_with (go_at_call 18; refine hTk.mono ?_; rintro e w6 ⟨rfl, hK6⟩)
            go_roundw
            case rel => exact ⟨j + 1, S3, by omega, by go_num, (hK6.row hrj (by decide) (by decide) (by decide)).below (below_alloc1 w6 _), hK6.held.below (below_alloc1 w6 _), hokt, HX, hK6.below.alloc hK6.below.size _⟩
            case measure => simp [intOf]; omega
          · have hS0 : S'.ls.length = 0 := by
              have := HF.out.ids
              rw [List.drop_of_length_le (by omega), List.map_eq_nil_iff] at this
              rw [this]; rfl
            have hLe := letters_any wr hhj hokj
            rw [hS0] at hLe
            go_wp2_with fail
            refine hLe.mono ?_
            rintro e w7 ⟨v7, rfl, hown7, hb7⟩
            obtain ⟨a7, c7, rfl⟩ := own_slice hown7
            clear hLe hown7
            go_wp2
            go_ret
            exact ⟨rfl, hbj.trans (hb7.mono hbj.size)⟩

end Go.Proofs.Ytmdpkkipjdpopaa.Nk
