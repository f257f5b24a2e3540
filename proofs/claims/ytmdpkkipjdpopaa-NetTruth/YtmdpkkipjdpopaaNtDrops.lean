/- NetDrops: what is dropped of a node is all from it and to it, and no other letter: those stay in their order. Proved: for every list of calls and every node, no condition. -/
import Derived.Test.YtmdpkkipjdpopaaNtFree
import Derived.Test.YtmdpkkipjdpopaaNtActs
import Derived.Test.YtmdpkkipjdpopaaGAmong
import Derived.Test.YtmdpkkipjdpopaaGApp
namespace Go.Proofs.Ytmdpkkipjdpopaa.Nk
open Go.RowKit Go.Joins Gk
attribute [local go_sem ↓] Go.wp_at_zero Go.wp_at_succ

abbrev IntT : TypeId := 3
def exX : ByteArray := ⟨#[120]⟩
theorem hasN_mod (x : Int) (n : Nat) (hn : 0 < n) : hasN n (x % (n : Int)) = true := by
  rw [hasN_iff]; exact ⟨Int.emod_nonneg _ (by omega), Int.emod_lt_of_pos _ (by omega)⟩

/-- while letters are sent: what is left of them, what will be gone -/
structure Droppy (nd : Int) (S : Nst) (k : Nat) (gone : Nat) (left : List Int) : Prop where
  nodes : S.nodes = 4
  sent : S.sent = k
  len : S.ls.length = k
  gone : gone = (S.ls.filter (touches nd)).length
  left : left = (S.ls.filter fun x => !touches nd x).map fun x => (x.id : Int)
theorem Droppy.post {nd : Int} {S : Nst} {k gone : Nat} {left : List Int} (h : Droppy nd S k gone left) (hk : k < 100) (a b : Int) (hok : S.Ok) :
    S.send (a % 4) (b % 4) exX = (((k : Int), 0), S.post (a % 4).toNat (b % 4).toNat exX) ∧ (S.post (a % 4).toNat (b % 4).toNat exX).Ok ∧
    ((a % 4 = nd ∨ b % 4 = nd) → Droppy nd (S.post (a % 4).toNat (b % 4).toNat exX) (k + 1) (gone + 1) left) ∧
    (¬ (a % 4 = nd ∨ b % 4 = nd) → Droppy nd (S.post (a % 4).toNat (b % 4).toNat exX) (k + 1) gone (left ++ [(k : Int)])) := by
  have hf : S.full = false := full_iff.2 ⟨by rw [h.len]; omega, by rw [h.sent]; omega⟩
  have ha : hasN S.nodes (a % 4) = true := by rw [h.nodes]; exact hasN_mod a 4 (by omega)
  have hb : hasN S.nodes (b % 4) = true := by rw [h.nodes]; exact hasN_mod b 4 (by omega)
  have e1 : S.send (a % 4) (b % 4) exX = (((k : Int), 0), S.post (a % 4).toNat (b % 4).toNat exX) := by
    rw [Nst.send, if_neg (by rw [ha, hb]; simp), if_neg (by rw [hf]; simp [exX]; decide), h.sent]
  have hok' := hok.send (a % 4) (b % 4) exX
  rw [e1] at hok'
  have ha0 : (((a % 4).toNat : Nat) : Int) = a % 4 := Int.toNat_of_nonneg (Int.emod_nonneg _ (by omega))
  have hb0 : (((b % 4).toNat : Nat) : Int) = b % 4 := Int.toNat_of_nonneg (Int.emod_nonneg _ (by omega))
  have ht : touches nd ⟨S.sent, (a % 4).toNat, (b % 4).toNat, exX⟩ = decide (a % 4 = nd ∨ b % 4 = nd) := by
    show ((((a % 4).toNat : Nat) : Int) == nd || (((b % 4).toNat : Nat) : Int) == nd) = _
    rw [ha0, hb0, Bool.eq_iff_iff]; simp
  refine ⟨e1, hok', fun hc => ?_, fun hc => ?_⟩
  · refine ⟨h.nodes, by show S.sent + 1 = k + 1; rw [h.sent], by simp [Nst.post, h.len], ?_, ?_⟩
    · simp only [Nst.post, List.filter_append, List.length_append, h.gone]
      rw [List.filter_cons, ht]; simp [hc]
    · simp only [Nst.post, List.filter_append, List.map_append]
      rw [List.filter_cons, ht]; simp [hc, h.left]
  · refine ⟨h.nodes, by show S.sent + 1 = k + 1; rw [h.sent], by simp [Nst.post, h.len], ?_, ?_⟩
    · simp only [Nst.post, List.filter_append, List.length_append, h.gone]
      rw [List.filter_cons, ht]; simp [hc]
    · simp only [Nst.post, List.filter_append, List.map_append]
      rw [List.filter_cons, ht]; simp [hc, h.left, h.sent]
theorem filter_two {α : Type} (p : α → Bool) (l : List α) : l.length = (l.filter p).length + (l.filter fun x => !p x).length := by
  induction l with
  | nil => rfl
  | cons x r ih => rw [List.filter_cons, List.filter_cons]; cases p x <;> simp <;> omega
theorem Droppy.drop {nd : Int} {S : Nst} {k gone : Nat} {left : List Int} (h : Droppy nd S k gone left) (hnd : 0 ≤ nd ∧ nd < 4) :
    S.drop nd = (((gone : Int), 0), { S with ls := S.ls.filter fun x => !touches nd x }) := by
  have hn : hasN S.nodes nd = true := by rw [h.nodes, hasN_iff]; omega
  rw [Nst.drop, if_neg (by rw [hn]; simp)]
  have := filter_two (touches nd) S.ls
  rw [h.gone]
  congr 2
  omega

/-- two cells of an old block -/
abbrev Sc2 (w : World) (b o o' : Nat) (c c' : Value) (W : World) : Prop := (W.cell? ⟨b, o, none⟩ = some c ∧ W.cell? ⟨b, o', none⟩ = some c') ∧ W.heap = w.heap ∧ Below w.heap.size w W
theorem Sc2.drew {w : World} {b o o' : Nat} {c c' : Value} {A : World} (h : Sc2 w b o o' c c' A) : Sc2 w b o o' c c' A.drew := ⟨⟨by simpa using h.1.1, by simpa using h.1.2⟩, h.2.1, h.2.2.drew⟩

set_option maxHeartbeats 6400000 in
set_option maxRecDepth 100000 in
theorem drops_law (a : Option Addr) (cap : Nat) (ac : List ActV) (node : Int) (w : World) (hl : ActsAt w a cap ac) (wf : (Lit.int .i64 node).wf = true) :
    Calls Try.prog 7 #[.slice a ac.length cap, .int .i64 node] w fun e w' => e = .returned (.bool true) ∧ Below w.heap.size w w' := by
  have hnb := bounds_i64 wf
  have hrm := hl.room
  have hmx := hl.max
  go_enter Try.func7, Try.ntmps7
  go_wp2_with fail
  refine (new_ok 4 _ (by omega) (by omega) (above w) (Nat.le_refl _)).mono ?_
  rintro e w0 ⟨bn, rfl, -, hh0, hb0⟩
  go_wp2_with fail
  refine (works_any w0).mono ?_
  rintro e w1 ⟨rfl, hb1⟩
  have hh1 := hh0.below hb1
  have hbw : Below w.heap.size w w1 := hb0.trans (hb1.mono hb0.size)
  clear hh0 hb0 hb1
  have hnd : 0 ≤ node % 4 ∧ node % 4 < 4 := ⟨Int.emod_nonneg _ (by omega), Int.emod_lt_of_pos _ (by omega)⟩
  have hAm := fun W => among_any node 4 W (by omega) (by omega) hnb.1 hnb.2
  generalize node % 4 = nd at *
  go_wp2_with (go_at_call 16; refine (hAm _).mono ?_; rintro e w2 ⟨rfl, rfl⟩)
  go_loopw [7, 8, 9] (fun lf gn i wr => ∃ (k gone : Nat) (left : List Int) (S : Nst), k ≤ ac.length ∧ k ≤ 100 ∧ i = .int .i64 k ∧ gn = .int .i64 gone ∧ gone ≤ k ∧ Row wr ienc IntT 1 lf left ∧ (∀ g, lf.ownBlock = some g → w.heap.size ≤ g) ∧ left.length ≤ k ∧ NHeld wr (above w) bn S ∧ S.Ok ∧ Hid (Droppy nd S k gone left) ∧ Below w.heap.size w wr) (fun _ _ i _ => 100 - (intOf i).toNat)
  case atStart => exact ⟨0, 0, [], ⟨4, 0, [], []⟩, by omega, by omega, rfl, rfl, by omega, Row.nil _ _, fun g hg => by simp [Value.ownBlock] at hg, by simp, hh1, Nst.Ok.new (by omega) (by omega), ⟨rfl, rfl, rfl, rfl, rfl⟩, hbw⟩
  case round =>
    obtain ⟨k, gone, left, S, hk, hk1, rfl, rfl, hgk, hrow, hab, hlk, hh, hok, HD, hbel⟩ := hrel
    obtain ⟨av, cv, rfl⟩ := hrow.slice
    by_cases hlt : k < ac.length ∧ k < 100
    · obtain ⟨hlt1, hlt2⟩ := hlt
      have j1 : (k : Int) < (ac.length : Int) := by omega
      have j2 : (k : Int) < 100 := by omega
      have j0 : (0 : Int) ≤ (k : Int) := by omega
      obtain ⟨b, off, rfl, hbl, hc⟩ := (hl.lies.below hbel).at aenc_len k hlt1
      have hx := hl.each ac[k] (List.getElem_mem hlt1)
      have ca := hc 1 _ rfl
      have cb := hc 2 _ rfl
      clear hc
      generalize ac[k] = x at *
      obtain ⟨p1, p2, p3, p4⟩ := HD.out.post hlt2 x.a x.b hok
      have HP3 := hide p3
      have HP4 := hide p4
      have hxa := hx.a
      have hxb := hx.b
      have HS := fun W (hh : NHeld W (above w) bn S) (hb : Below w.heap.size w W) => send_kept hh hb hok (x.a % 4) (x.b % 4) exX (by decide)
      rw [p1] at HS
      have hHS := hide HS
      have HOK := hide p2
      clear p1 p2 p3 p4 HS hx
      go_wp2_with fail
      have hS : Sc2 wr b (off + k * 6 + 1) (off + k * 6 + 2) (.int .i64 x.a) (.int .i64 x.b) wr := ⟨⟨ca, cb⟩, rfl, Below.refl _ _⟩
      go_region_held3 (Sc2 wr b (off + k * 6 + 1) (off + k * 6 + 2) (.int .i64 x.a) (.int .i64 x.b)) (first | exact Sc2.drew (by assumption) | assumption)
        (first | (go_at_call 16; refine (among_any _ 4 _ (by omega) (by omega) (by omega) (by omega)).mono ?_; rintro e w3 ⟨rfl, rfl⟩))
      all_goals
        have hhd : NHeld wr.drew (above w) bn S := hh.below (Below.refl _ _).drew
        have hrd : Row wr.drew ienc IntT 1 (.slice av left.length cv) left := hrow
        clear hS ca cb
        by_cases hca : x.a % 4 = nd
        · have qa : (x.a % 4 == nd) = true := by rw [hca]; simp
          have HN := hide (HP3.out (Or.inl hca))
          clear hca
          go_wp2_with (go_at_call 13; refine (hHS.out _ hhd hbel.drew).mono ?_; rintro e w4 ⟨rfl, hK⟩)
          go_roundw
          case rel => exact ⟨k + 1, gone + 1, left, _, by omega, by omega, by go_num, by go_num, by omega, hK.row hrd (by decide) (by decide) (by decide), hab, by omega, hK.held, HOK.out, HN, hK.below⟩
          case measure => simp [intOf]; omega
        · have qa : (x.a % 4 == nd) = false := by simpa using hca
          by_cases hcb : x.b % 4 = nd
          · have qb : (x.b % 4 == nd) = true := by rw [hcb]; simp
            have HN := hide (HP3.out (Or.inr hcb))
            clear hca hcb
            go_wp2_with (go_at_call 13; refine (hHS.out _ hhd hbel.drew).mono ?_; rintro e w4 ⟨rfl, hK⟩)
            go_roundw
            case rel => exact ⟨k + 1, gone + 1, left, _, by omega, by omega, by go_num, by go_num, by omega, hK.row hrd (by decide) (by decide) (by decide), hab, by omega, hK.held, HOK.out, HN, hK.below⟩
            case measure => simp [intOf]; omega
          · have qb : (x.b % 4 == nd) = false := by simpa using hcb
            have HN := hide (HP4.out (fun h => h.elim hca hcb))
            clear hca hcb
            go_wp2_with (first | (go_at_call 13; refine (hHS.out _ hhd hbel.drew).mono ?_; rintro e w4 ⟨rfl, hK⟩; have hr4 := hK.row hrd (by decide) (by decide) (by decide)) | (at_builtin; refine wpList_push (enc := ienc) (k := 1) rfl (.tmp 76) (.tmp 78) 57 rfl IntT (.int .i64 0) 8 Try.underlying57 int_info rfl (by decide) ienc_len ienc_one 0 _ left rfl (hr4.below (below_alloc1 w4 _)) w4.heap.size (k : Int) rfl (heap_alloc_new w4 _) ?c1 ?c2 (Nat.zero_le _) ?_))
            case c1 => omega
            case c2 => omega
            intro v5 w5 hown5 hg5 hat5
            have hr5 : Row w5 ienc IntT 1 v5 (left ++ [(k : Int)]) := by
              show w5.ownsRow 0 IntT 1 v5 (left ++ [(k : Int)]).length _
              rw [List.length_append]; exact hown5
            have hh5 := (hK.held.below (below_alloc1 w4 _)).grown (hr4.below (below_alloc1 w4 _)) (by decide) (by decide) (by decide) hg5
            have hb4 := hK.below.alloc hK.below.size (.cells #[.int .i64 (k : Int)] IntT)
            have hb5 := below_grown hb4 hg5 hab
            have hab5 : ∀ g, v5.ownBlock = some g → w.heap.size ≤ g := fun g hg => (hat5 g hg).elim (hab g) fun h => by have := hK.below.size; omega
            clear hown5 hg5 hat5 hr4 hK hrd hhd hHS
            go_wp2
            go_roundw
            case rel => exact ⟨k + 1, gone, left ++ [(k : Int)], _, by omega, by omega, by go_num, rfl, by omega, hr5, hab5, by simp; omega, hh5, HOK.out, HN, hb5⟩
            case measure => simp [intOf]; omega
    · have hDr := fun W (hh : NHeld W (above w) bn S) (hb : Below w.heap.size w W) => drop_kept hh hb hok nd
      rw [HD.out.drop hnd] at hDr
      have hok' := hok.drop nd
      rw [HD.out.drop hnd] at hok'
      have HL := hide HD.out.left
      obtain ⟨S', hS'⟩ : ∃ S' : Nst, S' = { S with ls := S.ls.filter fun x => !touches nd x } := ⟨_, rfl⟩
      have hLf := hide (show left = S'.ls.map fun x => (x.id : Int) by rw [hS']; exact HL.out)
      have hLl : S'.ls.length = left.length := by rw [hLf.out, List.length_map]
      simp only at hDr hok'
      rw [← hS'] at hDr hok'
      clear HD hS' HL
      have hq : ((gone : Int) != (gone : Int)) = false := by simp
      have hql : ((left.length : Int) != (left.length : Int)) = false := by simp
      by_cases hl1 : (k : Int) < (ac.length : Int)
      all_goals
        have hl2 : (k : Int) < (ac.length : Int) → ¬ (k : Int) < 100 := fun h h' => hlt ⟨by omega, by omega⟩
        first | (have hl3 := hl2 hl1; clear hl2) | clear hl2
        go_wp2_with fail
        refine (hDr _ hh hbel).mono ?_
        rintro e w4 ⟨rfl, hK⟩
        have hr4 := hK.row hrow (by decide) (by decide) (by decide)
        have hb4 := hK.below
        have hLet := letters_any w4 hK.held hok'
        rw [hLl] at hLet
        clear hDr hh hbel hrow hK
        go_wp2_with fail
        refine hLet.mono ?_
        rintro e w5 ⟨v5, rfl, hown5, hb5⟩
        obtain ⟨a5, c5, rfl⟩ := own_slice hown5
        have hr5 := hr4.below hb5
        have hbw5 : Below w.heap.size w w5 := hb4.trans (hb5.mono hb4.size)
        have hlets : Lies w5 lenc a5 S'.ls := by
          have : Row w5 lenc LetT 4 (.slice a5 left.length c5) S'.ls := by
            show w5.ownsRow 0 LetT 4 _ S'.ls.length _
            rw [hLl]; exact own_mono hown5 (Nat.zero_le _)
          exact this.lies
        have hints := hr5.lies
        clear hLet hr4 hb4 hb5 hown5 hr5
        go_wp2
        go_loopw [17, 18, 102] (fun _ _ i wr => ∃ j : Nat, j ≤ left.length ∧ i = .int .i64 j ∧ Below w5.heap.size w5 wr) (fun _ _ i _ => left.length - (intOf i).toNat)
        case atStart => exact ⟨0, by omega, rfl, Below.refl _ _⟩
        case round =>
          obtain ⟨j, hj, rfl, hbj⟩ := hrel
          by_cases hjl : j < left.length
          · obtain ⟨b1, o1, rfl, hl1', hc1⟩ := (hlets.below hbj).at lenc_len j (by omega)
            obtain ⟨b2, o2, rfl, hl2', hc2⟩ := (hints.below hbj).at ienc_len j hjl
            have e0 := hc1 0 _ rfl
            have e1 := hc1 1 _ rfl
            have e2 := hc1 2 _ rfl
            have e3 := hc1 3 _ rfl
            have f0 := hc2 0 _ rfl
            have hxe : left[j] = ((S'.ls[j]'(by omega)).id : Int) := by
              have : left[j]? = (S'.ls.map fun x => (x.id : Int))[j]? := by rw [← hLf.out]
              rw [List.getElem?_eq_getElem hjl, List.getElem?_map, List.getElem?_eq_getElem (by omega)] at this
              exact Option.some.inj this
            rw [hxe] at f0
            rw [Nat.add_zero] at e0 f0
            rw [Nat.mul_one] at f0
            clear hc1 hc2 hxe
            generalize S'.ls[j]'(by omega) = x at *
            have i1 : (0 : Int) ≤ (j : Int) := by omega
            have i2 : (j : Int) < (left.length : Int) := by omega
            have hqx : ((x.id : Int) != (x.id : Int)) = false := by simp
            have hne : b2 ≠ wr.heap.size := by omega
            go_wp2
            go_quiet (fail)
            go_wp2
            go_roundw
            case rel => exact ⟨j + 1, by omega, by go_num, (hbj.alloc hbj.size _).trans (below_draws _ _ _)⟩
            case measure => simp [intOf]; omega
          · go_wp2
            go_ret
            exact ⟨rfl, hbw5.trans (hbj.mono hbw5.size)⟩

end Go.Proofs.Ytmdpkkipjdpopaa.Nk
