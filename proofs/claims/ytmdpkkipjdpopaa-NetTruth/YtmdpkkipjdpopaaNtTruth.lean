/- NetTruth: what is taken was sent, by that node, to that one; each number is one letter's, told once; nothing is taken between nodes that are parted. Proved: for every list of calls, no condition. -/
import Derived.Test.YtmdpkkipjdpopaaNtDrops
import Derived.Test.YtmdpkkipjdpopaaGMap
namespace Go.Proofs.Ytmdpkkipjdpopaa.Nk
open Go.RowKit Go.Joins Gk
attribute [local go_sem ↓] Go.wp_at_zero Go.wp_at_succ

structure Truthy (S : Nst) (f g : Int → Option Value) : Prop where
  nodes : S.nodes = 4
  sent : ∀ x ∈ S.ls, f x.id = some (lval x)
  new : ∀ y, (S.sent : Int) ≤ y → f y = none
  taken : ∀ x ∈ S.ls, g x.id = none
  newT : ∀ y, (S.sent : Int) ≤ y → g y = none
  once : (S.ls.map Lt.id).Nodup

theorem Truthy.post {S : Nst} {f g : Int → Option Value} (h : Truthy S f g) (hok : S.Ok) (a b : Nat) (s : ByteArray) : Truthy (S.post a b s) (upd f S.sent (lval ⟨S.sent, a, b, s⟩)) g := by
  refine ⟨h.nodes, fun x hx => ?_, fun y hy => ?_, fun x hx => ?_, fun y hy => h.newT y (by simp only [Nst.post] at hy; omega), ?_⟩
  · simp only [Nst.post, List.mem_append, List.mem_singleton] at hx
    rcases hx with hx | rfl
    · rw [upd_other _ _ (by have := (hok.each x hx).1; omega)]; exact h.sent x hx
    · exact upd_same _ _ _
  · simp only [Nst.post] at hy
    rw [upd_other _ _ (by omega)]; exact h.new y (by omega)
  · simp only [Nst.post, List.mem_append, List.mem_singleton] at hx
    rcases hx with hx | rfl
    · exact h.taken x hx
    · exact h.newT _ (Int.le_refl _)
  · simp only [Nst.post, List.map_append, List.map_cons, List.map_nil]
    rw [List.nodup_append]
    refine ⟨h.once, by simp, fun x hx y hy e => ?_⟩
    rw [List.mem_singleton] at hy
    obtain ⟨z, hz, rfl⟩ := List.mem_map.1 hx
    have := (hok.each z hz).1
    omega
theorem Truthy.less {S : Nst} {f g : Int → Option Value} (h : Truthy S f g) {l : List Lt} (hl : List.Sublist l S.ls) : Truthy { S with ls := l } f g :=
  ⟨h.nodes, fun x hx => h.sent x (hl.mem hx), h.new, fun x hx => h.taken x (hl.mem hx), h.newT, h.once.sublist (hl.map _)⟩
theorem Truthy.pairs {S : Nst} {f g : Int → Option Value} (h : Truthy S f g) (ps : List Pr) : Truthy { S with ps := ps } f g := ⟨h.nodes, h.sent, h.new, h.taken, h.newT, h.once⟩
theorem Truthy.lose {S : Nst} {f g : Int → Option Value} (h : Truthy S f g) (id : Int) : Truthy (S.lose id).2 f g := by
  unfold Nst.lose
  split
  · exact h
  · exact h.less (List.eraseIdx_sublist _ _)
theorem Truthy.part {S : Nst} {f g : Int → Option Value} (h : Truthy S f g) (a b : Int) : Truthy (S.part a b).2 f g := by
  unfold Nst.part
  split
  · exact h
  · split
    · exact h
    · split
      · exact h
      · exact h.pairs _
theorem Truthy.join {S : Nst} {f g : Int → Option Value} (h : Truthy S f g) (a b : Int) : Truthy (S.join a b).2 f g := by
  unfold Nst.join
  split
  · exact h
  · exact h.pairs _
/-- what Take does -/
theorem Truthy.take {S : Nst} {f g : Int → Option Value} (h : Truthy S f g) (hok : S.Ok) (id : Int) : ((S.take id).1.1 = none ∧ (S.take id).1.2 ≠ 0 ∧ (S.take id).2 = S) ∨
    ∃ x, (S.take id).1 = (some x, 0) ∧ (x.id : Int) = id ∧ f id = some (lval x) ∧ g id = none ∧ x.fr < 4 ∧ x.to < 4 ∧ ((S.take id).2.isParted x.fr x.to) = (false, 0) ∧ Truthy (S.take id).2 f (upd g id (.bool true)) ∧ (id : Int) < S.sent ∧ 0 ≤ id := by
  unfold Nst.take
  cases hf : S.find id with
  | none => exact Or.inl ⟨rfl, by simp, rfl⟩
  | some i =>
    obtain ⟨_, hi⟩ := find_some hf
    have hid : isId id S.ls[i] = true := by
      rw [Nst.find, List.findIdx?_eq_some_iff_getElem] at hf
      exact hf.2.1
    simp only [List.getElem?_eq_getElem hi]
    cases hp : S.parted S.ls[i].fr S.ls[i].to
    · right
      have he : (S.ls[i].id : Int) = id := by simpa [isId] using hid
      have hm := List.getElem_mem hi
      have hea := hok.each _ hm
      rw [h.nodes] at hea
      refine ⟨S.ls[i], by simp, he, by rw [← he]; exact h.sent _ hm, by rw [← he]; exact h.taken _ hm, hea.2.1, hea.2.2.1, ?_, ?_, by rw [← he]; omega, by omega⟩
      · simp only [Nst.isParted, h.nodes]
        rw [if_neg (by simp [hasN_iff.2 (show (0 : Int) ≤ (S.ls[i].fr : Int) ∧ (S.ls[i].fr : Int) < ((4 : Nat) : Int) by omega), hasN_iff.2 (show (0 : Int) ≤ (S.ls[i].to : Int) ∧ (S.ls[i].to : Int) < ((4 : Nat) : Int) by omega)])]
        exact Prod.ext hp rfl
      · have h1 := h.less (List.eraseIdx_sublist S.ls i)
        refine ⟨h1.nodes, h1.sent, h1.new, fun x hx => ?_, fun y hy => ?_, h1.once⟩
        · have hne : (x.id : Int) ≠ id := fun e => by
            have hx2 : x ∈ S.ls.eraseIdx i := hx
            rw [List.mem_eraseIdx_iff_getElem] at hx2
            obtain ⟨j, hj, hji, hjx⟩ := hx2
            have hi' : i < (S.ls.map Lt.id).length := by rw [List.length_map]; exact hi
            have hj' : j < (S.ls.map Lt.id).length := by rw [List.length_map]; exact hj
            have e1 : (S.ls.map Lt.id)[i] = (S.ls.map Lt.id)[j] := by
              rw [List.getElem_map, List.getElem_map, hjx]; omega
            exact hji ((List.getElem_inj (h₀ := hi') (h₁ := hj') h.once).1 e1).symm
          rw [upd_other _ _ hne]; exact h1.taken x hx
        · have : (id : Int) < S.sent := by rw [← he]; omega
          rw [upd_other _ _ (by show y ≠ id; have : (S.sent : Int) ≤ y := hy; omega)]; exact h1.newT y hy
    · exact Or.inl ⟨by simp, by simp, by simp⟩

theorem Truthy.send {S : Nst} {f g : Int → Option Value} (h : Truthy S f g) (a b : Int) (s : ByteArray) : (S.send (a % 4) (b % 4) s = ((0, 2), S)) ∨ (S.send (a % 4) (b % 4) s = (((S.sent : Int), 0), S.post (a % 4).toNat (b % 4).toNat s)) := by
  have ha : hasN S.nodes (a % 4) = true := by rw [h.nodes]; exact hasN_mod a 4 (by omega)
  have hb : hasN S.nodes (b % 4) = true := by rw [h.nodes]; exact hasN_mod b 4 (by omega)
  rw [Nst.send, if_neg (by rw [ha, hb]; simp)]
  split
  · exact Or.inl rfl
  · exact Or.inr rfl
theorem Truthy.copy {S : Nst} {f g : Int → Option Value} (h : Truthy S f g) (id : Int) : ((S.copy id).1.2 ≠ 0 ∧ (S.copy id).2 = S) ∨ ∃ x, S.copy id = (((S.sent : Int), 0), S.post x.fr x.to x.body) ∧ f id = some (lval x) := by
  unfold Nst.copy
  cases hf : S.find id with
  | none => exact Or.inl ⟨by simp, rfl⟩
  | some i =>
    obtain ⟨_, hi⟩ := find_some hf
    have hid : isId id S.ls[i] = true := by
      rw [Nst.find, List.findIdx?_eq_some_iff_getElem] at hf
      exact hf.2.1
    have he : (S.ls[i].id : Int) = id := by simpa [isId] using hid
    simp only [List.getElem?_eq_getElem hi]
    split
    · exact Or.inl ⟨by simp, rfl⟩
    · exact Or.inr ⟨S.ls[i], rfl, by rw [← he]; exact h.sent _ (List.getElem_mem hi)⟩
theorem NHeld.mapped {W W' : World} {own : Nat → Prop} {bn : Nat} {S : Nst} (h : NHeld W own bn S) {b n : Nat} {f : Int → Option Value} (hm : MapIs W b n f) (hg : W.grownBy W' (some b)) : NHeld W' own bn S := by
  obtain ⟨es, c, hb⟩ := hm.obj
  have hne : ∀ (b' : Nat) (cs : Array Value) (t : TypeId), W.heap[b']? = some (.cells cs t (0, 0)) → W'.heap[b']? = W.heap[b']? := fun b' cs t hc => hg.block b' (Array.getElem?_eq_some_iff.1 hc).1 fun e => by cases e; rw [hb] at hc; cases hc
  obtain ⟨v', u', h⟩ := h
  refine ⟨v', u', (hne _ _ _ h.block).trans h.block, h.row.stay fun g hg' => ?_, h.prow.stay fun g hg' => ?_, h.ownD, h.ownR, h.ownP⟩
  · rcases h.row.2 with ⟨e1, _⟩ | ⟨g', _, cur, e1, _, hc, _⟩
    · rw [e1] at hg'; simp [Value.ownBlock] at hg'
    · rw [e1] at hg'; simp only [Value.ownBlock, Option.some.injEq] at hg'; subst hg'
      exact hne _ _ _ hc
  · rcases h.prow.2 with ⟨e1, _⟩ | ⟨g', _, cur, e1, _, hc, _⟩
    · rw [e1] at hg'; simp [Value.ownBlock] at hg'
    · rw [e1] at hg'; simp only [Value.ownBlock, Option.some.injEq] at hg'; subst hg'
      exact hne _ _ _ hc
theorem Kept.map {w W W' : World} {bn : Nat} {S' : Nst} (h : Kept w W W' bn S') {b n : Nat} {f : Int → Option Value} (hm : MapIs W b n f) : MapIs W' b n f := by
  obtain ⟨es, c, hb⟩ := hm.obj
  exact hm.stay (h.maps b es c hb)
theorem zero_bool (w : World) : (zeroValue 4).run Try.prog w = .ok (.bool false) w := by kernel_rfl
abbrev ActT : TypeId := 32

set_option maxHeartbeats 12800000 in
set_option maxRecDepth 100000 in
theorem truth_law (a : Option Addr) (cap : Nat) (ac : List ActV) (w : World) (hl : ActsAt w a cap ac) :
    Calls Try.prog 5 #[.slice a ac.length cap] w fun e w' => e = .returned (.bool true) ∧ Below w.heap.size w w' := by
  have hrm := hl.room
  have hmx := hl.max
  go_enter Try.func5, Try.ntmps5
  go_wp2_with fail
  refine (new_ok 4 _ (by omega) (by omega) (above w) (Nat.le_refl _)).mono ?_
  rintro e w0 ⟨bn, rfl, -, hh0, hb0⟩
  go_wp2_with fail
  refine (works_any w0).mono ?_
  rintro e w1 ⟨rfl, hb1⟩
  have hh1 := hh0.below hb1
  have hbw : Below w.heap.size w w1 := hb0.trans (hb1.mono hb0.size)
  clear hh0 hb0 hb1
  have hmm := @run_makeMap Try.prog
  go_wp2
  clear hmm
  have hM1 : MapIs ((w1.alloc (.map #[] 0)).alloc (.map #[] 0)) w1.heap.size 0 (fun _ => none) := (MapIs.made w1).below (below_alloc1 _ _)
  have hM2 : MapIs ((w1.alloc (.map #[] 0)).alloc (.map #[] 0)) (w1.heap.size + 1) 0 (fun _ => none) := by
    have := MapIs.made (w1.alloc (.map #[] 0))
    simpa using this
  have hh2 := (hh1.below (below_alloc1 w1 (.map #[] 0))).below (below_alloc1 _ (.map #[] 0))
  have hb2 := (hbw.alloc hbw.size (.map #[] 0)).alloc (by have := hbw.size; simp; omega) (.map #[] 0)
  have hzb := hbw.size
  obtain ⟨bs, hbs⟩ : ∃ bs, bs = w1.heap.size := ⟨_, rfl⟩
  rw [← hbs] at hM1 hM2 hzb ⊢
  have hbt : bs ≠ bs + 1 := by omega
  have hbt1 : w.heap.size ≤ bs + 1 := by omega
  generalize bs + 1 = bt at *
  clear hbs
  go_loopw [7] (fun i wr => ∃ (k : Nat) (S : Nst) (f g : Int → Option Value) (nf ng : Nat), k ≤ ac.length ∧ k ≤ 200 ∧ i = .int .i64 k ∧ NHeld wr (above w) bn S ∧ S.Ok ∧ Hid (Truthy S f g) ∧ MapIs wr bs nf f ∧ MapIs wr bt ng g ∧ nf ≤ k ∧ ng ≤ k ∧ Below w.heap.size w wr) (fun i _ => 200 - (intOf i).toNat)
  case atStart => exact ⟨0, ⟨4, 0, [], []⟩, _, _, 0, 0, by omega, by omega, rfl, hh2, Nst.Ok.new (by omega) (by omega), ⟨rfl, by simp, fun _ _ => rfl, by simp, fun _ _ => rfl, by simp⟩, hM1, hM2, by omega, by omega, hb2⟩
  case round =>
    clear hM1 hM2 hh2 hb2 hh1 hbw
    obtain ⟨k, S, f, g, nf, ng, hk, hk1, rfl, hh, hok, HT, hMf, hMg, hnf, hng, hbel⟩ := hrel
    by_cases hlt : k < ac.length ∧ k < 200
    · obtain ⟨hlt1, hlt2⟩ := hlt
      have j1 : (k : Int) < (ac.length : Int) := by omega
      have j2 : (k : Int) < 200 := by omega
      have j0 : (0 : Int) ≤ (k : Int) := by omega
      obtain ⟨b, off, rfl, hbl, hc⟩ := (hl.lies.below hbel).at aenc_len k hlt1
      have hx := hl.each ac[k] (List.getElem_mem hlt1)
      have q0 := hc 0 _ rfl
      have q1 := hc 1 _ rfl
      have q2 := hc 2 _ rfl
      have q3 := hc 3 _ rfl
      have q4 := hc 4 _ rfl
      have q5 := hc 5 _ rfl
      rw [Nat.add_zero] at q0
      clear hc
      generalize ac[k] = x at *
      have hxa := hx.a
      have hxb := hx.b
      have hxi := hx.i
      have hxk := hx.kind
      have hxs := hx.body
      clear hx
      go_wp2_with fail
      obtain ⟨W, hW⟩ : ∃ W, W = wr.alloc (.cells #[.int .i64 x.kind, .int .i64 x.a, .int .i64 x.b, .int .i64 x.i, .string x.body, .bool x.own] ActT) := ⟨_, rfl⟩
      rw [← hW]
      have hbW : Below wr.heap.size wr W := by rw [hW]; exact below_alloc1 _ _
      have hA : W.heap[wr.heap.size]? = some (.cells #[.int .i64 x.kind, .int .i64 x.a, .int .i64 x.b, .int .i64 x.i, .string x.body, .bool x.own] ActT (0, 0)) := by rw [hW]; exact heap_alloc_new wr _
      clear hW q0 q1 q2 q3 q4 q5
      have hS : Sc2 W wr.heap.size 1 2 (.int .i64 x.a) (.int .i64 x.b) W := ⟨⟨cell_of_block hA 1, cell_of_block hA 2⟩, rfl, Below.refl _ _⟩
      go_region_held3 (Sc2 W wr.heap.size 1 2 (.int .i64 x.a) (.int .i64 x.b)) (first | exact Sc2.drew (by assumption) | assumption)
        (first | (go_at_call 16; refine (among_any _ 4 _ (by omega) (by omega) (by omega) (by omega)).mono ?_; rintro e w3 ⟨rfl, rfl⟩))
      all_goals
        clear hS
        have hbd : Below wr.heap.size wr W.drew := hbW.drew
        have hLet := letters_any W.drew (hh.below hbd) hok
        go_wp2_with fail
        refine hLet.mono ?_
        rintro e w3 ⟨v3, rfl, hown3, hb3⟩
        obtain ⟨a3, c3, rfl⟩ := own_slice hown3
        have hA3 := (hb3.block wr.heap.size (Array.getElem?_eq_some_iff.1 hA).1).trans hA
        have hbr3 : Below wr.heap.size wr w3 := hbd.trans (hb3.mono hbd.size)
        have hh3 := hh.below hbr3
        have hMf3 := hMf.below hbr3
        have hMg3 := hMg.below hbr3
        have hbw3 : Below w.heap.size w w3 := hbel.trans (hbr3.mono hbel.size)
        have hL3 : Lies w3 lenc a3 S.ls := Row.lies (e := LetT) (k := 4) (own_mono hown3 (Nat.zero_le _))
        have b0 : w3.cell? ⟨wr.heap.size, 0, none⟩ = some (.int .i64 x.kind) := cell_of_block hA3 0
        have b3 : w3.cell? ⟨wr.heap.size, 3, none⟩ = some (.int .i64 x.i) := cell_of_block hA3 3
        have b4 : w3.cell? ⟨wr.heap.size, 4, none⟩ = some (.string x.body) := cell_of_block hA3 4
        clear hLet hown3 hb3 hbd hbW hA hh hMf hMg hbel
        --BEGIN
        have h6 : x.kind % 6 = 0 ∨ x.kind % 6 = 1 ∨ x.kind % 6 = 2 ∨ x.kind % 6 = 3 ∨ x.kind % 6 = 4 ∨ x.kind % 6 = 5 := by omega
        have hml := hok.many
        by_cases hl0 : 0 < S.ls.length
        · obtain ⟨idx, hidx⟩ : ∃ idx : Nat, x.i % (S.ls.length : Int) = (idx : Int) := ⟨(x.i % (S.ls.length : Int)).toNat, (Int.toNat_of_nonneg (Int.emod_nonneg _ (by omega))).symm⟩
          have hil : idx < S.ls.length := by have := Int.emod_lt_of_pos x.i (show (0 : Int) < S.ls.length by omega); omega
          obtain ⟨b5, o5, rfl, hbl5, hc5⟩ := hL3.at lenc_len idx hil
          have l0 := hc5 0 _ rfl
          rw [Nat.add_zero] at l0
          have hei := (hok.each _ (List.getElem_mem hil)).1
          have hst := hok.sent
          obtain ⟨q, hq⟩ : ∃ q : Int, q = (S.ls[idx].id : Int) := ⟨_, rfl⟩
          have hqb : -9223372036854775808 ≤ q ∧ q ≤ 9223372036854775807 := by omega
          rw [← hq] at l0
          clear hc5 hq hei
          have hl0' : (0 : Int) < (S.ls.length : Int) := by omega
          have p1 : (0 : Int) ≤ (idx : Int) := by omega
          have p2 : (idx : Int) < (S.ls.length : Int) := by omega
          rcases h6 with h6 | h6 | h6 | h6 | h6 | h6
          · as_aux_lemma =>
              have hSd := send_kept hh3 hbw3 hok (x.a % 4) (x.b % 4) x.body hxs
              rcases HT.out.send x.a x.b x.body with hs | hs
              · rw [hs] at hSd
                have HN := HT
                have OK := hide hok
                clear hs
                go_wp2_with (first | (go_at_call 16; refine (among_any _ _ _ (by omega) (by omega) (by omega) (by omega)).mono ?_; rintro e w4 ⟨rfl, rfl⟩) | (go_at_call 13; refine hSd.mono ?_; rintro e w5 ⟨rfl, hK5⟩))
                go_roundw
                case rel => exact ⟨k + 1, _, f, g, nf, ng, by omega, by omega, by go_num, hK5.held, OK.out, HN, hK5.map hMf3, hK5.map hMg3, by omega, by omega, hK5.below⟩
                case measure => simp [intOf]; omega
              · rw [hs] at hSd
                have OK := hide (by have := hok.send (x.a % 4) (x.b % 4) x.body; rw [hs] at this; exact this)
                have HN := hide (HT.out.post hok (x.a % 4).toNat (x.b % 4).toNat x.body)
                have hnone := HT.out.new (S.sent : Int) (Int.le_refl _)
                have hsb : -9223372036854775808 ≤ (S.sent : Int) ∧ (S.sent : Int) ≤ 9223372036854775807 := by have := hok.sent; omega
                have ha4 : (((x.a % 4).toNat : Nat) : Int) = x.a % 4 := Int.toNat_of_nonneg (Int.emod_nonneg _ (by omega))
                have hb4 : (((x.b % 4).toNat : Nat) : Int) = x.b % 4 := Int.toNat_of_nonneg (Int.emod_nonneg _ (by omega))
                have HA4 := hide ha4
                have HB4 := hide hb4
                clear hs ha4 hb4
                generalize S.post (x.a % 4).toNat (x.b % 4).toNat x.body = S' at *
                go_wp2_with (first | (go_at_call 16; refine (among_any _ _ _ (by omega) (by omega) (by omega) (by omega)).mono ?_; rintro e w4 ⟨rfl, rfl⟩) | (go_at_call 13; refine hSd.mono ?_; rintro e w5 ⟨rfl, hK5⟩; have hA5 := (hK5.cells _ _ _ hA3 (by decide) (by decide) (by decide)).trans hA3; have hb6 := below_alloc1 w5 (.cells #[.int .i64 0, .int .i64 0, .int .i64 0, .string ⟨#[]⟩] LetT); have hMf5 := hK5.map hMf3; have hlk := hMf5.look_ok Try.underlying42 (zero_let w5) hsb; rw [hnone] at hlk; have hlk' : (Instr.lookup 42 (.map (some bs)) (.int .i64 (S.sent : Int)) true).run Try.prog w5 = .ok (.tuple #[noL, .bool false]) w5 := hlk; obtain ⟨w7, hrun, hM7, hg7⟩ := (hMf5.below hb6).put Try.underlying42 (by omega) hsb (lval ⟨S.sent, (x.a % 4).toNat, (x.b % 4).toNat, x.body⟩); have hrun' : (Instr.mapUpdate 42 (.map (some bs)) (.int .i64 (S.sent : Int)) (.agg #[.int .i64 (S.sent : Int), .int .i64 (x.a % 4), .int .i64 (x.b % 4), .string x.body])).run Try.prog (w5.alloc (.cells #[.int .i64 0, .int .i64 0, .int .i64 0, .string ⟨#[]⟩] LetT)) = .ok () w7 := by { have h := hrun; simp only [lval, HA4.out, HB4.out] at h; exact h }; have c4 := ((hb6.block wr.heap.size (Array.getElem?_eq_some_iff.1 hA5).1).trans hA5); have c4' : (w5.alloc (.cells #[.int .i64 0, .int .i64 0, .int .i64 0, .string ⟨#[]⟩] LetT)).cell? ⟨wr.heap.size, 4, none⟩ = some (.string x.body) := cell_of_block c4 4; clear hlk hrun c4 hnone))
                go_roundw
                case rel => exact ⟨k + 1, S', _, g, nf + 1, ng, by omega, by omega, by go_num, (hK5.held.below hb6).mapped (hMf5.below hb6) hg7, OK.out, HN, hM7, ((hK5.map hMg3).below hb6).stay (hg7.block bt ((hK5.map hMg3).below hb6).lt (by simpa using Ne.symm hbt)), by omega, by omega, below_grown (hK5.below.alloc hK5.below.size _) hg7 (fun g' hg' => by cases hg'; omega)⟩
                case measure => simp [intOf]; omega
          · as_aux_lemma =>
              have hTk := take_kept hh3 hbw3 hok q
              rcases HT.out.take hok q with ⟨t1, t2, t3⟩ | ⟨y, t1, hyid, hfq, hgq, hy1, hy2, hpt, hT', hql, hqg⟩
              · obtain ⟨er, her⟩ : ∃ er, er = (S.take q).1.2 := ⟨_, rfl⟩
                rw [t1, t3, ← her] at hTk
                rw [← her] at t2
                have hne : (er != 0) = true := by simpa using t2
                simp only [optV] at hTk
                have HN := HT
                have OK := hide hok
                clear her t1 t2 t3
                go_wp2_with (first | (go_at_call 16; refine (among_any _ _ _ (by omega) (by omega) (by omega) (by omega)).mono ?_; rintro e w4 ⟨rfl, rfl⟩) | (go_at_call 18; refine hTk.mono ?_; rintro e w5 ⟨rfl, hK5⟩))
                go_roundw
                case rel => exact ⟨k + 1, _, f, g, nf, ng, by omega, by omega, by go_num, hK5.held.below (below_alloc1 w5 _), OK.out, HN, (hK5.map hMf3).below (below_alloc1 w5 _), (hK5.map hMg3).below (below_alloc1 w5 _), by omega, by omega, hK5.below.alloc hK5.below.size _⟩
                case measure => simp [intOf]; omega
              · have okt := hok.take q
                rw [t1] at hTk
                simp only [optV] at hTk
                have HN := hide hT'
                have OK := hide okt
                clear t1 hT' hyid
                have HPT := hide hpt
                clear hpt
                generalize (S.take q).2 = S' at *
                have hqb : -9223372036854775808 ≤ q ∧ q ≤ 9223372036854775807 := by have := hok.sent; omega
                go_wp2_with (first | (go_at_call 16; refine (among_any _ _ _ (by omega) (by omega) (by omega) (by omega)).mono ?_; rintro e w4 ⟨rfl, rfl⟩) | (go_at_call 18; refine hTk.mono ?_; rintro e w5 ⟨rfl, hK5⟩) | fail)
                have hb6 := below_alloc1 w5 (.cells #[.int .i64 y.id, .int .i64 y.fr, .int .i64 y.to, .string y.body] LetT)
                have hA6 := heap_alloc_new w5 (.cells #[.int .i64 y.id, .int .i64 y.fr, .int .i64 y.to, .string y.body] LetT)
                have hPd := parted_any _ (hK5.held.below hb6) OK.out y.fr y.to
                rw [HPT.out] at hPd
                have hMf5 := hK5.map hMf3
                have hMg5 := hK5.map hMg3
                refine hPd.mono ?_
                rintro e w7 ⟨rfl, hb7⟩
                have hA7 := (hb7.block w5.heap.size (by simp)).trans hA6
                have g0 : w7.cell? ⟨w5.heap.size, 0, none⟩ = some (.int .i64 y.id) := cell_of_block hA7 0
                have g1 : w7.cell? ⟨w5.heap.size, 1, none⟩ = some (.int .i64 y.fr) := cell_of_block hA7 1
                have g2 : w7.cell? ⟨w5.heap.size, 2, none⟩ = some (.int .i64 y.to) := cell_of_block hA7 2
                have g3 : w7.cell? ⟨w5.heap.size, 3, none⟩ = some (.string y.body) := cell_of_block hA7 3
                have hMf7 := (hMf5.below hb6).below hb7
                have hMg7 := (hMg5.below hb6).below hb7
                have hl1 := hMf7.look Try.underlying42 (zero_let w7) hqb
                rw [hfq] at hl1
                have hl1' : (Instr.lookup 42 (.map (some bs)) (.int .i64 q) false).run Try.prog w7 = .ok (.agg #[.int .i64 y.id, .int .i64 y.fr, .int .i64 y.to, .string y.body]) w7 := hl1
                have hl2 := hMg7.look Try.underlying43 (zero_bool w7) hqb
                rw [hgq] at hl2
                have hl2' : (Instr.lookup 43 (.map (some bt)) (.int .i64 q) false).run Try.prog w7 = .ok (.bool false) w7 := hl2
                obtain ⟨w8, hrun, hM8, hg8⟩ := hMg7.put Try.underlying43 (by omega) hqb (.bool true)
                clear hl1 hl2 hA6 hA7 hPd hTk
                go_wp2
                go_roundw
                case rel => exact ⟨k + 1, S', f, _, nf, ng + 1, by omega, by omega, by go_num, ((hK5.held.below hb6).below hb7).mapped hMg7 hg8, OK.out, HN, hMf7.stay (hg8.block bs hMf7.lt (by simpa using hbt)), hM8, by omega, by omega, below_grown ((hK5.below.alloc hK5.below.size _).trans (hb7.mono (by have := hK5.below.size; simp; omega))) hg8 (fun g' hg' => by cases hg'; omega)⟩
                case measure => simp [intOf]; omega
          · as_aux_lemma =>
              have hCl := lose_kept hh3 hbw3 hok q
              have HN := hide (HT.out.lose q)
              have OK := hide (hok.lose q)
              generalize (S.lose q).2 = S' at *
              go_wp2_with (first | (go_at_call 16; refine (among_any _ _ _ (by omega) (by omega) (by omega) (by omega)).mono ?_; rintro e w4 ⟨rfl, rfl⟩) | (go_at_call 15; refine hCl.mono ?_; rintro e w5 ⟨rfl, hK5⟩))
              go_roundw
              case rel => exact ⟨k + 1, S', f, g, nf, ng, by omega, by omega, by go_num, hK5.held, OK.out, HN, hK5.map hMf3, hK5.map hMg3, by omega, by omega, hK5.below⟩
              case measure => simp [intOf]; omega
          · as_aux_lemma =>
              have hCp := copy_kept hh3 hbw3 hok q
              rcases HT.out.copy q with ⟨t1, t2⟩ | ⟨y, t1, hfq⟩
              · obtain ⟨er, her⟩ : ∃ er, er = (S.copy q).1.2 := ⟨_, rfl⟩
                rw [t2, ← her] at hCp
                rw [← her] at t1
                have hne : (er == 0) = false := by simpa using t1
                generalize (S.copy q).1.1 = cn at *
                have HN := HT
                have OK := hide hok
                clear her t1 t2
                go_wp2_with (first | (go_at_call 16; refine (among_any _ _ _ (by omega) (by omega) (by omega) (by omega)).mono ?_; rintro e w4 ⟨rfl, rfl⟩) | (go_at_call 14; refine hCp.mono ?_; rintro e w5 ⟨rfl, hK5⟩))
                go_roundw
                case rel => exact ⟨k + 1, _, f, g, nf, ng, by omega, by omega, by go_num, hK5.held, OK.out, HN, hK5.map hMf3, hK5.map hMg3, by omega, by omega, hK5.below⟩
                case measure => simp [intOf]; omega
              · rw [t1] at hCp
                have OK := hide (by have := hok.copy q; rw [t1] at this; exact this)
                have HN := hide (HT.out.post hok y.fr y.to y.body)
                have hnone := HT.out.new (S.sent : Int) (Int.le_refl _)
                have hsb : -9223372036854775808 ≤ (S.sent : Int) ∧ (S.sent : Int) ≤ 9223372036854775807 := by have := hok.sent; omega
                clear t1
                generalize S.post y.fr y.to y.body = S' at *
                go_wp2_with (first | (go_at_call 16; refine (among_any _ _ _ (by omega) (by omega) (by omega) (by omega)).mono ?_; rintro e w4 ⟨rfl, rfl⟩) | (go_at_call 14; refine hCp.mono ?_; rintro e w5 ⟨rfl, hK5⟩; have hMf5 := hK5.map hMf3; have hb6 := below_alloc1 w5 (.cells #[.int .i64 0, .int .i64 0, .int .i64 0, .string ⟨#[]⟩] LetT); have hlk := hMf5.look_ok Try.underlying42 (zero_let w5) hsb; rw [hnone] at hlk; have hlk' : (Instr.lookup 42 (.map (some bs)) (.int .i64 (S.sent : Int)) true).run Try.prog w5 = .ok (.tuple #[noL, .bool false]) w5 := hlk; have hl2 := (hMf5.below hb6).look Try.underlying42 (zero_let _) hqb; rw [hfq] at hl2; have hl2' : (Instr.lookup 42 (.map (some bs)) (.int .i64 q) false).run Try.prog (w5.alloc (.cells #[.int .i64 0, .int .i64 0, .int .i64 0, .string ⟨#[]⟩] LetT)) = .ok (.agg #[.int .i64 y.id, .int .i64 y.fr, .int .i64 y.to, .string y.body]) (w5.alloc (.cells #[.int .i64 0, .int .i64 0, .int .i64 0, .string ⟨#[]⟩] LetT)) := hl2; clear hlk hl2 hnone))
                have hb7 := below_alloc1 (w5.alloc (.cells #[.int .i64 0, .int .i64 0, .int .i64 0, .string ⟨#[]⟩] LetT)) (.cells #[.int .i64 S.sent, .int .i64 y.fr, .int .i64 y.to, .string y.body] LetT)
                obtain ⟨w8, hrun, hM8, hg8⟩ := ((hMf5.below hb6).below hb7).put Try.underlying42 (by omega) hsb (lval ⟨S.sent, y.fr, y.to, y.body⟩)
                have hrun' : (Instr.mapUpdate 42 (.map (some bs)) (.int .i64 (S.sent : Int)) (.agg #[.int .i64 (S.sent : Int), .int .i64 (y.fr : Int), .int .i64 (y.to : Int), .string y.body])).run Try.prog ((w5.alloc (.cells #[.int .i64 0, .int .i64 0, .int .i64 0, .string ⟨#[]⟩] LetT)).alloc (.cells #[.int .i64 S.sent, .int .i64 y.fr, .int .i64 y.to, .string y.body] LetT)) = .ok () w8 := hrun
                clear hrun
                rw [hrun']
                go_wp2
                go_roundw
                case rel => exact ⟨k + 1, S', _, g, nf + 1, ng, by omega, by omega, by go_num, ((hK5.held.below hb6).below hb7).mapped ((hMf5.below hb6).below hb7) hg8, OK.out, HN, hM8, (((hK5.map hMg3).below hb6).below hb7).stay (hg8.block bt (((hK5.map hMg3).below hb6).below hb7).lt (by simpa using Ne.symm hbt)), by omega, by omega, below_grown ((hK5.below.alloc hK5.below.size _).alloc (by have := hK5.below.size; simp; omega) _) hg8 (fun g' hg' => by cases hg'; omega)⟩
                case measure => simp [intOf]; omega
          · as_aux_lemma =>
              have hCl := part_kept hh3 hbw3 hok (x.a % 4) (x.b % 4)
              have HN := hide (HT.out.part (x.a % 4) (x.b % 4))
              have OK := hide (hok.part (x.a % 4) (x.b % 4))
              generalize (S.part (x.a % 4) (x.b % 4)).2 = S' at *
              go_wp2_with (first | (go_at_call 16; refine (among_any _ _ _ (by omega) (by omega) (by omega) (by omega)).mono ?_; rintro e w4 ⟨rfl, rfl⟩) | (go_at_call 20; refine hCl.mono ?_; rintro e w5 ⟨rfl, hK5⟩))
              go_roundw
              case rel => exact ⟨k + 1, S', f, g, nf, ng, by omega, by omega, by go_num, hK5.held, OK.out, HN, hK5.map hMf3, hK5.map hMg3, by omega, by omega, hK5.below⟩
              case measure => simp [intOf]; omega
          · as_aux_lemma =>
              have hCl := join_kept hh3 hbw3 hok (x.a % 4) (x.b % 4)
              have HN := hide (HT.out.join (x.a % 4) (x.b % 4))
              have OK := hide (hok.join (x.a % 4) (x.b % 4))
              generalize (S.join (x.a % 4) (x.b % 4)).2 = S' at *
              go_wp2_with (first | (go_at_call 16; refine (among_any _ _ _ (by omega) (by omega) (by omega) (by omega)).mono ?_; rintro e w4 ⟨rfl, rfl⟩) | (go_at_call 21; refine hCl.mono ?_; rintro e w5 ⟨rfl, hK5⟩))
              go_roundw
              case rel => exact ⟨k + 1, S', f, g, nf, ng, by omega, by omega, by go_num, hK5.held, OK.out, HN, hK5.map hMf3, hK5.map hMg3, by omega, by omega, hK5.below⟩
              case measure => simp [intOf]; omega
        · have hl0' : ¬ (0 : Int) < (S.ls.length : Int) := by omega
          obtain ⟨q, hq⟩ : ∃ q : Int, q = x.i := ⟨_, rfl⟩
          have hqb : -9223372036854775808 ≤ q ∧ q ≤ 9223372036854775807 := by omega
          rw [← hq] at b3
          clear hq
          rcases h6 with h6 | h6 | h6 | h6 | h6 | h6
          · as_aux_lemma =>
              have hSd := send_kept hh3 hbw3 hok (x.a % 4) (x.b % 4) x.body hxs
              rcases HT.out.send x.a x.b x.body with hs | hs
              · rw [hs] at hSd
                have HN := HT
                have OK := hide hok
                clear hs
                go_wp2_with (first | (go_at_call 16; refine (among_any _ _ _ (by omega) (by omega) (by omega) (by omega)).mono ?_; rintro e w4 ⟨rfl, rfl⟩) | (go_at_call 13; refine hSd.mono ?_; rintro e w5 ⟨rfl, hK5⟩))
                go_roundw
                case rel => exact ⟨k + 1, _, f, g, nf, ng, by omega, by omega, by go_num, hK5.held, OK.out, HN, hK5.map hMf3, hK5.map hMg3, by omega, by omega, hK5.below⟩
                case measure => simp [intOf]; omega
              · rw [hs] at hSd
                have OK := hide (by have := hok.send (x.a % 4) (x.b % 4) x.body; rw [hs] at this; exact this)
                have HN := hide (HT.out.post hok (x.a % 4).toNat (x.b % 4).toNat x.body)
                have hnone := HT.out.new (S.sent : Int) (Int.le_refl _)
                have hsb : -9223372036854775808 ≤ (S.sent : Int) ∧ (S.sent : Int) ≤ 9223372036854775807 := by have := hok.sent; omega
                have ha4 : (((x.a % 4).toNat : Nat) : Int) = x.a % 4 := Int.toNat_of_nonneg (Int.emod_nonneg _ (by omega))
                have hb4 : (((x.b % 4).toNat : Nat) : Int) = x.b % 4 := Int.toNat_of_nonneg (Int.emod_nonneg _ (by omega))
                have HA4 := hide ha4
                have HB4 := hide hb4
                clear hs ha4 hb4
                generalize S.post (x.a % 4).toNat (x.b % 4).toNat x.body = S' at *
                go_wp2_with (first | (go_at_call 16; refine (among_any _ _ _ (by omega) (by omega) (by omega) (by omega)).mono ?_; rintro e w4 ⟨rfl, rfl⟩) | (go_at_call 13; refine hSd.mono ?_; rintro e w5 ⟨rfl, hK5⟩; have hA5 := (hK5.cells _ _ _ hA3 (by decide) (by decide) (by decide)).trans hA3; have hb6 := below_alloc1 w5 (.cells #[.int .i64 0, .int .i64 0, .int .i64 0, .string ⟨#[]⟩] LetT); have hMf5 := hK5.map hMf3; have hlk := hMf5.look_ok Try.underlying42 (zero_let w5) hsb; rw [hnone] at hlk; have hlk' : (Instr.lookup 42 (.map (some bs)) (.int .i64 (S.sent : Int)) true).run Try.prog w5 = .ok (.tuple #[noL, .bool false]) w5 := hlk; obtain ⟨w7, hrun, hM7, hg7⟩ := (hMf5.below hb6).put Try.underlying42 (by omega) hsb (lval ⟨S.sent, (x.a % 4).toNat, (x.b % 4).toNat, x.body⟩); have hrun' : (Instr.mapUpdate 42 (.map (some bs)) (.int .i64 (S.sent : Int)) (.agg #[.int .i64 (S.sent : Int), .int .i64 (x.a % 4), .int .i64 (x.b % 4), .string x.body])).run Try.prog (w5.alloc (.cells #[.int .i64 0, .int .i64 0, .int .i64 0, .string ⟨#[]⟩] LetT)) = .ok () w7 := by { have h := hrun; simp only [lval, HA4.out, HB4.out] at h; exact h }; have c4 := ((hb6.block wr.heap.size (Array.getElem?_eq_some_iff.1 hA5).1).trans hA5); have c4' : (w5.alloc (.cells #[.int .i64 0, .int .i64 0, .int .i64 0, .string ⟨#[]⟩] LetT)).cell? ⟨wr.heap.size, 4, none⟩ = some (.string x.body) := cell_of_block c4 4; clear hlk hrun c4 hnone))
                go_roundw
                case rel => exact ⟨k + 1, S', _, g, nf + 1, ng, by omega, by omega, by go_num, (hK5.held.below hb6).mapped (hMf5.below hb6) hg7, OK.out, HN, hM7, ((hK5.map hMg3).below hb6).stay (hg7.block bt ((hK5.map hMg3).below hb6).lt (by simpa using Ne.symm hbt)), by omega, by omega, below_grown (hK5.below.alloc hK5.below.size _) hg7 (fun g' hg' => by cases hg'; omega)⟩
                case measure => simp [intOf]; omega
          · as_aux_lemma =>
              have hTk := take_kept hh3 hbw3 hok q
              rcases HT.out.take hok q with ⟨t1, t2, t3⟩ | ⟨y, t1, hyid, hfq, hgq, hy1, hy2, hpt, hT', hql, hqg⟩
              · obtain ⟨er, her⟩ : ∃ er, er = (S.take q).1.2 := ⟨_, rfl⟩
                rw [t1, t3, ← her] at hTk
                rw [← her] at t2
                have hne : (er != 0) = true := by simpa using t2
                simp only [optV] at hTk
                have HN := HT
                have OK := hide hok
                clear her t1 t2 t3
                go_wp2_with (first | (go_at_call 16; refine (among_any _ _ _ (by omega) (by omega) (by omega) (by omega)).mono ?_; rintro e w4 ⟨rfl, rfl⟩) | (go_at_call 18; refine hTk.mono ?_; rintro e w5 ⟨rfl, hK5⟩))
                go_roundw
                case rel => exact ⟨k + 1, _, f, g, nf, ng, by omega, by omega, by go_num, hK5.held.below (below_alloc1 w5 _), OK.out, HN, (hK5.map hMf3).below (below_alloc1 w5 _), (hK5.map hMg3).below (below_alloc1 w5 _), by omega, by omega, hK5.below.alloc hK5.below.size _⟩
                case measure => simp [intOf]; omega
              · have okt := hok.take q
                rw [t1] at hTk
                simp only [optV] at hTk
                have HN := hide hT'
                have OK := hide okt
                clear t1 hT' hyid
                have HPT := hide hpt
                clear hpt
                generalize (S.take q).2 = S' at *
                have hqb : -9223372036854775808 ≤ q ∧ q ≤ 9223372036854775807 := by have := hok.sent; omega
                go_wp2_with (first | (go_at_call 16; refine (among_any _ _ _ (by omega) (by omega) (by omega) (by omega)).mono ?_; rintro e w4 ⟨rfl, rfl⟩) | (go_at_call 18; refine hTk.mono ?_; rintro e w5 ⟨rfl, hK5⟩) | fail)
                have hb6 := below_alloc1 w5 (.cells #[.int .i64 y.id, .int .i64 y.fr, .int .i64 y.to, .string y.body] LetT)
                have hA6 := heap_alloc_new w5 (.cells #[.int .i64 y.id, .int .i64 y.fr, .int .i64 y.to, .string y.body] LetT)
                have hPd := parted_any _ (hK5.held.below hb6) OK.out y.fr y.to
                rw [HPT.out] at hPd
                have hMf5 := hK5.map hMf3
                have hMg5 := hK5.map hMg3
                refine hPd.mono ?_
                rintro e w7 ⟨rfl, hb7⟩
                have hA7 := (hb7.block w5.heap.size (by simp)).trans hA6
                have g0 : w7.cell? ⟨w5.heap.size, 0, none⟩ = some (.int .i64 y.id) := cell_of_block hA7 0
                have g1 : w7.cell? ⟨w5.heap.size, 1, none⟩ = some (.int .i64 y.fr) := cell_of_block hA7 1
                have g2 : w7.cell? ⟨w5.heap.size, 2, none⟩ = some (.int .i64 y.to) := cell_of_block hA7 2
                have g3 : w7.cell? ⟨w5.heap.size, 3, none⟩ = some (.string y.body) := cell_of_block hA7 3
                have hMf7 := (hMf5.below hb6).below hb7
                have hMg7 := (hMg5.below hb6).below hb7
                have hl1 := hMf7.look Try.underlying42 (zero_let w7) hqb
                rw [hfq] at hl1
                have hl1' : (Instr.lookup 42 (.map (some bs)) (.int .i64 q) false).run Try.prog w7 = .ok (.agg #[.int .i64 y.id, .int .i64 y.fr, .int .i64 y.to, .string y.body]) w7 := hl1
                have hl2 := hMg7.look Try.underlying43 (zero_bool w7) hqb
                rw [hgq] at hl2
                have hl2' : (Instr.lookup 43 (.map (some bt)) (.int .i64 q) false).run Try.prog w7 = .ok (.bool false) w7 := hl2
                obtain ⟨w8, hrun, hM8, hg8⟩ := hMg7.put Try.underlying43 (by omega) hqb (.bool true)
                clear hl1 hl2 hA6 hA7 hPd hTk
                go_wp2
                go_roundw
                case rel => exact ⟨k + 1, S', f, _, nf, ng + 1, by omega, by omega, by go_num, ((hK5.held.below hb6).below hb7).mapped hMg7 hg8, OK.out, HN, hMf7.stay (hg8.block bs hMf7.lt (by simpa using hbt)), hM8, by omega, by omega, below_grown ((hK5.below.alloc hK5.below.size _).trans (hb7.mono (by have := hK5.below.size; simp; omega))) hg8 (fun g' hg' => by cases hg'; omega)⟩
                case measure => simp [intOf]; omega
          · as_aux_lemma =>
              have hCl := lose_kept hh3 hbw3 hok q
              have HN := hide (HT.out.lose q)
              have OK := hide (hok.lose q)
              generalize (S.lose q).2 = S' at *
              go_wp2_with (first | (go_at_call 16; refine (among_any _ _ _ (by omega) (by omega) (by omega) (by omega)).mono ?_; rintro e w4 ⟨rfl, rfl⟩) | (go_at_call 15; refine hCl.mono ?_; rintro e w5 ⟨rfl, hK5⟩))
              go_roundw
              case rel => exact ⟨k + 1, S', f, g, nf, ng, by omega, by omega, by go_num, hK5.held, OK.out, HN, hK5.map hMf3, hK5.map hMg3, by omega, by omega, hK5.below⟩
              case measure => simp [intOf]; omega
          · as_aux_lemma =>
              have hCp := copy_kept hh3 hbw3 hok q
              rcases HT.out.copy q with ⟨t1, t2⟩ | ⟨y, t1, hfq⟩
              · obtain ⟨er, her⟩ : ∃ er, er = (S.copy q).1.2 := ⟨_, rfl⟩
                rw [t2, ← her] at hCp
                rw [← her] at t1
                have hne : (er == 0) = false := by simpa using t1
                generalize (S.copy q).1.1 = cn at *
                have HN := HT
                have OK := hide hok
                clear her t1 t2
                go_wp2_with (first | (go_at_call 16; refine (among_any _ _ _ (by omega) (by omega) (by omega) (by omega)).mono ?_; rintro e w4 ⟨rfl, rfl⟩) | (go_at_call 14; refine hCp.mono ?_; rintro e w5 ⟨rfl, hK5⟩))
                go_roundw
                case rel => exact ⟨k + 1, _, f, g, nf, ng, by omega, by omega, by go_num, hK5.held, OK.out, HN, hK5.map hMf3, hK5.map hMg3, by omega, by omega, hK5.below⟩
                case measure => simp [intOf]; omega
              · rw [t1] at hCp
                have OK := hide (by have := hok.copy q; rw [t1] at this; exact this)
                have HN := hide (HT.out.post hok y.fr y.to y.body)
                have hnone := HT.out.new (S.sent : Int) (Int.le_refl _)
                have hsb : -9223372036854775808 ≤ (S.sent : Int) ∧ (S.sent : Int) ≤ 9223372036854775807 := by have := hok.sent; omega
                clear t1
                generalize S.post y.fr y.to y.body = S' at *
                go_wp2_with (first | (go_at_call 16; refine (among_any _ _ _ (by omega) (by omega) (by omega) (by omega)).mono ?_; rintro e w4 ⟨rfl, rfl⟩) | (go_at_call 14; refine hCp.mono ?_; rintro e w5 ⟨rfl, hK5⟩; have hMf5 := hK5.map hMf3; have hb6 := below_alloc1 w5 (.cells #[.int .i64 0, .int .i64 0, .int .i64 0, .string ⟨#[]⟩] LetT); have hlk := hMf5.look_ok Try.underlying42 (zero_let w5) hsb; rw [hnone] at hlk; have hlk' : (Instr.lookup 42 (.map (some bs)) (.int .i64 (S.sent : Int)) true).run Try.prog w5 = .ok (.tuple #[noL, .bool false]) w5 := hlk; have hl2 := (hMf5.below hb6).look Try.underlying42 (zero_let _) hqb; rw [hfq] at hl2; have hl2' : (Instr.lookup 42 (.map (some bs)) (.int .i64 q) false).run Try.prog (w5.alloc (.cells #[.int .i64 0, .int .i64 0, .int .i64 0, .string ⟨#[]⟩] LetT)) = .ok (.agg #[.int .i64 y.id, .int .i64 y.fr, .int .i64 y.to, .string y.body]) (w5.alloc (.cells #[.int .i64 0, .int .i64 0, .int .i64 0, .string ⟨#[]⟩] LetT)) := hl2; clear hlk hl2 hnone))
                have hb7 := below_alloc1 (w5.alloc (.cells #[.int .i64 0, .int .i64 0, .int .i64 0, .string ⟨#[]⟩] LetT)) (.cells #[.int .i64 S.sent, .int .i64 y.fr, .int .i64 y.to, .string y.body] LetT)
                obtain ⟨w8, hrun, hM8, hg8⟩ := ((hMf5.below hb6).below hb7).put Try.underlying42 (by omega) hsb (lval ⟨S.sent, y.fr, y.to, y.body⟩)
                have hrun' : (Instr.mapUpdate 42 (.map (some bs)) (.int .i64 (S.sent : Int)) (.agg #[.int .i64 (S.sent : Int), .int .i64 (y.fr : Int), .int .i64 (y.to : Int), .string y.body])).run Try.prog ((w5.alloc (.cells #[.int .i64 0, .int .i64 0, .int .i64 0, .string ⟨#[]⟩] LetT)).alloc (.cells #[.int .i64 S.sent, .int .i64 y.fr, .int .i64 y.to, .string y.body] LetT)) = .ok () w8 := hrun
                clear hrun
                rw [hrun']
                go_wp2
                go_roundw
                case rel => exact ⟨k + 1, S', _, g, nf + 1, ng, by omega, by omega, by go_num, ((hK5.held.below hb6).below hb7).mapped ((hMf5.below hb6).below hb7) hg8, OK.out, HN, hM8, (((hK5.map hMg3).below hb6).below hb7).stay (hg8.block bt (((hK5.map hMg3).below hb6).below hb7).lt (by simpa using Ne.symm hbt)), by omega, by omega, below_grown ((hK5.below.alloc hK5.below.size _).alloc (by have := hK5.below.size; simp; omega) _) hg8 (fun g' hg' => by cases hg'; omega)⟩
                case measure => simp [intOf]; omega
          · as_aux_lemma =>
              have hCl := part_kept hh3 hbw3 hok (x.a % 4) (x.b % 4)
              have HN := hide (HT.out.part (x.a % 4) (x.b % 4))
              have OK := hide (hok.part (x.a % 4) (x.b % 4))
              generalize (S.part (x.a % 4) (x.b % 4)).2 = S' at *
              go_wp2_with (first | (go_at_call 16; refine (among_any _ _ _ (by omega) (by omega) (by omega) (by omega)).mono ?_; rintro e w4 ⟨rfl, rfl⟩) | (go_at_call 20; refine hCl.mono ?_; rintro e w5 ⟨rfl, hK5⟩))
              go_roundw
              case rel => exact ⟨k + 1, S', f, g, nf, ng, by omega, by omega, by go_num, hK5.held, OK.out, HN, hK5.map hMf3, hK5.map hMg3, by omega, by omega, hK5.below⟩
              case measure => simp [intOf]; omega
          · as_aux_lemma =>
              have hCl := join_kept hh3 hbw3 hok (x.a % 4) (x.b % 4)
              have HN := hide (HT.out.join (x.a % 4) (x.b % 4))
              have OK := hide (hok.join (x.a % 4) (x.b % 4))
              generalize (S.join (x.a % 4) (x.b % 4)).2 = S' at *
              go_wp2_with (first | (go_at_call 16; refine (among_any _ _ _ (by omega) (by omega) (by omega) (by omega)).mono ?_; rintro e w4 ⟨rfl, rfl⟩) | (go_at_call 21; refine hCl.mono ?_; rintro e w5 ⟨rfl, hK5⟩))
              go_roundw
              case rel => exact ⟨k + 1, S', f, g, nf, ng, by omega, by omega, by go_num, hK5.held, OK.out, HN, hK5.map hMf3, hK5.map hMg3, by omega, by omega, hK5.below⟩
              case measure => simp [intOf]; omega
    · by_cases hl1 : (k : Int) < (ac.length : Int)
      all_goals
        have hl2 : (k : Int) < (ac.length : Int) → ¬ (k : Int) < 200 := fun h h' => hlt ⟨by omega, by omega⟩
        first | (have hl3 := hl2 hl1; clear hl2) | clear hl2
        go_wp2
        go_ret
        exact ⟨rfl, hbel⟩

end Go.Proofs.Ytmdpkkipjdpopaa.Nk
