/- Walks over net.go: Send, Lose, Take, Copy. -/
import Derived.Test.YtmdpkkipjdpopaaNtPost
namespace Go.Proofs.Ytmdpkkipjdpopaa.Nk
open Go.RowKit Go.Joins Gk

/-- what holds of every net -/
structure Nst.Ok (S : Nst) : Prop where
  n1 : 1 ≤ S.nodes
  n2 : S.nodes ≤ 16
  many : S.ls.length ≤ 4096
  sent : S.sent ≤ 1099511627776
  each : ∀ x ∈ S.ls, x.id < S.sent ∧ x.fr < S.nodes ∧ x.to < S.nodes ∧ x.body.size ≤ 65536
  pairs : ∀ p ∈ S.ps, p.1 < p.2 ∧ p.2 < S.nodes
  once : S.ps.Nodup

theorem nodup_few : ∀ (n : Nat) (l : List Nat), l.Nodup → (∀ x ∈ l, x < n) → l.length ≤ n
  | 0, l, _, h => by
    cases l with
    | nil => simp
    | cons x r => exact absurd (h x (List.mem_cons_self ..)) (by omega)
  | n + 1, l, hd, h => by
    have h1 : (l.erase n).length ≤ n := nodup_few n _ (hd.erase n) (fun x hx => by
      have hx' := (List.Nodup.mem_erase_iff hd).1 hx
      have := h x hx'.2
      have := hx'.1
      omega)
    have h2 : l.length ≤ (l.erase n).length + 1 := by
      rw [List.length_erase]
      split <;> omega
    omega
theorem Nst.Ok.few {S : Nst} (h : S.Ok) : S.ps.length ≤ 4096 := by
  have hm : (S.ps.map fun p => p.1 * 16 + p.2).length ≤ 4096 := by
    refine nodup_few 4096 _ ?_ ?_
    · refine List.Pairwise.map _ (fun a b hab e => ?_) (List.Pairwise.imp_of_mem (R := fun a b : Pr => a ≠ b) (S := fun a b : Pr => a ≠ b ∧ a.2 < 16 ∧ b.2 < 16) (fun ha hb hab => ⟨hab, Nat.lt_of_lt_of_le (h.pairs _ ha).2 h.n2, Nat.lt_of_lt_of_le (h.pairs _ hb).2 h.n2⟩) h.once)
      obtain ⟨h1, h2, h3⟩ := hab
      exact h1 (Prod.ext (by omega) (by omega))
    · intro x hx
      obtain ⟨p, hp, rfl⟩ := List.mem_map.1 hx
      have := h.pairs p hp
      have := h.n2
      omega
  rwa [List.length_map] at hm

def Nst.send (S : Nst) (a b : Int) (s : ByteArray) : (Int × Int) × Nst :=
  if hasN S.nodes a = false ∨ hasN S.nodes b = false then ((0, 30), S)
  else if 65536 < s.size ∨ S.full = true then ((0, 2), S)
  else ((S.sent, 0), S.post a.toNat b.toNat s)

theorem hasN_iff {n : Nat} {x : Int} : hasN n x = true ↔ 0 ≤ x ∧ x < n := by simp [hasN]

set_option maxHeartbeats 1600000 in
theorem send_any {own : Nat → Prop} {bn : Nat} {S : Nst} (w : World) (h : NHeld w own bn S) (hfr : Fresh own w) (hok : S.Ok) (a b : Int) (s : ByteArray) (hs : s.size ≤ 140737488351232) :
    Calls Try.prog 13 #[.pointer (some ⟨bn, 0, none⟩), .int .i64 a, .int .i64 b, .string s] w fun e w' => e = .returned (.tuple #[.int .i64 (S.send a b s).1.1, .int .i64 (S.send a b s).1.2]) ∧ NHeld w' own bn (S.send a b s).2 ∧ Only own w w' := by
  obtain ⟨v, u, h⟩ := h
  have hX := has_any w h
  have hF := full_any w h hok.sent
  cases ha : hasN S.nodes a
  · have hv : S.send a b s = ((0, 30), S) := by simp [Nst.send, ha]
    rw [hv]
    have HH := hide h
    clear h
    go_enter Try.func13, Try.ntmps13
    go_wp2_with (first | (go_at_call 31; refine (hX _).mono ?_; rintro e w1 ⟨rfl, rfl⟩))
    go_ret2
    exact ⟨rfl, ⟨v, u, HH.out⟩, Only.refl _ _⟩
  · cases hb : hasN S.nodes b
    · have hv : S.send a b s = ((0, 30), S) := by simp [Nst.send, hb]
      rw [hv]
      have HH := hide h
      clear h
      go_enter Try.func13, Try.ntmps13
      go_wp2_with (first | (go_at_call 31; refine (hX _).mono ?_; rintro e w1 ⟨rfl, rfl⟩))
      go_ret2
      exact ⟨rfl, ⟨v, u, HH.out⟩, Only.refl _ _⟩
    · obtain ⟨a0, a1⟩ := hasN_iff.1 ha
      obtain ⟨b0, b1⟩ := hasN_iff.1 hb
      by_cases hsz : 65536 < s.size
      · have hv : S.send a b s = ((0, 2), S) := by simp [Nst.send, ha, hb, hsz]
        rw [hv]
        have hsz' : (65536 : Int) < (s.size : Int) := by omega
        have HH := hide h
        clear h
        go_enter Try.func13, Try.ntmps13
        go_wp2_with (first | (go_at_call 31; refine (hX _).mono ?_; rintro e w1 ⟨rfl, rfl⟩))
        go_ret2
        exact ⟨rfl, ⟨v, u, HH.out⟩, Only.refl _ _⟩
      · have hsz' : (s.size : Int) ≤ (65536 : Int) := by omega
        cases hf : S.full
        · have hv : S.send a b s = (((S.sent : Int), 0), S.post a.toNat b.toNat s) := by simp [Nst.send, ha, hb, hsz, hf]
          rw [hv]
          rw [hf] at hF
          have hP := post_any w h hfr hok.many hok.sent a.toNat b.toNat s hs
          rw [Int.toNat_of_nonneg a0, Int.toNat_of_nonneg b0] at hP
          clear h
          generalize S.post a.toNat b.toNat s = S' at *
          go_enter Try.func13, Try.ntmps13
          go_wp2_with (first | (go_at_call 31; refine (hX _).mono ?_; rintro e w1 ⟨rfl, rfl⟩) | (go_at_call 32; refine hF.mono ?_; rintro e w1 ⟨rfl, rfl⟩) | (go_at_call 33; refine hP.mono ?_; rintro e w2 ⟨rfl, hh2, ho2⟩))
          go_ret2
          exact ⟨rfl, hh2, ho2⟩
        · have hv : S.send a b s = ((0, 2), S) := by simp [Nst.send, ha, hb, hf]
          rw [hv]
          rw [hf] at hF
          have HH := hide h
          clear h
          go_enter Try.func13, Try.ntmps13
          go_wp2_with (first | (go_at_call 31; refine (hX _).mono ?_; rintro e w1 ⟨rfl, rfl⟩) | (go_at_call 32; refine hF.mono ?_; rintro e w1 ⟨rfl, rfl⟩))
          go_ret2
          exact ⟨rfl, ⟨v, u, HH.out⟩, Only.refl _ _⟩

/-- where the letter of a number stands -/
def Nst.find (S : Nst) (id : Int) : Option Nat := S.ls.findIdx? (isId id)
theorem find_none {S : Nst} {id : Int} (h : S.find id = none) : idxI (isId id) S.ls = -1 := by rw [Nst.find] at h; simp [idxI, h]
theorem find_some {S : Nst} {id : Int} {i : Nat} (h : S.find id = some i) : idxI (isId id) S.ls = i ∧ i < S.ls.length := by
  rw [Nst.find] at h
  exact ⟨by simp [idxI, h], (List.findIdx?_eq_some_iff_getElem.1 h).1⟩

def Nst.lose (S : Nst) (id : Int) : Int × Nst := match S.find id with | none => (5, S) | some i => (0, { S with ls := S.ls.eraseIdx i })

set_option maxHeartbeats 1600000 in
theorem lose_any {own : Nat → Prop} {bn : Nat} {S : Nst} (w : World) (h : NHeld w own bn S) (hok : S.Ok) (id : Int) :
    Calls Try.prog 15 #[.pointer (some ⟨bn, 0, none⟩), .int .i64 id] w fun e w' => e = .returned (.int .i64 (S.lose id).1) ∧ NHeld w' own bn (S.lose id).2 ∧ Only own w w' := by
  obtain ⟨v, u, h⟩ := h
  have hF := find_any w h hok.many id
  cases hf : S.find id with
  | none =>
    have hv : S.lose id = (5, S) := by simp [Nst.lose, hf]
    rw [hv]
    rw [find_none hf] at hF
    have HH := hide h
    clear h
    go_enter Try.func15, Try.ntmps15
    go_wp2_with (first | (go_at_call 34; refine hF.mono ?_; rintro e w1 ⟨rfl, hb1⟩))
    go_ret
    exact ⟨rfl, ⟨v, u, HH.out.below hb1⟩, Only.of_below hb1⟩
  | some i =>
    obtain ⟨h1, h2⟩ := find_some hf
    have hv : S.lose id = (0, { S with ls := S.ls.eraseIdx i }) := by simp [Nst.lose, hf]
    rw [hv]
    rw [h1] at hF
    clear h1
    have hR := fun W (hb : Below w.heap.size w W) => remove_any W (h.below hb) hok.many i h2
    generalize ({ S with ls := S.ls.eraseIdx i } : Nst) = S' at *
    have i1 : (0 : Int) ≤ (i : Int) := by omega
    clear h
    go_enter Try.func15, Try.ntmps15
    go_wp2_with (first | (go_at_call 34; refine hF.mono ?_; rintro e w1 ⟨rfl, hb1⟩; have hR1 := hR w1 hb1) | (go_at_call 35; refine hR1.mono ?_; rintro e w2 ⟨rfl, hh2, ho2⟩))
    go_ret
    exact ⟨rfl, hh2, (Only.of_below hb1).trans ho2⟩

def Nst.copy (S : Nst) (id : Int) : (Int × Int) × Nst :=
  match S.find id with
  | none => ((0, 5), S)
  | some i => if S.full = true then ((0, 2), S) else match S.ls[i]? with | some x => (((S.sent : Int), 0), S.post x.fr x.to x.body) | none => ((0, 5), S)

theorem below_box {w W : World} (hb : Below w.heap.size w W) (o : Obj) : Below w.heap.size w (W.alloc o) := hb.alloc hb.size o

set_option maxHeartbeats 1600000 in
theorem copy_any {own : Nat → Prop} {bn : Nat} {S : Nst} (w : World) (h : NHeld w own bn S) (hfr : Fresh own w) (hok : S.Ok) (id : Int) :
    Calls Try.prog 14 #[.pointer (some ⟨bn, 0, none⟩), .int .i64 id] w fun e w' => e = .returned (.tuple #[.int .i64 (S.copy id).1.1, .int .i64 (S.copy id).1.2]) ∧ NHeld w' own bn (S.copy id).2 ∧ Only own w w' := by
  obtain ⟨v, u, h⟩ := h
  have hF := find_any w h hok.many id
  cases hf : S.find id with
  | none =>
    have hv : S.copy id = ((0, 5), S) := by simp [Nst.copy, hf]
    rw [hv]
    rw [find_none hf] at hF
    have HH := hide h
    clear h
    go_enter Try.func14, Try.ntmps14
    go_wp2_with (first | (go_at_call 34; refine hF.mono ?_; rintro e w1 ⟨rfl, hb1⟩))
    go_ret2
    exact ⟨rfl, ⟨v, u, HH.out.below hb1⟩, Only.of_below hb1⟩
  | some i =>
    obtain ⟨h1, h2⟩ := find_some hf
    rw [h1] at hF
    clear h1
    have hFu := fun W (hb : Below w.heap.size w W) => full_any W (h.below hb) hok.sent
    have i1 : (0 : Int) ≤ (i : Int) := by omega
    have i2 : (i : Int) < (S.ls.length : Int) := by omega
    cases hfu : S.full
    · rw [hfu] at hFu
      have hv : S.copy id = (((S.sent : Int), 0), S.post S.ls[i].fr S.ls[i].to S.ls[i].body) := by simp [Nst.copy, hf, hfu, List.getElem?_eq_getElem h2]
      rw [hv]
      obtain ⟨x, hx⟩ : ∃ x, S.ls[i] = x := ⟨_, rfl⟩
      have hxs : x.body.size ≤ 65536 := by rw [← hx]; exact (hok.each _ (List.getElem_mem h2)).2.2.2
      have hP := fun W (hb : Below w.heap.size w W) => post_any W (h.below hb) (hfr.later hb.size) hok.many hok.sent x.fr x.to x.body (by omega)
      obtain ⟨g, cap, rfl, hgl, hc⟩ := h.row.at lenc_len i h2
      have c0 := hc 0 _ rfl
      have c1 := hc 1 _ rfl
      have c2 := hc 2 _ rfl
      have c3 := hc 3 _ rfl
      rw [Nat.add_zero] at c0
      have d2 := h.c2
      have hbl := h.lt
      rw [hx] at c0 c1 c2 c3 ⊢
      clear hc h hx
      generalize S.post x.fr x.to x.body = S' at *
      go_enter Try.func14, Try.ntmps14
      go_wp2_with (first | (go_at_call 34; refine hF.mono ?_; rintro e w1 ⟨rfl, hb1⟩; have d2' := (hb1.cell (p := ⟨bn, 2, none⟩) hbl).trans d2; have c0' := (hb1.cell (p := ⟨g, i * 4, none⟩) hgl).trans c0; have c1' := (hb1.cell (p := ⟨g, i * 4 + 1, none⟩) hgl).trans c1; have c2' := (hb1.cell (p := ⟨g, i * 4 + 2, none⟩) hgl).trans c2; have c3' := (hb1.cell (p := ⟨g, i * 4 + 3, none⟩) hgl).trans c3; have hFu1 := hFu w1 hb1; have hP1 := hP _ (below_box hb1 (.cells #[.int .i64 x.id, .int .i64 x.fr, .int .i64 x.to, .string x.body] LetT))) | (go_at_call 32; refine hFu1.mono ?_; rintro e w2 ⟨rfl, rfl⟩) | (go_at_call 33; refine hP1.mono ?_; rintro e w3 ⟨rfl, hh3, ho3⟩))
      go_ret2
      exact ⟨rfl, hh3, (Only.of_below (below_box hb1 _)).trans ho3⟩
    · rw [hfu] at hFu
      have hv : S.copy id = ((0, 2), S) := by simp [Nst.copy, hf, hfu]
      rw [hv]
      have HH := hide h
      clear h
      go_enter Try.func14, Try.ntmps14
      go_wp2_with (first | (go_at_call 34; refine hF.mono ?_; rintro e w1 ⟨rfl, hb1⟩; have hFu1 := hFu w1 hb1) | (go_at_call 32; refine hFu1.mono ?_; rintro e w2 ⟨rfl, rfl⟩))
      go_ret2
      exact ⟨rfl, ⟨v, u, HH.out.below hb1⟩, Only.of_below hb1⟩

/-- are two nodes parted -/
def Nst.parted (S : Nst) (a b : Nat) : Bool := memP (prOf a b) S.ps

/-- what Take tells, and leaves -/
def Nst.take (S : Nst) (id : Int) : (Option Lt × Int) × Nst :=
  match S.find id with
  | none => ((none, 5), S)
  | some i => match S.ls[i]? with | some x => if S.parted x.fr x.to = true then ((none, 4), S) else ((some x, 0), { S with ls := S.ls.eraseIdx i }) | none => ((none, 5), S)
def optV : Option Lt → Value | none => noL | some x => lval x

set_option maxHeartbeats 3200000 in
theorem take_any {own : Nat → Prop} {bn : Nat} {S : Nst} (w : World) (h : NHeld w own bn S) (hok : S.Ok) (id : Int) :
    Calls Try.prog 18 #[.pointer (some ⟨bn, 0, none⟩), .int .i64 id] w fun e w' => e = .returned (.tuple #[optV (S.take id).1.1, .int .i64 (S.take id).1.2]) ∧ NHeld w' own bn (S.take id).2 ∧ Only own w w' := by
  obtain ⟨v, u, h⟩ := h
  have hb0 := below_alloc1 w (.cells #[.int .i64 0, .int .i64 0, .int .i64 0, .string ⟨#[]⟩] LetT)
  have hA0 := heap_alloc_new w (.cells #[.int .i64 0, .int .i64 0, .int .i64 0, .string ⟨#[]⟩] LetT)
  obtain ⟨W, hW⟩ : ∃ W, W = w.alloc (.cells #[.int .i64 0, .int .i64 0, .int .i64 0, .string ⟨#[]⟩] LetT) := ⟨_, rfl⟩
  rw [← hW] at hb0 hA0
  have hzW : w.heap.size < W.heap.size := by rw [hW]; simp
  have h0 := h.below hb0
  have hF := find_any W h0 hok.many id
  cases hf : S.find id with
  | none =>
    have hv : S.take id = ((none, 5), S) := by simp [Nst.take, hf]
    rw [hv]
    rw [find_none hf] at hF
    have HH := hide h
    clear h
    go_enter Try.func18, Try.ntmps18
    go_wp2_with fail
    rw [← hW]
    clear hW
    go_wp2_with (first | (go_at_call 34; refine hF.mono ?_; rintro e w1 ⟨rfl, hb1⟩; have hA1 := (hb1.block w.heap.size hzW).trans hA0; have e0 : w1.cell? ⟨w.heap.size, 0, none⟩ = some (.int .i64 0) := cell_of_block hA1 0; have e1 : w1.cell? ⟨w.heap.size, 1, none⟩ = some (.int .i64 0) := cell_of_block hA1 1; have e2 : w1.cell? ⟨w.heap.size, 2, none⟩ = some (.int .i64 0) := cell_of_block hA1 2; have e3 : w1.cell? ⟨w.heap.size, 3, none⟩ = some (.string ⟨#[]⟩) := cell_of_block hA1 3; have z0 := unfrozen_of_block hA1 0; have z1 := unfrozen_of_block hA1 1; have z2 := unfrozen_of_block hA1 2; have z3 := unfrozen_of_block hA1 3))
    refine bodyPost_ret (v := .tuple #[noL, .int .i64 5]) (by simp [results, Try.results18, go_sem, e0, e1, e2, e3]) rfl ?_
    have hbx := (((((hb0.trans (hb1.mono hb0.size)).setCell (p := ⟨w.heap.size, 0, none⟩) (Nat.le_refl _) (.int .i64 0)).setCell (p := ⟨w.heap.size, 1, none⟩) (Nat.le_refl _) (.int .i64 0)).setCell (p := ⟨w.heap.size, 2, none⟩) (Nat.le_refl _) (.int .i64 0)).setCell (p := ⟨w.heap.size, 3, none⟩) (Nat.le_refl _) (.string ⟨#[]⟩))
    exact ⟨rfl, ⟨v, u, HH.out.below hbx⟩, Only.of_below hbx⟩
  | some i =>
    obtain ⟨h1, h2⟩ := find_some hf
    rw [h1] at hF
    clear h1
    have i1 : (0 : Int) ≤ (i : Int) := by omega
    have i2 : (i : Int) < (S.ls.length : Int) := by omega
    obtain ⟨x, hx⟩ : ∃ x, S.ls[i] = x := ⟨_, rfl⟩
    have hgx : S.ls[i]? = some x := by rw [List.getElem?_eq_getElem h2, hx]
    have hfew := hok.few
    obtain ⟨g, cap, rfl, hgl, hc⟩ := h0.row.at lenc_len i h2
    have c0 := hc 0 _ rfl
    have c1 := hc 1 _ rfl
    have c2 := hc 2 _ rfl
    have c3 := hc 3 _ rfl
    rw [Nat.add_zero] at c0
    rw [hx] at c0 c1 c2 c3
    have d2 := h0.c2
    have hbl := h0.lt
    have hbl0 := h.lt
    clear hc hx
    cases hpt : S.parted x.fr x.to
    · have hv : S.take id = ((some x, 0), { S with ls := S.ls.eraseIdx i }) := by simp [Nst.take, hf, hgx, hpt]
      rw [hv]
      obtain ⟨own', h', hown'⟩ := h.tight
      have HH := hide h'
      have HO := hide hown'
      have HM := hide hok.many
      clear h' hown' h h0 hok
      go_enter Try.func18, Try.ntmps18
      go_wp2_with fail
      rw [← hW]
      clear hW
      go_wp2_with (first | (go_at_call 34; refine hF.mono ?_; rintro e w1 ⟨rfl, hb1⟩; have d2' := (hb1.cell (p := ⟨bn, 2, none⟩) hbl).trans d2; have c0' := (hb1.cell (p := ⟨g, i * 4, none⟩) hgl).trans c0; have c1' := (hb1.cell (p := ⟨g, i * 4 + 1, none⟩) hgl).trans c1; have c2' := (hb1.cell (p := ⟨g, i * 4 + 2, none⟩) hgl).trans c2; have c3' := (hb1.cell (p := ⟨g, i * 4 + 3, none⟩) hgl).trans c3; have hz1 := hb1.size) | fail)
      obtain ⟨W2, hW2⟩ : ∃ W2, W2 = w1.alloc (.cells #[.int .i64 x.id, .int .i64 x.fr, .int .i64 x.to, .string x.body] LetT) := ⟨_, rfl⟩
      rw [← hW2]
      have hb2 : Below w1.heap.size w1 W2 := by rw [hW2]; exact below_alloc1 _ _
      have hA2 : W2.heap[w1.heap.size]? = some (.cells #[.int .i64 x.id, .int .i64 x.fr, .int .i64 x.to, .string x.body] LetT (0, 0)) := by rw [hW2]; exact heap_alloc_new w1 _
      clear hW2 d2' c0' c1' c2' c3' c0 c1 c2 c3 d2
      have hbw2 : Below w.heap.size w W2 := hb0.trans ((hb1.trans (hb2.mono hz1)).mono hb0.size)
      have hR2 : W2.heap[w.heap.size]? = some (.cells #[.int .i64 0, .int .i64 0, .int .i64 0, .string ⟨#[]⟩] LetT (0, 0)) := (hb2.block _ (by omega)).trans ((hb1.block _ hzW).trans hA0)
      have hl2 := (Array.getElem?_eq_some_iff.1 hA2).1
      have hAp := apart_any W2 (HH.out.below hbw2) hfew x.fr x.to
      rw [show memP (prOf x.fr x.to) S.ps = false from hpt] at hAp
      have hz2 := hbw2.size
      go_wp2_with (first | (go_at_call 38; refine hAp.mono ?_; rintro e w3 ⟨rfl, hb3⟩; have hRem := remove_any w3 ((HH.out.below hbw2).below hb3) HM.out i h2) | (go_at_call 35; refine hRem.mono ?_; rintro e w4 ⟨rfl, hh4, ho4⟩; have hz3 := hb3.size; have hR4 := (ho4.block w.heap.size (by omega) (fun e => absurd (HO.out _ e).2 (by omega))).trans ((hb3.block w.heap.size (by omega)).trans hR2); have hA4 := (ho4.block w1.heap.size (by omega) (fun e => absurd (HO.out _ e).2 (by omega))).trans ((hb3.block w1.heap.size hl2).trans hA2); have e0 : w4.cell? ⟨w.heap.size, 0, none⟩ = some (.int .i64 0) := cell_of_block hR4 0; have e1 : w4.cell? ⟨w.heap.size, 1, none⟩ = some (.int .i64 0) := cell_of_block hR4 1; have e2 : w4.cell? ⟨w.heap.size, 2, none⟩ = some (.int .i64 0) := cell_of_block hR4 2; have e3 : w4.cell? ⟨w.heap.size, 3, none⟩ = some (.string ⟨#[]⟩) := cell_of_block hR4 3; have z0 := unfrozen_of_block hR4 0; have z1 := unfrozen_of_block hR4 1; have z2 := unfrozen_of_block hR4 2; have z3 := unfrozen_of_block hR4 3; have f0 : w4.cell? ⟨w1.heap.size, 0, none⟩ = some (.int .i64 x.id) := cell_of_block hA4 0; have f1 : w4.cell? ⟨w1.heap.size, 1, none⟩ = some (.int .i64 x.fr) := cell_of_block hA4 1; have f2 : w4.cell? ⟨w1.heap.size, 2, none⟩ = some (.int .i64 x.to) := cell_of_block hA4 2; have f3 : w4.cell? ⟨w1.heap.size, 3, none⟩ = some (.string x.body) := cell_of_block hA4 3))
      refine bodyPost_ret (v := .tuple #[lval x, .int .i64 0]) (by simp [results, Try.results18, go_sem, e0, e1, e2, e3]) rfl ?_
      have hso := ho4.size
      have hbx := (((((Below.refl w.heap.size w4).setCell (p := ⟨w.heap.size, 0, none⟩) (Nat.le_refl _) (.int .i64 x.id)).setCell (p := ⟨w.heap.size, 1, none⟩) (Nat.le_refl _) (.int .i64 x.fr)).setCell (p := ⟨w.heap.size, 2, none⟩) (Nat.le_refl _) (.int .i64 x.to)).setCell (p := ⟨w.heap.size, 3, none⟩) (Nat.le_refl _) (.string x.body))
      have hO3 : Only own w w4 := (Only.of_below (hbw2.trans (hb3.mono hz2))).trans (ho4.mono fun b _ hb => (HO.out b hb).1)
      refine ⟨rfl, (hh4.frame fun k _ hk => hbx.block k (HO.out k hk).2).owns fun b _ hb => (HO.out b hb).1, ⟨hbx.os.trans hO3.os, hbx.tape.trans hO3.tape, hbx.output.trans hO3.output, Nat.le_trans hO3.size hbx.size, fun k hk hn => (hbx.block k hk).trans (hO3.block k hk hn)⟩⟩
    · have hv : S.take id = ((none, 4), S) := by simp [Nst.take, hf, hgx, hpt]
      rw [hv]
      have HH := hide h
      clear h h0 hok
      go_enter Try.func18, Try.ntmps18
      go_wp2_with fail
      rw [← hW]
      clear hW
      go_wp2_with (first | (go_at_call 34; refine hF.mono ?_; rintro e w1 ⟨rfl, hb1⟩; have d2' := (hb1.cell (p := ⟨bn, 2, none⟩) hbl).trans d2; have c0' := (hb1.cell (p := ⟨g, i * 4, none⟩) hgl).trans c0; have c1' := (hb1.cell (p := ⟨g, i * 4 + 1, none⟩) hgl).trans c1; have c2' := (hb1.cell (p := ⟨g, i * 4 + 2, none⟩) hgl).trans c2; have c3' := (hb1.cell (p := ⟨g, i * 4 + 3, none⟩) hgl).trans c3; have hz1 := hb1.size) | fail)
      obtain ⟨W2, hW2⟩ : ∃ W2, W2 = w1.alloc (.cells #[.int .i64 x.id, .int .i64 x.fr, .int .i64 x.to, .string x.body] LetT) := ⟨_, rfl⟩
      rw [← hW2]
      have hb2 : Below w1.heap.size w1 W2 := by rw [hW2]; exact below_alloc1 _ _
      clear hW2 d2' c0' c1' c2' c3' c0 c1 c2 c3 d2
      have hbw2 : Below w.heap.size w W2 := hb0.trans ((hb1.trans (hb2.mono hz1)).mono hb0.size)
      have hR2 : W2.heap[w.heap.size]? = some (.cells #[.int .i64 0, .int .i64 0, .int .i64 0, .string ⟨#[]⟩] LetT (0, 0)) := (hb2.block _ (by omega)).trans ((hb1.block _ hzW).trans hA0)
      have hl2 := (Array.getElem?_eq_some_iff.1 hR2).1
      have hAp := apart_any W2 (HH.out.below hbw2) hfew x.fr x.to
      rw [show memP (prOf x.fr x.to) S.ps = true from hpt] at hAp
      go_wp2_with (first | (go_at_call 38; refine hAp.mono ?_; rintro e w3 ⟨rfl, hb3⟩; have hR3 := (hb3.block w.heap.size hl2).trans hR2; have e0 : w3.cell? ⟨w.heap.size, 0, none⟩ = some (.int .i64 0) := cell_of_block hR3 0; have e1 : w3.cell? ⟨w.heap.size, 1, none⟩ = some (.int .i64 0) := cell_of_block hR3 1; have e2 : w3.cell? ⟨w.heap.size, 2, none⟩ = some (.int .i64 0) := cell_of_block hR3 2; have e3 : w3.cell? ⟨w.heap.size, 3, none⟩ = some (.string ⟨#[]⟩) := cell_of_block hR3 3; have z0 := unfrozen_of_block hR3 0; have z1 := unfrozen_of_block hR3 1; have z2 := unfrozen_of_block hR3 2; have z3 := unfrozen_of_block hR3 3))
      refine bodyPost_ret (v := .tuple #[noL, .int .i64 4]) (by simp [results, Try.results18, go_sem, e0, e1, e2, e3]) rfl ?_
      have hbx := (((((hbw2.trans (hb3.mono hbw2.size)).setCell (p := ⟨w.heap.size, 0, none⟩) (Nat.le_refl _) (.int .i64 0)).setCell (p := ⟨w.heap.size, 1, none⟩) (Nat.le_refl _) (.int .i64 0)).setCell (p := ⟨w.heap.size, 2, none⟩) (Nat.le_refl _) (.int .i64 0)).setCell (p := ⟨w.heap.size, 3, none⟩) (Nat.le_refl _) (.string ⟨#[]⟩))
      exact ⟨rfl, ⟨_, u, HH.out.below hbx⟩, Only.of_below hbx⟩

end Go.Proofs.Ytmdpkkipjdpopaa.Nk
