/- among, of the laws. Layer 16, the laws: who leads is taken, plain: the machines' runs. Layer 16, the laws: who leads is taken, plain: every run of the machines goes through, by reckoning. Layer 16, the laws: who leads is taken: the calls, and what stays beside them. Layer 16, the laws: who leads is taken, plain: what a round is. Layer 16: RaftFlows. -/
import Derived.Test.YtmpahgklcabihaaGreatGCore
import Derived.Test.YtmpahgklcabihaaGreatRfTwb
import Derived.Deep.CutRange
import Derived.Deep.CutBlock
namespace Go.Proofs.YtmpahgklcabihaaGreat.Gk
open Go.RowKit Go.Joins

theorem tmod_twice (x n : Int) (hn : 0 < n) : (Int.tmod x n + n).tmod n = x % n := by
  have h1 := Int.emod_nonneg x (show n ≠ 0 by omega)
  have h2 := Int.emod_lt_of_pos x hn
  have h3 := Int.tmod_lt_of_pos x hn
  have h4 : -n < Int.tmod x n := by
    have := Int.tmod_lt_of_pos (-x) hn
    rw [Int.neg_tmod] at this; omega
  rw [Int.tmod_eq_emod_of_nonneg (by omega), Int.add_emod_right]
  have := Int.mul_tdiv_add_tmod x n
  conv => rhs; rw [← this]
  rw [Int.add_comm, Int.add_mul_emod_self_left]

set_option maxHeartbeats 400000 in
theorem among_any (x n : Int) (w : World) (hn : 0 < n) (hn1 : n ≤ 1000000) (_ : -9223372036854775808 ≤ x) (_ : x ≤ 9223372036854775807) :
    Calls Tryz.prog 14 #[.int .i64 x, .int .i64 n] w fun e w' => e = .returned (.int .i64 (x % n)) ∧ w = w' := by
  have h3 := Int.tmod_lt_of_pos x hn
  have h4 : -n < Int.tmod x n := by
    have := Int.tmod_lt_of_pos (-x) hn
    rw [Int.neg_tmod] at this; omega
  have hT := tmod_twice x n hn
  have hne : (n == 0) = false := by rw [beq_eq_false_iff_ne]; omega
  have hne' : n ≠ 0 := by omega
  go_enter Tryz.func14, Tryz.ntmps14
  go_wp2
  go_ret
  exact ⟨rfl, rfl⟩

end Go.Proofs.YtmpahgklcabihaaGreat.Gk

namespace Go.Proofs.YtmpahgklcabihaaGreat.Rf
open Go.RowKit Go.Joins Go.Proofs.YtmpahgklcabihaaGreat.Gk
open Go.Proofs.YtmpahgklcabihaaGreat.Dk (St Bs)
open Go.Proofs.YtmpahgklcabihaaGreat.Rl (En Lo LH ER ptr blk own Tn eenc eenc_len agr nmb mcode May1)
open Go.Proofs.YtmpahgklcabihaaGreat.Ba (Bl BB Tu Es trn cst mgd DH DI Mk Rc frs cnf cnl)

/-- ticks, till it leads -/
def tkF (who : Nat) : Nat → List Bn → Option (List Bn)
  | 0, T => some T
  | f + 1, T => if (at_ T who).P.role = 2 then some T else if tkC T who then tkF who f (tk1 T who) else none
/-- what is proposed -/
def sd (rd j : Nat) : ByteArray := ⟨#[UInt8.ofNat rd, UInt8.ofNat j]⟩
def ppF (who rd : Nat) : Nat → Nat → List Bn → Option (List Bn)
  | 0, _, T => some T
  | n + 1, j, T => if prC T who (sd rd j) then
      match deliverF 40 0 (pr1 T who (sd rd j)) with
      | some T' => ppF who rd n (j + 1) T'
      | none => none
    else none
/-- what node i takes -/
def exl (T : List Bn) (i : Nat) : List En := tkn (at_ T i).P.s.es (at_ T i).P.tk (at_ T i).P.cm 1048576
/-- of entries the data that are some -/
def ne (l : List En) : List ByteArray := (l.map En.d).filter fun d => d.size ≠ 0
def exC (who rd m : Nat) (T : List Bn) (i : Nat) : Prop := tnC T i ∧ (ne (exl T i)).map (·.data.toList) = (List.range m).map (fun j => (sd rd j).data.toList) ∧ (at_ T i).P.ldr = (who : Int) ∧ (exl T i).length ≤ 1000
instance (who rd m : Nat) (T : List Bn) (i : Nat) : Decidable (exC who rd m T i) := by unfold exC; infer_instance
def exF (who rd m : Nat) : List Nat → List Bn → Option (List Bn)
  | [], T => some T
  | i :: l, T => if exC who rd m T i then exF who rd m l (tn1 T i 1048576) else none
/-- a round -/
def rnA (who rd m : Nat) (T2 : List Bn) : Option (List Bn) :=
  if (at_ T2 who).P.role = 2 ∧ (at_ T2 who).P.ldr = (who : Int) then
    match ppF who rd m 0 T2 with
    | none => none
    | some T3 => if tkC T3 who then
        match deliverF 40 0 (tk1 T3 who) with
        | none => none
        | some T4 => exF who rd m [0, 1, 2] T4
      else none
  else none
def rnF (who rd m : Nat) (T : List Bn) : Option (List Bn) :=
  match tkF who 12 T with
  | none => none
  | some T1 =>
    match deliverF 40 0 T1 with
    | none => none
    | some T2 => rnA who rd m T2
def chkR (f m : Nat) : Bool :=
  match rnF f 0 m tr0 with
  | none => false
  | some T => (rnF 0 1 m T).isSome && (rnF 1 1 m T).isSome && (rnF 2 1 m T).isSome
end Go.Proofs.YtmpahgklcabihaaGreat.Rf

namespace Go.Proofs.YtmpahgklcabihaaGreat.Rf
open Go.RowKit Go.Joins Go.Proofs.YtmpahgklcabihaaGreat.Gk
open Go.Proofs.YtmpahgklcabihaaGreat.Dk (St Bs)
open Go.Proofs.YtmpahgklcabihaaGreat.Rl (En Lo LH ER ptr blk own Tn eenc eenc_len agr nmb mcode May1)
open Go.Proofs.YtmpahgklcabihaaGreat.Ba (Bl BB Tu Es trn cst mgd DH DI Mk Rc frs cnf cnl)

theorem chk0 : ∀ m < 11, chkR 0 m = true := by decide +kernel
theorem chk1 : ∀ m < 11, chkR 1 m = true := by decide +kernel
theorem chk2 : ∀ m < 11, chkR 2 m = true := by decide +kernel
end Go.Proofs.YtmpahgklcabihaaGreat.Rf

namespace Go.Proofs.YtmpahgklcabihaaGreat.Rf
open Go.RowKit Go.Joins Go.Proofs.YtmpahgklcabihaaGreat.Gk
open Go.Proofs.YtmpahgklcabihaaGreat.Dk (St Bs)
open Go.Proofs.YtmpahgklcabihaaGreat.Rl (En Lo LH ER ptr blk own Tn eenc eenc_len agr nmb mcode May1)
open Go.Proofs.YtmpahgklcabihaaGreat.Ba (Bl BB Tu Es trn cst mgd DH DI Mk Rc frs cnf cnl)

/-- what is nobody's stays so, and as it is -/
def Stays (w w' : World) (ps ps' : List Pl) : Prop := ∀ b, b < w.heap.size → (∀ p ∈ ps, ¬ p.X b) → b < w'.heap.size ∧ w'.heap[b]? = w.heap[b]? ∧ ∀ p ∈ ps', ¬ p.X b
theorem Stays.refl (w : World) (ps : List Pl) : Stays w w ps ps := fun _ hb h => ⟨hb, rfl, h⟩
theorem Stays.trans {w w1 w2 : World} {p p1 p2 : List Pl} (h : Stays w w1 p p1) (h2 : Stays w1 w2 p1 p2) : Stays w w2 p p2 := fun b hb hf => by
  obtain ⟨a1, a2, a3⟩ := h b hb hf
  obtain ⟨c1, c2, c3⟩ := h2 b a1 a3
  exact ⟨c1, c2.trans a2, c3⟩
theorem Stays.below {w w' : World} {ps : List Pl} (hb : Below w.heap.size w w') : Stays w w' ps ps := fun b h hf => ⟨Nat.lt_of_lt_of_le h hb.size, hb.block b h, hf⟩
/-- all that is nobody's is kept -/
def KF (w : World) (ps : List Pl) : KS := fun b c => b < w.heap.size ∧ (∀ p ∈ ps, ¬ p.X b) ∧ w.heap[b]? = c
section
variable {B : Nat} {w0 w : World} {a : Option Addr} {nbs : List Nat} {T : List Bn} {ps : List Pl} {i nb : Nat}
theorem DS.to {K : KS} (h : DS K B w0 w a nbs T ps) : DS (KF w ps) B w0 w a nbs T ps := ⟨h.lay, h.nb, h.row, h.free, h.bel, fun _ _ hk => hk⟩
theorem DS.of {w' : World} {ps' : List Pl} {T' : List Bn} (h : DS (KF w ps) B w0 w' a nbs T' ps') : DS KN B w0 w' a nbs T' ps' ∧ Stays w w' ps ps' :=
  ⟨⟨h.lay, h.nb, h.row, h.free, h.bel, fun _ _ hk => hk.elim⟩, fun b hb hf => by
    obtain ⟨h1, h2, h3⟩ := h.kept b _ ⟨hb, hf, rfl⟩
    exact ⟨h1, h3, h2⟩⟩
theorem tick_fl (h : DS KN B w0 w a nbs T ps) (hC : tkC T i) (hnb : nbs[i]? = some nb) :
    Calls Tryz.prog 18 #[ptr nb] w fun e w' => e = .returned (.int .i64 0) ∧ ∃ ps', DS KN B w0 w' a nbs (tk1 T i) ps' ∧ Stays w w' ps ps' :=
  (tick_ds w h.to hC hnb).mono fun _ _ ⟨e, ps', h'⟩ => ⟨e, ps', h'.of⟩
theorem prop_fl (d : ByteArray) (h : DS KN B w0 w a nbs T ps) (hC : prC T i d) (hnb : nbs[i]? = some nb) :
    Calls Tryz.prog 16 #[ptr nb, .string d] w fun e w' => e = .returned (.tuple #[.int .i64 (((at_ T i).P.s.es.length + 1 : Nat) : Int), .int .i64 0]) ∧ ∃ ps', DS KN B w0 w' a nbs (pr1 T i d) ps' ∧ Stays w w' ps ps' :=
  (prop_ds d w h.to hC hnb).mono fun _ _ ⟨e, ps', h'⟩ => ⟨e, ps', h'.of⟩
theorem state_fl (h : DS KN B w0 w a nbs T ps) (hnb : nbs[i]? = some nb) :
    Calls Tryz.prog 17 #[ptr nb] w fun e w' => e = .returned (.tuple #[.int .i64 (at_ T i).P.role, .int .i64 (at_ T i).P.s.t, .int .i64 (at_ T i).P.ldr, .int .i64 (at_ T i).P.cm]) ∧ DS KN B w0 w' a nbs T ps ∧ Stays w w' ps ps :=
  (state_ds w h.to hnb).mono fun _ _ ⟨e, h'⟩ => ⟨e, h'.of⟩
theorem deliver_fl {f : Nat} {Tf : List Bn} {cap : Nat} (h : DS KN B w0 w a nbs T ps) (h3 : T.length = 3) (hn3 : nbs.length = 3) (hd : deliverF f 0 T = some Tf) :
    Calls Tryz.prog 22 #[.slice a 3 cap] w fun e w' => e = .returned (.bool true) ∧ ∃ ps', DS KN B w0 w' a nbs Tf ps' ∧ Stays w w' ps ps' :=
  (deliver_any a cap nbs B w0 w T ps f Tf h.to h3 hn3 hd).mono fun _ _ ⟨e, ps', h'⟩ => ⟨e, ps', h'.of⟩
theorem taken_fl (most : Int) (h : DS KN B w0 w a nbs T ps) (hC : tnC T i) (h0 : 0 ≤ most) (hnb : nbs[i]? = some nb) :
    Calls Tryz.prog 19 #[ptr nb, .int .i64 most] w fun e w' => ∃ av cap, e = .returned (.tuple #[.slice av (tkn (at_ T i).P.s.es (at_ T i).P.tk (at_ T i).P.cm most).length cap, .int .i64 0]) ∧ ER w' (.slice av (tkn (at_ T i).P.s.es (at_ T i).P.tk (at_ T i).P.cm most).length cap) (tkn (at_ T i).P.s.es (at_ T i).P.tk (at_ T i).P.cm most) ∧ ∃ ps', DS KN B w0 w' a nbs (tn1 T i most) ps' ∧ Stays w w' ps ps' ∧ ∀ g, blk (.slice av (tkn (at_ T i).P.s.es (at_ T i).P.tk (at_ T i).P.cm most).length cap) = some g → w.heap.size ≤ g ∧ ∀ p ∈ ps', ¬ p.X g := by
  obtain ⟨hj, rfl, S, e1, e2, hN⟩ := h.hi w hnb
  obtain ⟨c1, c2, c3, c4⟩ := hC
  refine (Taken_ok most (at_ T i).P.tk w hN (c1.ok S) h0 rfl c2 c3 c4).mono ?_
  rintro e w' ⟨av, cap, rfl, hE, X', hN', ht', hg⟩
  have hd := h.to.one hj (Q := ⟨{ (at_ T i).P with tk := (at_ T i).P.tk + (tkn (at_ T i).P.s.es (at_ T i).P.tk (at_ T i).P.cm most).length }, (at_ T i).r, (at_ T i).k⟩) (S := S) (X' := X') (by have := hN'; simpa [Pn.nd] using this) e2 ht'
  refine ⟨av, cap, rfl, hE, _, hd.of.1, hd.of.2, fun g hb => ⟨(hg g hb).1, fun p hp hk => ?_⟩⟩
  rcases List.mem_or_eq_of_mem_set hp with h1 | rfl
  · have h2 := (h.lay.nds.each p h1).lt hk
    have h3 := (hg g hb).1
    omega
  · exact (hg g hb).2 hk
end
theorem DS.grown {B : Nat} {w0 w w1 : World} {a : Option Addr} {nbs : List Nat} {T : List Bn} {ps : List Pl} {o : Option Nat} (h : DS KN B w0 w a nbs T ps) (hg : w.grownBy w1 o) (hb : ∀ b, o = some b → B ≤ b ∧ (∀ p ∈ ps, ¬ p.X b) ∧ ∀ off, a ≠ some ⟨b, off, none⟩) : DS KN B w0 w1 a nbs T ps := by
  refine ⟨⟨h.lay.nds.frame hg.size fun p hp k hk => hg.block k ((h.lay.nds.each p hp).lt hk) fun e => (hb k e.symm).2.1 p hp hk, h.lay.len, h.lay.each, Nat.le_trans h.lay.hB hg.size⟩, h.nb, h.row.later (fun b off e hlt => hg.block b hlt fun e2 => (hb b e2.symm).2.2 off e) hg.size, h.free, h.bel.trans ⟨hg.os, hg.tape, hg.output, hg.size, fun k hk => hg.block k (Nat.lt_of_lt_of_le hk h.lay.hB) fun e => ?_⟩, fun _ _ hk => hk.elim⟩
  have := (hb k e.symm).1
  omega

abbrev FStrT : TypeId := 9
abbrev FStrsT : TypeId := 45
abbrev GotT : TypeId := 62
theorem tenc_one (x : ByteArray) : ∀ u ∈ Gk.tenc x, u.oneCell' = true := by intro u hu; simp only [Gk.tenc, List.mem_singleton] at hu; subst hu; rfl
theorem fstr_info : (Tryz.prog.info? FStrT).map (fun i => (i.zero, i.size, i.bytes)) = some (some (.string ⟨#[]⟩), 1, 16) := by kernel_rfl
def up {α : Type} (f : Nat → α) (i : Nat) (x : α) : Nat → α := fun k => if k = i then x else f k
theorem up_self {α : Type} (f : Nat → α) (i : Nat) (x : α) : up f i x i = x := if_pos rfl
theorem up_ne {α : Type} (f : Nat → α) {i k : Nat} (x : α) (h : k ≠ i) : up f i x k = f k := if_neg h
theorem up_same {α : Type} (f : Nat → α) (i : Nat) : up f i (f i) = f := by funext k; unfold up; split <;> simp_all
theorem up_up {α : Type} (f : Nat → α) (i : Nat) (x y : α) : up (up f i x) i y = up f i y := by funext k; unfold up; split <;> rfl
/-- the law's lists: what each took, and what was wanted (the fourth); the box of the first three; and blocks that stay -/
structure FR (B : Nat) (W : World) (a : Option Addr) (ps : List Pl) (g : Nat) (vs : Nat → Value) (ls : Nat → List ByteArray) (zs : List (Nat × Option Obj)) : Prop where
  glt : g < W.heap.size
  gB : B ≤ g
  gX : ∀ p ∈ ps, ¬ p.X g
  ga : ∀ off, a ≠ some ⟨g, off, none⟩
  gz : ∀ z ∈ zs, z.1 ≠ g
  alt : ∀ b off, a = some ⟨b, off, none⟩ → b < W.heap.size
  row : ∀ i, i < 4 → Row W Gk.tenc FStrT 1 (vs i) (ls i)
  free : ∀ i, i < 4 → ∀ b, (vs i).ownBlock = some b → B ≤ b ∧ b ≠ g ∧ (∀ p ∈ ps, ¬ p.X b) ∧ (∀ off, a ≠ some ⟨b, off, none⟩) ∧ ∀ z ∈ zs, z.1 ≠ b
  apart : ∀ i, i < 4 → ∀ j, j < 4 → i ≠ j → ∀ b, (vs i).ownBlock = some b → (vs j).ownBlock ≠ some b
  kept : ∀ z ∈ zs, z.1 < W.heap.size ∧ (∀ p ∈ ps, ¬ p.X z.1) ∧ W.heap[z.1]? = z.2
section
variable {B : Nat} {w0 W W1 W' : World} {a : Option Addr} {nbs : List Nat} {T T' : List Bn} {ps ps' : List Pl} {g : Nat} {vs : Nat → Value} {ls : Nat → List ByteArray} {zs : List (Nat × Option Obj)}
theorem FR.lt (h : FR B W a ps g vs ls zs) {i : Nat} (hi : i < 4) {b : Nat} (hb : (vs i).ownBlock = some b) : b < W.heap.size := (World.ownsRow.lt (h.row i hi) b hb).2
theorem FR.call (h : FR B W a ps g vs ls zs) (hs : Stays W W' ps ps') (halt : ∀ b off, a = some ⟨b, off, none⟩ → b < W'.heap.size) : FR B W' a ps' g vs ls zs := by
  refine ⟨(hs g h.glt h.gX).1, h.gB, (hs g h.glt h.gX).2.2, h.ga, h.gz, halt, fun i hi => (h.row i hi).stay fun b hb => (hs b (h.lt hi hb) (h.free i hi b hb).2.2.1).2.1, fun i hi b hb => ?_, h.apart, fun z hm => ?_⟩
  · obtain ⟨a1, a2, a3, a4, a5⟩ := h.free i hi b hb
    exact ⟨a1, a2, (hs b (h.lt hi hb) a3).2.2, a4, a5⟩
  · obtain ⟨a1, a2, a3⟩ := h.kept z hm
    obtain ⟨c1, c2, c3⟩ := hs z.1 a1 a2
    exact ⟨c1, c3, c2.trans a3⟩
theorem FR.push (h : FR B W a ps g vs ls zs) (hX : ∀ p ∈ ps, ∀ k, p.X k → k < W.heap.size) (hB : B ≤ W.heap.size) {i : Nat} (hi : i < 4) {v' : Value} {l' : List ByteArray} (hr : Row W1 Gk.tenc FStrT 1 v' l') (hg : W.grownBy W1 (vs i).ownBlock) (hat : ∀ b, v'.ownBlock = some b → (vs i).ownBlock = some b ∨ W.heap.size ≤ b) : FR B W1 a ps g (up vs i v') (up ls i l') zs := by
  have hnew : ∀ b, W.heap.size ≤ b → B ≤ b ∧ b ≠ g ∧ (∀ p ∈ ps, ¬ p.X b) ∧ (∀ off, a ≠ some ⟨b, off, none⟩) ∧ ∀ z ∈ zs, z.1 ≠ b := fun b hb =>
    ⟨Nat.le_trans hB hb, fun e => by have := h.glt; omega, fun p hp hk => by have := hX p hp b hk; omega, fun off e => by have := h.alt b off e; omega, fun z hz e => by have := (h.kept z hz).1; omega⟩
  refine ⟨Nat.lt_of_lt_of_le h.glt hg.size, h.gB, h.gX, h.ga, h.gz, fun b off e => Nat.lt_of_lt_of_le (h.alt b off e) hg.size, fun k hk => ?_, fun k hk b hb => ?_, fun k hk j hj hkj b hb => ?_, fun z hz => ?_⟩
  · by_cases e : k = i
    · subst e; rw [up_self, up_self]; exact hr
    · rw [up_ne _ _ e, up_ne _ _ e]
      exact (h.row k hk).stay fun b hb => hg.block b (h.lt hk hb) fun e2 => h.apart k hk i hi e b hb e2.symm
  · by_cases e : k = i
    · subst e
      rw [up_self] at hb
      rcases hat b hb with h1 | h1
      · exact h.free k hk b h1
      · exact hnew b h1
    · rw [up_ne _ _ e] at hb
      exact h.free k hk b hb
  · by_cases e : k = i
    · subst e
      rw [up_self] at hb
      rw [up_ne _ _ (Ne.symm hkj)]
      intro h2
      rcases hat b hb with h1 | h1
      · exact h.apart k hk j hj hkj b h1 h2
      · have := h.lt hj h2; omega
    · rw [up_ne _ _ e] at hb
      by_cases e2 : j = i
      · subst e2
        rw [up_self]
        intro h2
        rcases hat b h2 with h1 | h1
        · exact h.apart k hk j hj hkj b hb h1
        · have := h.lt hk hb; omega
      · rw [up_ne _ _ e2]
        exact h.apart k hk j hj hkj b hb
  · obtain ⟨a1, a2, a3⟩ := h.kept z hz
    exact ⟨Nat.lt_of_lt_of_le a1 hg.size, a2, (hg.block _ a1 fun e => (h.free i hi z.1 e.symm).2.2.2.2 z hz rfl).trans a3⟩
theorem FR.set (h : FR B W a ps g vs ls zs) (i : Nat) (v : Value) : FR B (W.setCell ⟨g, i, none⟩ v) a ps g vs ls zs := by
  have hg := grown_set W g i v
  refine ⟨Nat.lt_of_lt_of_le h.glt hg.size, h.gB, h.gX, h.ga, h.gz, fun b off e => Nat.lt_of_lt_of_le (h.alt b off e) hg.size, fun k hk => (h.row k hk).stay fun b hb => hg.block b (h.lt hk hb) fun e => (h.free k hk b hb).2.1 (by cases e; rfl), h.free, h.apart, fun z hz => ?_⟩
  obtain ⟨a1, a2, a3⟩ := h.kept z hz
  exact ⟨Nat.lt_of_lt_of_le a1 hg.size, a2, (hg.block _ a1 fun e => h.gz z hz (by cases e; rfl)).trans a3⟩
/-- .. with the nodes -/
structure FD (B : Nat) (w0 W : World) (a : Option Addr) (nbs : List Nat) (T : List Bn) (ps : List Pl) (g : Nat) (vs : Nat → Value) (ls : Nat → List ByteArray) (zs : List (Nat × Option Obj)) : Prop where
  ds : DS KN B w0 W a nbs T ps
  hn : nbs ≠ []
  box : W.heap[g]? = some (.cells #[vs 0, vs 1, vs 2] GotT (0, 0))
  fr : FR B W a ps g vs ls zs
theorem FD.X (h : FD B w0 W a nbs T ps g vs ls zs) : ∀ p ∈ ps, ∀ k, p.X k → k < W.heap.size := fun p hp _ hk => (h.ds.lay.nds.each p hp).lt hk
theorem FD.call (h : FD B w0 W a nbs T ps g vs ls zs) (hd : DS KN B w0 W' a nbs T' ps') (hs : Stays W W' ps ps') : FD B w0 W' a nbs T' ps' g vs ls zs :=
  ⟨hd, h.hn, (hs g h.fr.glt h.fr.gX).2.1.trans h.box, h.fr.call hs fun b off e => by
    rcases hd.row with h0 | ⟨b', off', e', hb', _⟩
    · exact absurd h0 h.hn
    · rw [e] at e'; cases e'; exact hb'⟩
theorem FD.below (h : FD B w0 W a nbs T ps g vs ls zs) (hb : Below W.heap.size W W') : FD B w0 W' a nbs T ps g vs ls zs := h.call (h.ds.below hb) (Stays.below hb)
theorem FD.drew (h : FD B w0 W a nbs T ps g vs ls zs) : FD B w0 W.drew a nbs T ps g vs ls zs := h.below (Below.refl _ _).drew
theorem FD.push3 (h : FD B w0 W a nbs T ps g vs ls zs) {v' : Value} {l' : List ByteArray} (hr : Row W1 Gk.tenc FStrT 1 v' l') (hg : W.grownBy W1 (vs 3).ownBlock) (hat : ∀ b, v'.ownBlock = some b → (vs 3).ownBlock = some b ∨ W.heap.size ≤ b) : FD B w0 W1 a nbs T ps g (up vs 3 v') (up ls 3 l') zs := by
  refine ⟨h.ds.grown hg fun b e => ?_, h.hn, ?_, h.fr.push h.X h.ds.lay.hB (by omega) hr hg hat⟩
  · obtain ⟨a1, a2, a3, a4, a5⟩ := h.fr.free 3 (by omega) b e
    exact ⟨a1, a3, a4⟩
  · rw [hg.block g h.fr.glt fun e => (h.fr.free 3 (by omega) g e.symm).2.1 rfl]
    exact h.box
theorem FD.pushB (h : FD B w0 W a nbs T ps g vs ls zs) {i : Nat} (hi : i < 3) {v' : Value} {l' : List ByteArray} (hr : Row W1 Gk.tenc FStrT 1 v' l') (hg : W.grownBy W1 (vs i).ownBlock) (hat : ∀ b, v'.ownBlock = some b → (vs i).ownBlock = some b ∨ W.heap.size ≤ b) : FD B w0 (W1.setCell ⟨g, i, none⟩ v') a nbs T ps g (up vs i v') (up ls i l') zs := by
  have d1 := h.ds.grown hg fun b e => (h.fr.free i (by omega) b e).elim fun a1 a2 => ⟨a1, a2.2.1, a2.2.2.1⟩
  refine ⟨d1.grown (grown_set W1 g i v') fun b e => ?_, h.hn, ?_, (h.fr.push h.X h.ds.lay.hB (by omega) hr hg hat).set i v'⟩
  · cases e
    exact ⟨h.fr.gB, h.fr.gX, h.fr.ga⟩
  · have hb : W1.heap[g]? = some (.cells #[vs 0, vs 1, vs 2] GotT (0, 0)) := (hg.block g h.fr.glt fun e => (h.fr.free i (by omega) g e.symm).2.1 rfl).trans h.box
    rw [block_setCell hb]
    have : i = 0 ∨ i = 1 ∨ i = 2 := by omega
    rcases this with rfl | rfl | rfl <;> rfl
theorem FD.app43 (h : FD B w0 W a nbs T ps g vs ls zs) {i : Nat} (hi : i < 3) {v0 v' : Value} {l' : List ByteArray} (eg : vs i = v0) {W2 w3 : World} (hb : Below W.heap.size W W2) (hg : W2.grownBy w3 v0.ownBlock) (hr : Row w3 Gk.tenc FStrT 1 v' l') (hat : ∀ b, v'.ownBlock = some b → v0.ownBlock = some b ∨ W2.heap.size ≤ b) : FD B w0 (w3.setCell ⟨g, i, none⟩ v') a nbs T ps g (up vs i v') (up ls i l') zs := by
  subst eg
  exact (h.below hb).pushB hi hr hg hat
/-- a block more that stays -/
theorem FD.keep (h : FD B w0 W a nbs T ps g vs ls zs) (b : Nat) (hb : b < W.heap.size) (hX : ∀ p ∈ ps, ¬ p.X b) (hg : b ≠ g) (ho : ∀ i, i < 4 → (vs i).ownBlock ≠ some b) : FD B w0 W a nbs T ps g vs ls ((b, W.heap[b]?) :: zs) := by
  refine ⟨h.ds, h.hn, h.box, h.fr.glt, h.fr.gB, h.fr.gX, h.fr.ga, ?_, h.fr.alt, h.fr.row, ?_, h.fr.apart, ?_⟩
  · intro z hz
    rcases List.mem_cons.1 hz with rfl | hz
    · exact hg
    · exact h.fr.gz z hz
  · intro i hi c hc
    obtain ⟨a1, a2, a3, a4, a5⟩ := h.fr.free i hi c hc
    refine ⟨a1, a2, a3, a4, fun z hz => ?_⟩
    rcases List.mem_cons.1 hz with rfl | hz
    · intro e
      exact ho i hi (by rw [hc]; exact congrArg some e.symm)
    · exact a5 z hz
  · intro z hz
    rcases List.mem_cons.1 hz with rfl | hz
    · exact ⟨hb, hX, rfl⟩
    · exact h.fr.kept z hz
theorem FD.less {z : Nat × Option Obj} (h : FD B w0 W a nbs T ps g vs ls (z :: zs)) : FD B w0 W a nbs T ps g vs ls zs :=
  ⟨h.ds, h.hn, h.box, h.fr.glt, h.fr.gB, h.fr.gX, h.fr.ga, fun z hz => h.fr.gz z (List.mem_cons_of_mem _ hz), h.fr.alt, h.fr.row, fun i hi b hb => ⟨(h.fr.free i hi b hb).1, (h.fr.free i hi b hb).2.1, (h.fr.free i hi b hb).2.2.1, (h.fr.free i hi b hb).2.2.2.1, fun z hz => (h.fr.free i hi b hb).2.2.2.2 z (List.mem_cons_of_mem _ hz)⟩, h.fr.apart, fun z hz => h.fr.kept z (List.mem_cons_of_mem _ hz)⟩
theorem FD.sub {zs' : List (Nat × Option Obj)} (h : FD B w0 W a nbs T ps g vs ls zs') (hs : ∀ z ∈ zs, z ∈ zs') : FD B w0 W a nbs T ps g vs ls zs :=
  ⟨h.ds, h.hn, h.box, h.fr.glt, h.fr.gB, h.fr.gX, h.fr.ga, fun z hz => h.fr.gz z (hs z hz), h.fr.alt, h.fr.row, fun i hi b hb => ⟨(h.fr.free i hi b hb).1, (h.fr.free i hi b hb).2.1, (h.fr.free i hi b hb).2.2.1, (h.fr.free i hi b hb).2.2.2.1, fun z hz => (h.fr.free i hi b hb).2.2.2.2 z (hs z hz)⟩, h.fr.apart, fun z hz => h.fr.kept z (hs z hz)⟩
/-- entries that stay -/
theorem FD.ents (h : FD B w0 W a nbs T ps g vs ls zs) {v : Value} {l : List En} (hE : ER W v l) (hg : ∀ b, blk v = some b → b ≠ g ∧ (∀ p ∈ ps, ¬ p.X b) ∧ ∀ i, i < 4 → (vs i).ownBlock ≠ some b) : ∃ zs', (∀ z ∈ zs, z ∈ zs') ∧ FD B w0 W a nbs T ps g vs ls zs' ∧ ∀ W', (∀ z ∈ zs', W'.heap[z.1]? = z.2) → ER W' v l := by
  cases hb : blk v with
  | none => exact ⟨zs, fun _ hz => hz, h, fun W' _ => hE.stay fun g hg => by rw [hb] at hg; cases hg⟩
  | some b =>
    obtain ⟨h1, h2, h3⟩ := hg b hb
    refine ⟨(b, W.heap[b]?) :: zs, fun _ hz => List.mem_cons_of_mem _ hz, h.keep b (hE.lt hb) h2 h1 h3, fun W' hW => hE.stay fun g hg => ?_⟩
    rw [hb] at hg
    cases hg
    exact hW _ (List.mem_cons_self ..)
end
end Go.Proofs.YtmpahgklcabihaaGreat.Rf

namespace Go.Proofs.YtmpahgklcabihaaGreat.Rf
open Go.RowKit Go.Joins Go.Proofs.YtmpahgklcabihaaGreat.Gk
open Go.Proofs.YtmpahgklcabihaaGreat.Dk (St Bs)
open Go.Proofs.YtmpahgklcabihaaGreat.Rl (En Lo LH ER ptr blk own Tn eenc eenc_len agr nmb mcode May1)
open Go.Proofs.YtmpahgklcabihaaGreat.Ba (Bl BB Tu Es trn cst mgd DH DI Mk Rc frs cnf cnl)

/-- where the machines are ahead of a round -/
def RN (f m rd : Nat) (T : List Bn) : Prop := (rd = 0 → T = tr0) ∧ (rd = 1 → rnF f 0 m tr0 = some T)
def whoF (f s rd : Nat) : Nat := if rd = 0 then f else s
theorem rn_next {f s m rd : Nat} {T : List Bn} (hf : f < 3) (hs : s < 3) (hm : m ≤ 10) (h : RN f m rd T) (hrd : rd < 2) : ∃ T', rnF (whoF f s rd) rd m T = some T' ∧ RN f m (rd + 1) T' := by
  have hc : chkR f m = true := by
    have : f = 0 ∨ f = 1 ∨ f = 2 := by omega
    rcases this with rfl | rfl | rfl
    · exact chk0 m (by omega)
    · exact chk1 m (by omega)
    · exact chk2 m (by omega)
  unfold chkR at hc
  cases hr : rnF f 0 m tr0 with
  | none => rw [hr] at hc; cases hc
  | some T1 =>
    rw [hr] at hc
    simp only [Bool.and_eq_true] at hc
    obtain ⟨⟨c0, c1⟩, c2⟩ := hc
    have : rd = 0 ∨ rd = 1 := by omega
    rcases this with rfl | rfl
    · refine ⟨T1, ?_, And.intro (fun e => absurd e (by decide)) fun _ => hr⟩
      rw [h.1 rfl]; exact hr
    · have e : T = T1 := by have := h.2 rfl; rw [hr] at this; exact (Option.some.inj this).symm
      subst e
      have hx : (rnF s 1 m T).isSome = true := by
        have : s = 0 ∨ s = 1 ∨ s = 2 := by omega
        rcases this with rfl | rfl | rfl
        · exact c0
        · exact c1
        · exact c2
      obtain ⟨T2, h2⟩ := Option.isSome_iff_exists.1 hx
      exact ⟨T2, h2, And.intro (fun e => absurd e (by decide)) fun e => absurd e (by decide)⟩
theorem rnF_parts {who rd m : Nat} {T T' : List Bn} (h : rnF who rd m T = some T') : ∃ T1 T2 T3 T4, tkF who 12 T = some T1 ∧ deliverF 40 0 T1 = some T2 ∧ (at_ T2 who).P.role = 2 ∧ (at_ T2 who).P.ldr = (who : Int) ∧ ppF who rd m 0 T2 = some T3 ∧ tkC T3 who ∧ deliverF 40 0 (tk1 T3 who) = some T4 ∧ exF who rd m [0, 1, 2] T4 = some T' := by
  unfold rnF at h
  cases h1 : tkF who 12 T with
  | none => rw [h1] at h; cases h
  | some T1 =>
  rw [h1] at h
  dsimp only at h
  cases h2 : deliverF 40 0 T1 with
  | none => rw [h2] at h; cases h
  | some T2 =>
  rw [h2] at h
  dsimp only at h
  unfold rnA at h
  split at h
  case isFalse => cases h
  rename_i h3
  cases h4 : ppF who rd m 0 T2 with
  | none => rw [h4] at h; cases h
  | some T3 =>
  rw [h4] at h
  dsimp only at h
  split at h
  case isFalse => cases h
  rename_i h5
  cases h6 : deliverF 40 0 (tk1 T3 who) with
  | none => rw [h6] at h; cases h
  | some T4 =>
  rw [h6] at h
  exact ⟨T1, T2, T3, T4, rfl, h2, h3.1, h3.2, h4, h5, h6, h⟩
def sds (rd m : Nat) : List ByteArray := (List.range m).map (sd rd)
theorem sds_next (rd m : Nat) : sds rd (m + 1) = sds rd m ++ [sd rd m] := by unfold sds; rw [List.range_succ, List.map_append]; rfl
theorem sds_len (rd m : Nat) : (sds rd m).length = m := by unfold sds; rw [List.length_map, List.length_range]
theorem ba_list {a b : ByteArray} (h : a.data.toList = b.data.toList) : a = b := by
  cases a; cases b
  exact congrArg ByteArray.mk (Array.toList_inj.1 h)
theorem ne_sds {who rd m : Nat} {T : List Bn} {i : Nat} (h : exC who rd m T i) : ne (exl T i) = sds rd m := by
  have h1 := h.2.1
  have hl : (ne (exl T i)).length = (sds rd m).length := by have := congrArg List.length h1; rw [List.length_map, List.length_map, List.length_range] at this; rw [sds_len]; exact this
  refine List.ext_getElem hl fun k hk hk2 => ba_list ?_
  have h2 : ((ne (exl T i)).map (·.data.toList))[k]? = ((List.range m).map (fun j => (sd rd j).data.toList))[k]? := by rw [h1]
  rw [List.getElem?_map, List.getElem?_map, List.getElem?_eq_getElem hk] at h2
  have hkm : k < m := by rw [sds_len] at hk2; exact hk2
  rw [List.getElem?_eq_getElem (by rw [List.length_range]; exact hkm), List.getElem_range] at h2
  have h3 := Option.some.inj h2
  have h4 : (sds rd m)[k]? = some (sd rd k) := by unfold sds; rw [List.getElem?_map, List.getElem?_range hkm]; rfl
  rw [List.getElem?_eq_getElem hk2] at h4
  rw [Option.some.inj h4]
  exact h3
theorem ne_yes (l : List En) (e : En) (h : ¬ e.d.size = 0) : ne (l ++ [e]) = ne l ++ [e.d] := by
  unfold ne
  rw [List.map_append, List.filter_append, List.map_cons, List.map_nil, List.filter_cons_of_pos (by simpa using fun e2 => h (by rw [e2]; rfl)), List.filter_nil]
theorem ne_no (l : List En) (e : En) (h : e.d.size = 0) : ne (l ++ [e]) = ne l := by
  unfold ne
  rw [List.map_append, List.filter_append, List.map_cons, List.map_nil, List.filter_cons_of_neg (by rw [decide_eq_true_eq]; exact fun x => x h), List.filter_nil, List.append_nil]
/-- all that was wanted, ahead of a round -/
def wants (m : Nat) : Nat → List ByteArray
  | 0 => []
  | 1 => sds 0 m
  | _ => sds 0 m ++ sds 1 m
theorem wants_next (m : Nat) {rd : Nat} (h : rd < 2) : wants m (rd + 1) = wants m rd ++ sds rd m := by
  have : rd = 0 ∨ rd = 1 := by omega
  rcases this with rfl | rfl
  · rfl
  · rfl
theorem wants_len (m rd : Nat) (h : rd ≤ 2) : (wants m rd).length ≤ 2 * m := by
  have : rd = 0 ∨ rd = 1 ∨ rd = 2 := by omega
  rcases this with rfl | rfl | rfl
  · simp [wants]
  · simp [wants, sds_len]; omega
  · simp [wants, sds_len]; omega
end Go.Proofs.YtmpahgklcabihaaGreat.Rf

namespace Go.Proofs.YtmpahgklcabihaaGreat.Rf
open Go.RowKit Go.Joins Go.Proofs.YtmpahgklcabihaaGreat.Gk
open Go.Proofs.YtmpahgklcabihaaGreat.Dk (St Bs)
open Go.Proofs.YtmpahgklcabihaaGreat.Rl (En Lo LH ER ptr blk own Tn eenc eenc_len agr nmb mcode May1)
open Go.Proofs.YtmpahgklcabihaaGreat.Ba (Bl BB Tu Es trn cst mgd DH DI Mk Rc frs cnf cnl)

theorem two_bytes (a b : Nat) (ha : a < 256) (hb : b < 256) (W : World) :
    (convert 64 9 (.slice (some ⟨W.heap.size, 0, none⟩) 2 2)).run Tryz.prog (W.alloc (.cells #[.int .u8 (a : Int), .int .u8 (b : Int)] 5)) = .ok (.string (sd a b)) (W.alloc (.cells #[.int .u8 (a : Int), .int .u8 (b : Int)] 5)) := by
  have := run_convert_bytes_back (P := Tryz.prog) (W.alloc (.cells #[.int .u8 (a : Int), .int .u8 (b : Int)] 5)) 64 9 5 ⟨W.heap.size, 0, none⟩ 2 [UInt8.ofNat a, UInt8.ofNat b] Tryz.underlying64 Tryz.underlying5 Tryz.underlying9 (fun j hj => by
    have ea : ((UInt8.ofNat a).toNat : Int) = a := by rw [UInt8.toNat_ofNat', Nat.mod_eq_of_lt ha]
    have eb : ((UInt8.ofNat b).toNat : Int) = b := by rw [UInt8.toNat_ofNat', Nat.mod_eq_of_lt hb]
    have hj2 : j = 0 ∨ j = 1 := by simp at hj; omega
    rcases hj2 with rfl | rfl
    · simp only [List.getElem_cons_zero, ea]
      exact cell_of_block (heap_alloc_new W _) 0
    · simp only [List.getElem_cons_succ, List.getElem_cons_zero, eb]
      exact cell_of_block (heap_alloc_new W _) 1)
  exact this
theorem lies_new {W : World} {b : Nat} (d : ByteArray) (h : W.heap[b]? = some (.cells #[.string d] FStrT)) : Gk.Lies W Gk.tenc (some ⟨b, 0, none⟩) [d] := by
  refine Or.inr ⟨b, 0, rfl, (Array.getElem?_eq_some_iff.1 h).1, fun j u hj => ?_⟩
  rw [cell_of_block h, Nat.zero_add]
  simpa [rc, Gk.tenc] using hj
theorem tn1_ldr {T : List Bn} {i : Nat} {most : Int} (h : i < T.length) : (at_ (tn1 T i most) i).P.ldr = (at_ T i).P.ldr := by
  unfold at_ tn1
  rw [List.getD_eq_getElem?_getD, List.getElem?_set_self h]; rfl
/-- nothing was taken, nothing wanted -/
theorem FD.new {B : Nat} {w0 W : World} {b off : Nat} {nbs : List Nat} {T : List Bn} {ps : List Pl} (h : DS KN B w0 W (some ⟨b, off, none⟩) nbs T ps) (hn : nbs ≠ []) : FD B w0 (W.alloc (.cells #[.slice none 0 0, .slice none 0 0, .slice none 0 0] GotT)) (some ⟨b, off, none⟩) nbs T ps W.heap.size (fun _ => .slice none 0 0) (fun _ => []) [] := by
  have hb : b < W.heap.size := by
    rcases h.row with h0 | ⟨b', off', e', hb', _⟩
    · exact absurd h0 hn
    · cases e'; exact hb'
  have hbl := below_alloc1 W (.cells #[.slice none 0 0, .slice none 0 0, .slice none 0 0] GotT)
  refine ⟨h.below hbl, hn, heap_alloc_new W _, by simp, h.lay.hB, fun p hp hk => Nat.lt_irrefl _ ((h.lay.nds.each p hp).lt hk), fun o e => by cases e; omega, fun z hz => (by cases hz), fun c o e => by cases e; simp; omega, fun i _ => Row.nil _ _, fun i _ c hc => by simp [Value.ownBlock] at hc, fun i _ j _ _ c hc => by simp [Value.ownBlock] at hc, fun z hz => by cases hz⟩
theorem DS.len3 {K : KS} {B : Nat} {w0 w : World} {a : Option Addr} {nbs : List Nat} {T : List Bn} {ps : List Pl} (h : DS K B w0 w a nbs T ps) (hn : nbs.length = 3) : T.length = 3 := by
  rw [← h.lay.len, ← hn, ← h.nb, List.length_map]
theorem FD.lit {B : Nat} {w0 W : World} {a : Option Addr} {nbs : List Nat} {T : List Bn} {ps : List Pl} {g : Nat} {vs : Nat → Value} {ls : Nat → List ByteArray} {zs : List (Nat × Option Obj)} (h : FD B w0 W a nbs T ps g vs ls zs) (c : Obj) : FD B w0 (W.alloc c) a nbs T ps g vs ls ((W.heap.size, some c) :: zs) := by
  have hb := h.below (below_alloc1 W c)
  have hk := hb.keep W.heap.size (by simp) (fun p hp hk => Nat.lt_irrefl _ (h.X p hp _ hk)) (fun e => by have := h.fr.glt; omega) fun i hi e => Nat.lt_irrefl _ (h.fr.lt hi e)
  rwa [heap_alloc_new W c] at hk
set_option maxRecDepth 100000 in
set_option maxHeartbeats 8000000 in
theorem flows_law (x y : Int) (a : Option Addr) (n cap : Nat) (w : World) (hx1 : -9223372036854775808 ≤ x) (hx2 : x ≤ 9223372036854775807) (hy1 : -9223372036854775808 ≤ y) (hy2 : y ≤ 9223372036854775807) (hn : n ≤ 9223372036854775807) :
    Calls Tryz.prog 5 #[.int .i64 x, .slice a n cap, .int .i64 y] w fun e w' => e = .returned (.bool true) ∧ Below w.heap.size w w' := by
  obtain ⟨f, hf, hf3⟩ : ∃ f : Nat, x % 3 = (f : Int) ∧ f < 3 := ⟨(x % 3).toNat, by omega, by omega⟩
  obtain ⟨s, hs, hs3⟩ : ∃ s : Nat, y % 3 = (s : Int) ∧ s < 3 := ⟨(y % 3).toNat, by omega, by omega⟩
  obtain ⟨m, hm⟩ : ∃ m : Nat, m = min n 10 := ⟨_, rfl⟩
  go_enter Tryz.func5, Tryz.ntmps5
  go_wp2_with fail
  refine (works_any w).mono ?_
  rintro e x1 ⟨rfl, hb1⟩
  have HB1 := hide hb1
  clear hb1
  go_wp2_with fail
  refine (trio_ds x1).mono ?_
  rintro e x2 ⟨rb, off, rcap, nbs, ps, rfl, hn3, hD⟩
  have hF := FD.new hD (by intro e; rw [e] at hn3; cases hn3)
  have HN3 := hide hn3
  generalize hg : x2.heap.size = g at hF
  have HB2 := hide hD.bel
  clear hD hn3
  go_wp2_with fail
  generalize x2.alloc (.cells #[.slice none 0 0, .slice none 0 0, .slice none 0 0] GotT) = x3 at *
  refine (among_any x 3 x3 (by decide) (by decide) hx1 hx2).mono ?_
  rintro e x4 ⟨rfl, rfl⟩
  go_wp2_with fail
  refine (among_any y 3 x3 (by decide) (by decide) hy1 hy2).mono ?_
  rintro e x5 ⟨rfl, rfl⟩
  rw [hs]
  have HF := hide (hF.lit (.cells #[.int .i64 (f : Int), .int .i64 (s : Int)] 3 (0, 0)))
  clear hF
  obtain ⟨lb, hlb⟩ : ∃ lb, x3.heap.size = lb := ⟨_, rfl⟩
  rw [hlb] at HF
  have hm10 : m ≤ 10 := by omega
  have HMN := hide hm
  clear hm
  go_wp2
  go_loopw [9, 50] (fun wv iv W => ∃ (rd : Nat) (T : List Bn) (ps : List Pl) (vs : Nat → Value) (ls : Nat → List ByteArray), rd ≤ 2 ∧ wv = vs 3 ∧ iv = .int .i64 rd ∧ FD x1.heap.size x1 W (some ⟨rb, off, none⟩) nbs T ps g vs ls [(lb, some (.cells #[.int .i64 (f : Int), .int .i64 (s : Int)] 3 (0, 0)))] ∧ (∀ i, i < 4 → ls i = wants m rd) ∧ RN f m rd T) (fun _ iv _ => 2 - (intOf iv).toNat)
  case atStart => exact ⟨0, tr0, ps, fun _ => .slice none 0 0, fun _ => [], by omega, rfl, rfl, HF.out, fun _ _ => rfl, And.intro (fun _ => rfl) fun e => absurd e (by decide)⟩
  case round =>
    clear HF
    obtain ⟨rd, T, ps, vs, ls, hrd, rfl, rfl, hF, hls, hRN⟩ := hrel
    by_cases hlt : rd < 2
    · obtain ⟨T', hT', hRN'⟩ := rn_next hf3 hs3 hm10 hRN hlt
      obtain ⟨T1, T2, T3, T4, p1, p2, p3, p4, p5, p6, p7, p8⟩ := rnF_parts hT'
      have hwho : whoF f s rd < 3 := by unfold whoF; split <;> assumption
      have clit : wr.cell? ⟨lb, rd, none⟩ = some (.int .i64 ((whoF f s rd : Nat) : Int)) := by
        rw [cell_of_block (hF.fr.kept _ (List.mem_cons_self ..)).2.2]
        have : rd = 0 ∨ rd = 1 := by omega
        rcases this with rfl | rfl <;> rfl
      generalize whoF f s rd = who at *
      have HRN := hide hRN'
      have HPT := hide (And.intro p2 (And.intro p3 (And.intro p4 (And.intro p5 (And.intro p6 (And.intro p7 p8))))))
      have HP1 := hide p1
      have HF := hide hF
      have HLS := hide hls
      clear hT' hRN hRN' p1 p2 p3 p4 p5 p6 p7 p8 hF hls
      have r1 : (0 : Int) ≤ (rd : Int) := by omega
      have r2 : (rd : Int) < 2 := by omega
      obtain ⟨nb, hnb⟩ : ∃ nb, nbs[who]? = some nb := ⟨nbs[who]'(by have := HN3.out; omega), List.getElem?_eq_getElem _⟩
      have HNB := hide hnb
      clear hnb
      have w1 : (0 : Int) ≤ (who : Int) := by omega
      have w2 : (who : Int) < 3 := by omega
      go_upto_block 2 with fail
      go_cut [50] from 50 to 211 (fun iv wc => iv = .int .i64 rd ∧ ∃ ps', FD x1.heap.size x1 wc (some ⟨rb, off, none⟩) nbs T1 ps' g vs ls [(lb, some (.cells #[.int .i64 (f : Int), .int .i64 (s : Int)] 3 (0, 0)))])
      case first =>
        clear clit
        go_wp2
        go_loopw [55] (fun iv W => ∃ (k : Nat) (T : List Bn) (ps : List Pl), k ≤ 12 ∧ iv = .int .i64 k ∧ FD x1.heap.size x1 W (some ⟨rb, off, none⟩) nbs T ps g vs ls [(lb, some (.cells #[.int .i64 (f : Int), .int .i64 (s : Int)] 3 (0, 0)))] ∧ tkF who (12 - k) T = some T1) (fun iv _ => 12 - (intOf iv).toNat)
        case atStart => exact ⟨0, T, ps, by omega, rfl, HF.out, HP1.out⟩
        case round =>
          clear HF HP1
          obtain ⟨k, Tk, psk, hk, rfl, hF, htk⟩ := hrel
          by_cases hk2 : k < 12
          · have k2 : (k : Int) < 12 := by omega
            have e1 : 12 - k = (12 - (k + 1)) + 1 := by omega
            rw [e1] at htk
            unfold tkF at htk
            have c0 := (hF.ds.sw HNB.out).1
            have HF := hide hF
            clear hF
            go_wp2_with fail
            refine (state_fl HF.out.ds HNB.out).mono ?_
            rintro e x5 ⟨rfl, hD5, hS5⟩
            have hF5 := HF.out.call hD5 hS5
            clear HF hD5 hS5 c0
            have c0 := (hF5.ds.sw HNB.out).1
            have HF := hide hF5
            clear hF5
            by_cases hr : (at_ Tk who).P.role = 2
            · rw [if_pos hr] at htk
              cases htk
              rw [hr]
              go_wp2_with fail
              go_meet
              exact ⟨rfl, psk, HF.out⟩
            · rw [if_neg hr] at htk
              by_cases hC : tkC Tk who
              case neg => rw [if_neg hC] at htk; cases htk
              rw [if_pos hC] at htk
              have HTK := hide htk
              have HCC := hide hC
              clear htk hC
              obtain ⟨role, hrole⟩ : ∃ role, (at_ Tk who).P.role = role := ⟨_, rfl⟩
              rw [hrole] at hr ⊢
              go_wp2_with fail
              refine (tick_fl HF.out.ds HCC.out HNB.out).mono ?_
              rintro e x6 ⟨rfl, ps6, hD6, hS6⟩
              have hF6 := HF.out.call hD6 hS6
              clear HF hD6 hS6 c0
              have HF := hide hF6
              clear hF6
              go_wp2
              go_roundw
              case rel => exact ⟨k + 1, _, ps6, by omega, by go_num, HF.out, HTK.out⟩
              case measure => simp [intOf]; omega
          · obtain rfl : k = 12 := by omega
            cases htk
            have HF := hide hF
            clear hF
            go_wp2_with fail
            go_meet
            exact ⟨rfl, psk, HF.out⟩
      case rest =>
        clear HF HP1 clit
        obtain ⟨rfl, ps1, hF⟩ := hcut
        have HF := hide hF
        clear hF
        go_wp2_with fail
        refine (deliver_fl HF.out.ds (HF.out.ds.len3 HN3.out) HN3.out HPT.out.1).mono ?_
        rintro e x5 ⟨rfl, ps5, hD5, hS5⟩
        have hF5 := HF.out.call hD5 hS5
        clear HF hD5 hS5
        have c0 := (hF5.ds.sw HNB.out).1
        have HF := hide hF5
        clear hF5
        go_wp2_with fail
        refine (state_fl HF.out.ds HNB.out).mono ?_
        rw [HPT.out.2.1, HPT.out.2.2.1]
        rintro e x6 ⟨rfl, hD6, hS6⟩
        have hF6 := HF.out.call hD6 hS6
        clear HF hD6 hS6 c0
        have HF := hide hF6
        clear hF6
        go_upto_block 4 with fail
        go_cut [9, 50] from 50 to 211 (fun wv iv wc => iv = .int .i64 rd ∧ ∃ (ps' : List Pl) (V : Nat → Value), wv = V 3 ∧ FD x1.heap.size x1 wc (some ⟨rb, off, none⟩) nbs T3 ps' g V (up ls 3 (ls 3 ++ sds rd m)) [(lb, some (.cells #[.int .i64 (f : Int), .int .i64 (s : Int)] 3 (0, 0)))])
        case first =>
          go_wp2
          go_loopw [9, 21] (fun wv iv W => ∃ (j : Nat) (T : List Bn) (ps : List Pl), j ≤ m ∧ iv = .int .i64 j ∧ FD x1.heap.size x1 W (some ⟨rb, off, none⟩) nbs T ps g (up vs 3 wv) (up ls 3 (ls 3 ++ sds rd j)) [(lb, some (.cells #[.int .i64 (f : Int), .int .i64 (s : Int)] 3 (0, 0)))] ∧ ppF who rd (m - j) j T = some T3) (fun _ iv _ => m - (intOf iv).toNat)
          case atStart =>
            refine ⟨0, T2, ps5, by omega, rfl, ?_, HPT.out.2.2.2.1⟩
            rw [up_same, show ls 3 ++ sds rd 0 = ls 3 from List.append_nil _, up_same]
            exact HF.out
          case round =>
            clear HF
            obtain ⟨j, Tj, psj, hj, rfl, hF, hpp⟩ := hrel
            by_cases hjm : j < m
            · have e1 : m - j = (m - (j + 1)) + 1 := by omega
              rw [e1] at hpp
              unfold ppF at hpp
              by_cases hC : prC Tj who (sd rd j)
              case neg => rw [if_neg hC] at hpp; cases hpp
              rw [if_pos hC] at hpp
              cases hdl : deliverF 40 0 (pr1 Tj who (sd rd j)) with
              | none => rw [hdl] at hpp; cases hpp
              | some Tn =>
              rw [hdl] at hpp
              have HPP := hide hpp
              have HDL := hide hdl
              have HCC := hide hC
              have HF := hide hF
              clear hpp hdl hC hF
              have j0 : (0 : Int) ≤ (j : Int) := by omega
              have j1 : (j : Int) < (n : Int) := by have h1 := HMN.out; omega
              have j2 : (j : Int) < 10 := by omega
              have hcv := two_bytes rd j (by omega) (by omega) wr
              have HF1 := hide (HF.out.below (below_alloc1 wr (.cells #[.int .u8 (rd : Int), .int .u8 (j : Int)] 5)))
              have c0 := (HF1.out.ds.sw HNB.out).1
              clear HF
              go_upto_region 27 with fail
              generalize wr.alloc (.cells #[.int .u8 (rd : Int), .int .u8 (j : Int)] 5) = W1 at *
              clear hcv
              go_wp2_with fail
              refine (prop_fl (sd rd j) HF1.out.ds HCC.out HNB.out).mono ?_
              rintro e x7 ⟨rfl, ps7, hD7, hS7⟩
              have hF7 := HF1.out.call hD7 hS7
              clear HF1 hD7 hS7 c0
              have HF := hide hF7
              clear hF7
              generalize (((at_ Tj who).P.s.es.length + 1 : Nat) : Int) = nbr at *
              go_wp2_with fail
              refine (deliver_fl HF.out.ds (HF.out.ds.len3 HN3.out) HN3.out HDL.out).mono ?_
              rintro e x8 ⟨rfl, ps8, hD8, hS8⟩
              have hF8 := HF.out.call hD8 hS8
              clear HF hD8 hS8
              have hl3 : (ls 3 ++ sds rd j).length ≤ 30 := by rw [List.length_append, HLS.out 3 (by omega), sds_len]; have := wants_len m rd hrd; omega
              have HL1 := hide (show (ls 3 ++ sds rd j) ++ [sd rd j] = ls 3 ++ sds rd (j + 1) by rw [List.append_assoc, ← sds_next])
              generalize ls 3 ++ sds rd j = L at *
              have hr3 := hF8.fr.row 3 (by omega)
              rw [up_self, up_self] at hr3
              have HF := hide (hF8.below (below_alloc1 x8 (.cells #[.string (sd rd j)] FStrT)))
              have HR := hide (hr3.below (below_alloc1 x8 (.cells #[.string (sd rd j)] FStrT)))
              clear hF8 hr3
              go_wp2_with (at_builtin; refine Gk.wpList_push (enc := Gk.tenc) (k := 1) rfl (.tmp 128) (.tmp 130) FStrsT rfl FStrT (.string ⟨#[]⟩) 16 Tryz.underlying45 fstr_info rfl (by decide) Gk.tenc_len tenc_one 0 _ L rfl HR.out x8.heap.size (sd rd j) rfl (heap_alloc_new x8 _) (by omega) (by omega) (Nat.zero_le _) ?_)
              intro v' w3 hv3 hg3 hat3
              have hV : Row w3 Gk.tenc FStrT 1 v' (L ++ [sd rd j]) := by unfold Row; rw [List.length_append]; exact hv3
              rw [HL1.out] at hV
              have hF9 := HF.out.push3 hV (by rw [up_self]; exact hg3) (by rw [up_self]; simpa using hat3)
              rw [up_up, up_up] at hF9
              have HF9 := hide hF9
              clear HF HR hv3 hV hg3 hat3 hF9
              go_wp2
              go_roundw
              case rel => exact ⟨j + 1, Tn, ps8, by omega, by go_num, HF9.out, HPP.out⟩
              case measure => simp [intOf]; omega
            · obtain rfl : j = m := by omega
              rw [Nat.sub_self] at hpp
              cases hpp
              have HF := hide hF
              clear hF
              by_cases hjn : j < n
              · have j1 : (j : Int) < (n : Int) := by omega
                have j2 : ¬ (j : Int) < 10 := by have := HMN.out; omega
                go_wp2_with fail
                go_meet
                exact ⟨rfl, psj, _, (up_self ..).symm, HF.out⟩
              · have j1 : ¬ (j : Int) < (n : Int) := by omega
                go_wp2_with fail
                go_meet
                exact ⟨rfl, psj, _, (up_self ..).symm, HF.out⟩
        case rest =>
          clear HF
          obtain ⟨rfl, ps6, V, hV, hF⟩ := hcut
          have hls3 : ls 3 ++ sds rd m = wants m (rd + 1) := by rw [HLS.out 3 (by omega), wants_next m hlt]
          rw [hls3] at hF
          clear hls3
          obtain ⟨aw, cw, ew⟩ := (hF.fr.row 3 (by omega)).slice
          rw [up_self] at ew
          have HNW := hide (wants_len m (rd + 1) (by omega))
          rw [ew] at hV
          subst hV
          have HEW := hide ew
          clear ew
          have c0 := (hF.ds.sw HNB.out).1
          have HF := hide hF
          clear hF
          go_wp2_with fail
          refine (tick_fl HF.out.ds HPT.out.2.2.2.2.1 HNB.out).mono ?_
          rintro e x7 ⟨rfl, ps7, hD7, hS7⟩
          have hF7 := HF.out.call hD7 hS7
          clear HF hD7 hS7 c0
          have HF := hide hF7
          clear hF7
          go_wp2_with fail
          refine (deliver_fl HF.out.ds (HF.out.ds.len3 HN3.out) HN3.out HPT.out.2.2.2.2.2.1).mono ?_
          rintro e x8 ⟨rfl, ps8, hD8, hS8⟩
          have hF8 := HF.out.call hD8 hS8
          clear HF hD8 hS8
          have HF := hide hF8
          clear hF8
          have HLT := hide hlt
          have HM := hide hm10
          go_wp2
          go_loopw [145] (fun iv W => ∃ (i : Nat) (T : List Bn) (ps : List Pl) (vs4 : Nat → Value) (ls4 : Nat → List ByteArray), i ≤ 3 ∧ iv = .int .i64 i ∧ FD x1.heap.size x1 W (some ⟨rb, off, none⟩) nbs T ps g vs4 ls4 [(lb, some (.cells #[.int .i64 (f : Int), .int .i64 (s : Int)] 3 (0, 0)))] ∧ vs4 3 = .slice aw (wants m (rd + 1)).length cw ∧ (∀ k, k < 4 → ls4 k = if k < i ∨ k = 3 then wants m (rd + 1) else wants m rd) ∧ exF who rd m ([0, 1, 2].drop i) T = some T') (fun iv _ => 3 - (intOf iv).toNat)
          case atStart =>
            refine ⟨0, T4, ps8, V, _, by omega, rfl, HF.out, HEW.out, fun k hk => ?_, HPT.out.2.2.2.2.2.2⟩
            by_cases e : k = 3
            · subst e
              rw [up_self, if_pos (Or.inr rfl)]
            · rw [up_ne _ _ e, if_neg (by omega), HLS.out k hk]
          case round =>
            clear HF HPT HLS HEW
            obtain ⟨i, Ti, psi, vs4, ls4, hi, rfl, hF, hV3, hl4, hex⟩ := hrel
            by_cases hi3 : i < 3
            · rw [drop3 hi3] at hex
              unfold exF at hex
              by_cases hC : exC who rd m Ti i
              case neg => rw [if_neg hC] at hex; cases hex
              rw [if_pos hC] at hex
              have hne := ne_sds hC
              have HEX := hide hex
              have HCC := hide hC
              have HF := hide hF
              clear hex hC hF
              have e4 : ls4 i = wants m rd := by rw [hl4 i (by omega), if_neg (by omega)]
              have HL4 := hide hl4
              have HV3 := hide hV3
              obtain ⟨nbi, hnbi⟩ : ∃ nb, nbs[i]? = some nb := ⟨nbs[i]'(by have := HN3.out; omega), List.getElem?_eq_getElem _⟩
              have HNI := hide hnbi
              have i1 : (0 : Int) ≤ (i : Int) := by omega
              have i2 : (i : Int) < 3 := by omega
              have c0 := (HF.out.ds.sw hnbi).1
              have HT := hide (taken_fl 1048576 HF.out.ds HCC.out.1 (by decide) HNI.out)
              have hlen := HCC.out.2.2.2
              obtain ⟨l, hl⟩ : ∃ l, exl Ti i = l := ⟨_, rfl⟩
              have hl' : tkn (at_ Ti i).P.s.es (at_ Ti i).P.tk (at_ Ti i).P.cm 1048576 = l := hl
              rw [hl'] at HT
              rw [hl] at hne hlen
              have HNE := hide hne
              clear hnbi hl hl' hne hl4 hV3
              go_wp2_with fail
              refine HT.out.mono ?_
              clear HT
              rintro e x9 ⟨av, xc, rfl, hE, ps9, hD9, hS9, hg9⟩
              have hF9 := HF.out.call hD9 hS9
              obtain ⟨zs', hz1, hF9', hz2⟩ := hF9.ents hE (fun b hb => ⟨fun e => by have h1 := HF.out.fr.glt; have h2 := (hg9 b hb).1; omega, (hg9 b hb).2, fun k hk e => by have h1 := HF.out.fr.lt hk e; have h2 := (hg9 b hb).1; omega⟩)
              have HZ1 := hide hz1
              have HZ2 := hide hz2
              have HF' := hide hF9'
              clear hz1 hz2 hF9' hE hD9 hS9 hg9 hF9 HF c0
              go_wp2
              go_loopw [159] (fun jv W => ∃ (j : Nat) (vs5 : Nat → Value), j ≤ l.length ∧ jv = .int .i64 j ∧ FD x1.heap.size x1 W (some ⟨rb, off, none⟩) nbs (tn1 Ti i 1048576) ps9 g vs5 (up ls4 i (wants m rd ++ ne (l.take j))) zs' ∧ vs5 3 = .slice aw (wants m (rd + 1)).length cw) (fun jv _ => l.length - (intOf jv).toNat)
              case atStart =>
                refine ⟨0, vs4, by omega, rfl, ?_, HV3.out⟩
                rw [show wants m rd ++ ne (l.take 0) = ls4 i by rw [e4]; exact List.append_nil _, up_same]
                exact HF'.out
              case round =>
                clear HF'
                obtain ⟨j, vs5, hj, rfl, hF, hV5⟩ := hrel
                by_cases hjl : j < l.length
                · have hEj := HZ2.out wr (fun z hz => (hF.fr.kept z hz).2.2)
                  obtain ⟨xb, xo, rfl, hbl, hc⟩ := hEj.lies.at Rl.eenc_len j hjl
                  have c0 := hc 0 _ rfl
                  have c1 := hc 1 _ rfl
                  rw [Nat.add_zero] at c0
                  have HTK := hide (List.take_succ_eq_append_getElem hjl)
                  have j1 : (0 : Int) ≤ (j : Int) := by omega
                  have j2 : (j : Int) < (l.length : Int) := by omega
                  generalize l[j] = ej at *
                  obtain ⟨t, d⟩ := ej
                  dsimp only at c0 c1
                  have HV5 := hide hV5
                  have HF := hide hF
                  clear hF hV5 hc hEj hbl
                  by_cases hd : d.size = 0
                  · obtain rfl : d = ⟨#[]⟩ := ba_list (List.eq_nil_of_length_eq_zero hd)
                    have HFb := hide (HF.out.below (below_alloc1 wr (.cells #[.int .i64 t, .string ⟨#[]⟩] Rl.EnT)))
                    clear HF
                    go_wp2
                    go_roundw
                    case rel => exact ⟨j + 1, vs5, by omega, by go_num, by rw [HTK.out, ne_no _ _ hd]; exact HFb.out, HV5.out⟩
                    case measure => simp [intOf]; omega
                  · have hd1 : ¬ d = ⟨#[]⟩ := fun e => hd (by rw [e]; rfl)
                    have hem : d.toList.isEmpty = false := by
                      rw [Lib.toList_data]
                      cases h : d.data.toList with
                      | nil => exact absurd (ba_list h) hd1
                      | cons _ _ => rfl
                    have HFb := hide (HF.out.below (below_alloc1 wr (.cells #[.int .i64 t, .string d] Rl.EnT)))
                    have cy : (wr.alloc (.cells #[.int .i64 t, .string d] Rl.EnT)).cell? ⟨wr.heap.size, 1, none⟩ = some (.string d) := cell_of_block (heap_alloc_new wr _) 1
                    clear HF
                    go_upto_region 43 with fail
                    generalize wr.heap.size = yb at *
                    generalize wr.alloc (.cells #[.int .i64 t, .string d] Rl.EnT) = W1 at *
                    have hbox : ∀ W2 : World, W2.heap[g]? = W1.heap[g]? → W2.cell? ⟨g, i, none⟩ = some (vs5 i) ∧ W2.frozen? ⟨g, i, none⟩ = false := fun W2 hW => by
                      have h1 := hW.trans HFb.out.box
                      refine ⟨?_, unfrozen_of_block h1 ..⟩
                      rw [cell_of_block h1]
                      have : i = 0 ∨ i = 1 ∨ i = 2 := by omega
                      rcases this with rfl | rfl | rfl <;> rfl
                    have cg := (hbox W1 rfl).1
                    obtain ⟨ga, gc, eg⟩ := (HFb.out.fr.row i (by omega)).slice
                    rw [up_self] at eg
                    have hL : (wants m rd ++ ne (l.take j)).length ≤ 2000 := by
                      have h1 := wants_len m rd hrd
                      have h2 : (ne (l.take j)).length ≤ (l.take j).length := by unfold ne; exact Nat.le_trans (List.length_filter_le _ _) (Nat.le_of_eq (List.length_map _))
                      rw [List.length_take] at h2
                      rw [List.length_append]; omega
                    have HRow := hide (fun W2 (hb : Below W1.heap.size W1 W2) => by
                      have h1 := (HFb.out.below hb).fr.row i (by omega)
                      rw [up_self] at h1
                      exact h1)
                    have HBX := hide (fun (W2 w3 : World) (hb : Below W1.heap.size W1 W2) (hg3 : W2.grownBy w3 (vs5 i).ownBlock) => hbox w3 ((hg3.block g ((HFb.out.below hb).fr.glt) fun e => ((HFb.out.below hb).fr.free i (by omega) g e.symm).2.1 rfl).trans (hb.block g HFb.out.fr.glt)))
                    have HNX := hide (show (wants m rd ++ ne (l.take j)) ++ [d] = wants m rd ++ ne (l.take (j + 1)) by rw [HTK.out, ne_yes _ _ hd, List.append_assoc])
                    rw [eg] at cg HBX
                    have HEG := hide eg
                    have cgA : ∀ c : Obj, (W1.alloc c).cell? ⟨g, i, none⟩ = some (.slice ga (wants m rd ++ ne (l.take j)).length gc) := fun c => by rw [← eg]; exact (hbox _ ((below_alloc1 W1 c).block g HFb.out.fr.glt)).1
                    clear eg hbox
                    generalize wants m rd ++ ne (l.take j) = L at *
                    rw [HEG.out] at HRow
                    go_region_law (first | (refine Gk.step_append_row (enc := Gk.tenc) (k := 1) (by rfl) (.tmp 169) (.tmp 172) FStrsT (by rfl) FStrT (.string ⟨#[]⟩) 16 Tryz.underlying45 fstr_info rfl (by decide) Gk.tenc_len tenc_one _ L (by rfl) (HRow.out _ (by first | exact ((Below.refl _ _).drew).alloc (Nat.le_refl _) _ | exact ((Below.refl _ _).alloc (Nat.le_refl _) _).drew)) (some ⟨W1.heap.size, 0, none⟩) [d] 1 1 (by rfl) rfl (lies_new d (by first | exact heap_alloc_new W1.drew _ | exact heap_alloc_new W1 _)) (fun e => by cases e) (by simp; omega) (by simp; omega) ?_; intro ad3 cap3 w3 hrow3 hg3 hat3; obtain ⟨k3, z3⟩ := HBX.out _ w3 (by first | exact ((Below.refl _ _).drew).alloc (Nat.le_refl _) _ | exact ((Below.refl _ _).alloc (Nat.le_refl _) _).drew) hg3))
                    all_goals
                      have hF9 := HFb.out.app43 hi3 (v' := .slice ad3 (L.length + 1) cap3) HEG.out (by first | exact ((Below.refl _ _).drew).alloc (Nat.le_refl _) _ | exact ((Below.refl _ _).alloc (Nat.le_refl _) _).drew) hg3 hrow3 hat3
                      rw [up_up, HNX.out] at hF9
                      have HF9 := hide hF9
                      have HV9 := hide ((up_ne vs5 (Value.slice ad3 (L.length + 1) cap3) (show (3 : Nat) ≠ i by omega)).trans HV5.out)
                      clear hF9 hg3 hrow3 hat3 HFb HRow HBX HEG k3 z3 cg cy cgA
                      generalize w3.setCell ⟨g, i, none⟩ (.slice ad3 (L.length + 1) cap3) = W9 at *
                      go_wp2
                      go_roundw
                      case rel => exact ⟨j + 1, _, by omega, by go_num, HF9.out, HV9.out⟩
                      case measure => simp [intOf]; omega
                · obtain rfl : j = l.length := by omega
                  rw [List.take_length, HNE.out, ← wants_next m HLT.out] at hF
                  have hF2 := hF.sub HZ1.out
                  obtain ⟨ga, gc, eg⟩ := (hF2.fr.row i (by omega)).slice
                  rw [up_self] at eg
                  have cg : wr.cell? ⟨g, i, none⟩ = some (vs5 i) := by
                    rw [cell_of_block hF2.box]
                    have : i = 0 ∨ i = 1 ∨ i = 2 := by omega
                    rcases this with rfl | rfl | rfl <;> rfl
                  rw [eg] at cg
                  have HF := hide hF2
                  have HEG := hide eg
                  have HV5 := hide hV5
                  clear hF hF2 eg hV5 HZ1 HZ2 HNE hjl
                  go_wp2
                  go_loopw [185] (fun kv W => ∃ k : Nat, k ≤ (wants m (rd + 1)).length ∧ kv = .int .i64 k ∧ FD x1.heap.size x1 W (some ⟨rb, off, none⟩) nbs (tn1 Ti i 1048576) ps9 g vs5 (up ls4 i (wants m (rd + 1))) [(lb, some (.cells #[.int .i64 (f : Int), .int .i64 (s : Int)] 3 (0, 0)))]) (fun kv _ => (wants m (rd + 1)).length - (intOf kv).toNat)
                  case atStart => exact ⟨0, Nat.zero_le _, rfl, HF.out⟩
                  case round =>
                    clear HF cg
                    obtain ⟨k, hk, rfl, hF⟩ := hrel
                    by_cases hkl : k < (wants m (rd + 1)).length
                    · have cg : wr.cell? ⟨g, i, none⟩ = some (vs5 i) := by
                        rw [cell_of_block hF.box]
                        have : i = 0 ∨ i = 1 ∨ i = 2 := by omega
                        rcases this with rfl | rfl | rfl <;> rfl
                      rw [HEG.out] at cg
                      have hr1 := hF.fr.row i (by omega)
                      have hr3 := hF.fr.row 3 (by omega)
                      rw [up_self, HEG.out] at hr1
                      rw [up_ne _ _ (show (3 : Nat) ≠ i by omega), HL4.out 3 (by omega), if_pos (Or.inr rfl), HV5.out] at hr3
                      obtain ⟨gb, gc2, eg2, hgb, hcg⟩ := hr1.at Gk.tenc_len k hkl
                      cases eg2
                      obtain ⟨wb, wc2, ew2, hwb, hcw⟩ := hr3.at Gk.tenc_len k hkl
                      cases ew2
                      have c1 := hcg 0 _ rfl
                      have c2 := hcw 0 _ rfl
                      rw [Nat.mul_one, Nat.add_zero] at c1 c2
                      have HFk := hide hF
                      have HKL := hide hkl
                      have hk20 : k < 20 := by have h1 := HNW.out; have h2 := HM.out; omega
                      have k1 : (0 : Int) ≤ (k : Int) := by omega
                      have k2 : (k : Int) < ((wants m (rd + 1)).length : Int) := by omega
                      generalize (wants m (rd + 1))[k] = sk at *
                      clear hF hr1 hr3 hcg hcw hgb hwb
                      go_wp2_with fail
                      go_region_law (fail)
                      all_goals
                        go_wp2
                        go_roundw
                        case rel => exact ⟨k + 1, HKL.out, by go_num, by first | exact HFk.out | exact HFk.out.drew⟩
                        case measure =>
                          have h1 := HKL.out
                          simp [intOf]; omega
                    · obtain rfl : k = (wants m (rd + 1)).length := by omega
                      have hTl := hF.ds.len3 HN3.out
                      unfold tn1 at hTl
                      rw [List.length_set] at hTl
                      have hldr : (at_ (tn1 Ti i 1048576) i).P.ldr = (who : Int) := (tn1_ldr (by omega)).trans HCC.out.2.2.1
                      have HLD := hide hldr
                      have HF := hide hF
                      clear hF hTl hldr
                      go_wp2_with fail
                      refine (state_fl HF.out.ds HNI.out).mono ?_
                      rw [HLD.out]
                      rintro e x10 ⟨rfl, hD10, hS10⟩
                      have HF10 := hide (HF.out.call hD10 hS10)
                      clear HF hD10 hS10
                      go_wp2
                      go_roundw
                      case rel =>
                        refine ⟨i + 1, _, ps9, vs5, _, by omega, by go_num, HF10.out, HV5.out, fun k hk => ?_, HEX.out⟩
                        by_cases e : k = i
                        · subst e; rw [up_self, if_pos (Or.inl (by omega))]
                        · rw [up_ne _ _ e, HL4.out k hk]
                          by_cases h1 : k < i ∨ k = 3
                          · rw [if_pos h1, if_pos (by omega)]
                          · rw [if_neg h1, if_neg (by omega)]
                      case measure => simp [intOf]; omega
            · obtain rfl : i = 3 := by omega
              cases hex
              have HF := hide hF
              have HL4 := hide hl4
              have HV3 := hide hV3
              clear hF hl4 hV3
              go_wp2
              go_roundw
              case rel => exact ⟨rd + 1, T', psi, vs4, ls4, by omega, HV3.out.symm, by go_num, HF.out, fun k hk => by rw [HL4.out k hk, if_pos (by omega)], HRN.out⟩
              case measure => simp [intOf]; omega
    · obtain rfl : rd = 2 := by omega
      have HB := hide hF.ds.bel
      clear hF
      go_wp2
      go_ret
      exact ⟨rfl, HB1.out.trans (HB.out.mono HB1.out.size)⟩
theorem flows_row (x : Int) (a : Option Addr) (cap : Nat) (ts : List ByteArray) (y : Int) (w : World) (wf : (Lit.int .i64 x).wf = true) (hT : TextsAt w a cap ts) (wf2 : (Lit.int .i64 y).wf = true) :
    Calls Tryz.prog 5 #[.int .i64 x, .slice a ts.length cap, .int .i64 y] w fun e w' => e = .returned (.bool true) ∧ Below w.heap.size w w' := by
  have hb := bounds_i64 wf
  have hb2 := bounds_i64 wf2
  have h1 := hT.room
  have h2 := hT.max
  exact flows_law x y a ts.length cap w hb.1 hb.2 hb2.1 hb2.2 (by omega)
end Go.Proofs.YtmpahgklcabihaaGreat.Rf
