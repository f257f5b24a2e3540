/- Layer 16, plain: letters, how they are read, and a node as a machine. Layer 16: where a node lies, and what stays when something turns. Layer 16: lists of numbers are made; letters' values. Layer 16: letters are read. Layer 16: letters are read: letter, letterIn. Layer 16: letters are read: letter, letterIn. Layer 16: letters' lists are made: a request for votes, a vote, an answer. Layer 16: letters' lists are made: entries; letters are sent. Layer 16: letters are sent; other nodes. Layer 16: the other nodes; entries are sent. Layer 16: an entry is appended; a term is caught up. Layer 16: what is committed. Layer 16: extend, Propose, catchUp, Letters, State. Layer 16: entries are merged. Layer 16: a term is caught up; a node's state; its letters. Layer 16: lead, leadIfChosen. Layer 16: ask. Layer 16: an answer is heard. Layer 16: entries are heard, and merged. Layer 16: mayVoteFor; a letter that asks for a vote. Layer 16: a letter that asks for a vote is heard. Layer 16: a vote is heard. Layer 16: Tick. Layer 16: Hear, of a letter that is one. -/
import Derived.Test.YtmpahgklcabihaaGreatBaDsk
import Derived.Test.YtmpahgklcabihaaGreatRlDag
import Derived.Test.YtmpahgklcabihaaGreatFdRd
import Derived.Test.YtmpahgklcabihaaGreatGArgs
import Derived.Test.YtmpahgklcabihaaGreatEnc2
import Derived.Test.YtmpahgklcabihaaGreatGKeep
import Derived.Handy
namespace Go.Proofs.YtmpahgklcabihaaGreat.Rf
open Go.Proofs.YtmpahgklcabihaaGreat.Dk (St Bs)
open Go.Proofs.YtmpahgklcabihaaGreat.Rl (En Lo agr)
open Go.Proofs.YtmpahgklcabihaaGreat.Ba (Bl trn cst mgd)
open Go.Proofs.YtmpahgklcabihaaGreat.Fd (numF txtF Rd)

/-- a letter -/
inductive Lt where
  | ask (t l lt : Int)
  | vote (t : Int) (g : Bool)
  | ents (t p pt c : Int) (es : List En)
  | ans (t : Int) (g : Bool) (n : Int)
def b2i (b : Bool) : Int := if b then 1 else 0
def enF (es : List En) : List Fld := es.flatMap fun e => [numF e.t, txtF e.d]
def Lt.flds : Lt → List Fld
  | .ask t l lt => [numF 1, numF t, numF l, numF lt]
  | .vote t g => [numF 2, numF t, numF (b2i g)]
  | .ents t p pt c es => [numF 3, numF t, numF p, numF pt, numF c, numF es.length] ++ enF es
  | .ans t g n => [numF 4, numF t, numF (b2i g), numF n]
def Lt.text (l : Lt) : ByteArray := ⟨(encs l.flds).toArray⟩
def Lt.term : Lt → Int
  | .ask t _ _ => t
  | .vote t _ => t
  | .ents t _ _ _ _ => t
  | .ans t _ _ => t
def Lt.few : Lt → Prop
  | .ents _ _ _ _ es => es.length ≤ 8 ∧ ∀ e ∈ es, e.d.size ≤ 4096
  | _ => True

theorem encs_num (x : Int) (l : List Fld) : (encs (numF x :: l)).length ≤ 10 + (encs l).length := by
  have h := Pl.wd_le (u64 x)
  have : (encs (numF x :: l)).length = (enc (numF x)).length + (encs l).length := by simp [encs]
  rw [this, enc_num_length]; omega
theorem enF_len : ∀ es : List En, (enF es).length = 2 * es.length
  | [] => rfl
  | e :: es => by
    have := enF_len es
    show ([numF e.t, txtF e.d] ++ enF es).length = _
    rw [List.length_append, this, List.length_cons]; simp; omega
theorem enF_encs : ∀ es : List En, (∀ e ∈ es, e.d.size ≤ 4096) → (encs (enF es)).length ≤ 4130 * es.length
  | [], _ => by simp [enF, encs]
  | e :: es, h => by
    have h1 := enF_encs es fun x hx => h x (List.mem_cons_of_mem _ hx)
    have h2 := Pl.wd_le (u64 e.t)
    have h3 := Pl.wd_le e.d.size
    have h4 := h e (List.mem_cons_self ..)
    have : (encs (enF (e :: es))).length = (enc (numF e.t)).length + ((enc (txtF e.d)).length + (encs (enF es)).length) := by simp [enF, encs]
    rw [this, enc_num_length, enc_text_length, List.length_cons]; omega
theorem enF_mem {es : List En} {f : Fld} (h : f ∈ enF es) : (∃ e ∈ es, f = numF e.t) ∨ ∃ e ∈ es, f = txtF e.d := by
  unfold enF at h
  rw [List.mem_flatMap] at h
  obtain ⟨e, he, h⟩ := h
  simp only [List.mem_cons, List.not_mem_nil, or_false] at h
  rcases h with h | h
  · exact Or.inl ⟨e, he, h⟩
  · exact Or.inr ⟨e, he, h⟩
theorem num_may (x : Int) : (numF x).may = true := by simp [Fld.may, ByteArray.size]
theorem txt_may (x : ByteArray) : (txtF x).may = true := by simp [Fld.may]
theorem Lt.may (l : Lt) : ∀ f ∈ l.flds, f.may = true := by
  cases l with
  | ents t p pt c es =>
    intro f hf
    simp only [Lt.flds, List.mem_append, List.mem_cons, List.not_mem_nil, or_false] at hf
    rcases hf with hf | hf
    · rcases hf with rfl | rfl | rfl | rfl | rfl | rfl <;> exact num_may _
    · rcases enF_mem hf with ⟨e, _, rfl⟩ | ⟨e, _, rfl⟩
      · exact num_may _
      · exact txt_may _
  | ask t a b =>
    intro f hf
    simp only [Lt.flds, List.mem_cons, List.not_mem_nil, or_false] at hf
    rcases hf with rfl | rfl | rfl | rfl <;> exact num_may _
  | vote t g =>
    intro f hf
    simp only [Lt.flds, List.mem_cons, List.not_mem_nil, or_false] at hf
    rcases hf with rfl | rfl | rfl <;> exact num_may _
  | ans t g n =>
    intro f hf
    simp only [Lt.flds, List.mem_cons, List.not_mem_nil, or_false] at hf
    rcases hf with rfl | rfl | rfl | rfl <;> exact num_may _
theorem Lt.many {l : Lt} (h : l.few) : l.flds.length ≤ 22 := by
  cases l with
  | ents t p pt c es =>
    have := h.1
    show ([numF 3, numF t, numF p, numF pt, numF c, numF es.length] ++ enF es).length ≤ 22
    rw [List.length_append, enF_len]; simp; omega
  | _ => simp [Lt.flds]
theorem Lt.size {l : Lt} (h : l.few) : (encs l.flds).length ≤ 33100 := by
  cases l with
  | ents t p pt c es =>
    obtain ⟨h1, h2⟩ := h
    have h3 := enF_encs es h2
    have e : Lt.flds (.ents t p pt c es) = numF 3 :: numF t :: numF p :: numF pt :: numF c :: numF es.length :: enF es := rfl
    rw [e]
    have a1 := encs_num 3 (numF t :: numF p :: numF pt :: numF c :: numF es.length :: enF es)
    have a2 := encs_num t (numF p :: numF pt :: numF c :: numF es.length :: enF es)
    have a3 := encs_num p (numF pt :: numF c :: numF es.length :: enF es)
    have a4 := encs_num pt (numF c :: numF es.length :: enF es)
    have a5 := encs_num c (numF es.length :: enF es)
    have a6 := encs_num es.length (enF es)
    omega
  | ask t a b =>
    have a1 := encs_num 1 [numF t, numF a, numF b]
    have a2 := encs_num t [numF a, numF b]
    have a3 := encs_num a [numF b]
    have a4 := encs_num b []
    have a5 : (encs []).length = 0 := rfl
    show (encs [numF 1, numF t, numF a, numF b]).length ≤ _
    omega
  | vote t g =>
    have a1 := encs_num 2 [numF t, numF (b2i g)]
    have a2 := encs_num t [numF (b2i g)]
    have a3 := encs_num (b2i g) []
    have a5 : (encs []).length = 0 := rfl
    show (encs [numF 2, numF t, numF (b2i g)]).length ≤ _
    omega
  | ans t g n =>
    have a1 := encs_num 4 [numF t, numF (b2i g), numF n]
    have a2 := encs_num t [numF (b2i g), numF n]
    have a3 := encs_num (b2i g) [numF n]
    have a4 := encs_num n []
    have a5 : (encs []).length = 0 := rfl
    show (encs [numF 4, numF t, numF (b2i g), numF n]).length ≤ _
    omega
theorem Lt.good {l : Lt} (h : l.few) : Good l.flds :=
  ⟨by have := Lt.many h; omega, List.all_eq_true.2 (Lt.may l), by have := Lt.size h; omega⟩

/-! how a letter is read -/
def wi (S : Rd) (a b : Int) : Int × Rd := if S.num.1 < a ∨ b < S.num.1 then (0, ⟨S.num.2.rest, true⟩) else S.num
abbrev rTerm (S : Rd) : Int × Rd := wi S 1 1073741824
abbrev rNum (S : Rd) : Int × Rd := wi S 0 1073741824
def rOne (S : Rd) : Bool × Rd := (decide ((wi S 0 1).1 = 1), (wi S 0 1).2)
def rEn (S : Rd) : En × Rd := (⟨(rTerm S).1, ((rTerm S).2.txt).1⟩, ((rTerm S).2.txt).2)
def rEns : Nat → Rd → List En → List En × Rd
  | 0, S, l => (l, S)
  | k + 1, S, l => rEns k (rEn S).2 (l ++ [(rEn S).1])
def rEnts (S : Rd) : List En × Rd := rEns (wi S 0 4096).1.toNat (wi S 0 4096).2 []
def rLt (S : Rd) (mark t : Int) : Option Lt × Rd :=
  if mark = 1 then (some (.ask t (rNum S).1 (rNum (rNum S).2).1), (rNum (rNum S).2).2)
  else if mark = 2 then (some (.vote t (rOne S).1), (rOne S).2)
  else if mark = 3 then
    (some (.ents t (rNum S).1 (rNum (rNum S).2).1 (rNum (rNum (rNum S).2).2).1 (rEnts (rNum (rNum (rNum S).2).2).2).1), (rEnts (rNum (rNum (rNum S).2).2).2).2)
  else if mark = 4 then (some (.ans t (rOne S).1 (rNum (rOne S).2).1), (rNum (rOne S).2).2)
  else (none, S)
def parse (l : List Fld) : Option Lt :=
  if (rLt (rTerm (Rd.num ⟨l, false⟩).2).2 (Rd.num ⟨l, false⟩).1 (rTerm (Rd.num ⟨l, false⟩).2).1).2.done = true then
    (rLt (rTerm (Rd.num ⟨l, false⟩).2).2 (Rd.num ⟨l, false⟩).1 (rTerm (Rd.num ⟨l, false⟩).2).1).1 else none
/-- the letter that a text is -/
def ltIn (s : ByteArray) : Option Lt := if (decode s).2.2 = 0 then parse (decode s).1 else none

def Lt.fit : Lt → Prop
  | .ask t l lt => 1 ≤ t ∧ t ≤ 1073741824 ∧ 0 ≤ l ∧ l ≤ 1073741824 ∧ 0 ≤ lt ∧ lt ≤ 1073741824
  | .vote t _ => 1 ≤ t ∧ t ≤ 1073741824
  | .ents t p pt c es => 1 ≤ t ∧ t ≤ 1073741824 ∧ 0 ≤ p ∧ p ≤ 1073741824 ∧ 0 ≤ pt ∧ pt ≤ 1073741824 ∧ 0 ≤ c ∧ c ≤ 1073741824 ∧ es.length ≤ 8 ∧ ∀ e ∈ es, 1 ≤ e.t ∧ e.t ≤ 1073741824 ∧ e.d.size ≤ 4096
  | .ans t _ n => 1 ≤ t ∧ t ≤ 1073741824 ∧ 0 ≤ n ∧ n ≤ 1073741824
theorem Lt.fit.few {l : Lt} (h : l.fit) : l.few := by
  cases l with
  | ents t p pt c es => exact ⟨h.2.2.2.2.2.2.2.2.1, fun e he => (h.2.2.2.2.2.2.2.2.2 e he).2.2⟩
  | _ => trivial
theorem numF_fits {x : Int} (h0 : -1 ≤ x) (h1 : x ≤ 1073741824) : (numF x).fits := ⟨by show (-9223372036854775808 : Int) ≤ x; omega, by show x ≤ 9223372036854775807; omega, by show (ByteArray.mk #[]).size ≤ _; decide⟩
theorem b2i_rng (b : Bool) : 0 ≤ b2i b ∧ b2i b ≤ 1 := by cases b <;> decide
theorem Lt.fits {l : Lt} (h : l.fit) : ∀ f ∈ l.flds, f.fits := by
  cases l with
  | ents t p pt c es =>
    obtain ⟨h1, h2, h3, h4, h5, h6, h7, h8, h9, h10⟩ := h
    intro f hf
    simp only [Lt.flds, List.mem_append, List.mem_cons, List.not_mem_nil, or_false] at hf
    rcases hf with hf | hf
    · rcases hf with rfl | rfl | rfl | rfl | rfl | rfl <;> exact numF_fits (by omega) (by omega)
    · rcases enF_mem hf with ⟨e, he, rfl⟩ | ⟨e, he, rfl⟩
      · have := h10 e he; exact numF_fits (by omega) (by omega)
      · have := h10 e he; exact txt_fits _ (by omega)
  | ask t a b =>
    obtain ⟨h1, h2, h3, h4, h5, h6⟩ := h
    intro f hf
    simp only [Lt.flds, List.mem_cons, List.not_mem_nil, or_false] at hf
    rcases hf with rfl | rfl | rfl | rfl <;> exact numF_fits (by omega) (by omega)
  | vote t g =>
    obtain ⟨h1, h2⟩ := h
    have := b2i_rng g
    intro f hf
    simp only [Lt.flds, List.mem_cons, List.not_mem_nil, or_false] at hf
    rcases hf with rfl | rfl | rfl <;> exact numF_fits (by omega) (by omega)
  | ans t g n =>
    obtain ⟨h1, h2, h3, h4⟩ := h
    have := b2i_rng g
    intro f hf
    simp only [Lt.flds, List.mem_cons, List.not_mem_nil, or_false] at hf
    rcases hf with rfl | rfl | rfl | rfl <;> exact numF_fits (by omega) (by omega)
theorem num_at (x : Int) (l : List Fld) (b : Bool) : Rd.num ⟨numF x :: l, b⟩ = (x, ⟨l, b⟩) := rfl
theorem wi_at {x a c : Int} (l : List Fld) (b : Bool) (h0 : a ≤ x) (h1 : x ≤ c) : wi ⟨numF x :: l, b⟩ a c = (x, ⟨l, b⟩) := by
  unfold wi; rw [num_at, if_neg (by dsimp only; omega)]
theorem rEns_at : ∀ (es : List En) (l : List En), (∀ e ∈ es, 1 ≤ e.t ∧ e.t ≤ 1073741824 ∧ e.d.size ≤ 4096) → rEns es.length ⟨enF es, false⟩ l = (l ++ es, ⟨[], false⟩)
  | [], l, _ => by simp [rEns, enF]
  | e :: es, l, h => by
    have h1 := h e (List.mem_cons_self ..)
    have e1 : rEn ⟨enF (e :: es), false⟩ = (e, ⟨enF es, false⟩) := by
      have e2 : enF (e :: es) = numF e.t :: txtF e.d :: enF es := rfl
      unfold rEn rTerm
      rw [e2, wi_at _ _ h1.1 h1.2.1]; rfl
    rw [List.length_cons, rEns, e1, rEns_at es _ fun x hx => h x (List.mem_cons_of_mem _ hx)]
    simp
theorem rLt1 (S : Rd) (t : Int) : rLt S 1 t = (some (.ask t (rNum S).1 (rNum (rNum S).2).1), (rNum (rNum S).2).2) := by unfold rLt; rw [if_pos rfl]
theorem rLt2 (S : Rd) (t : Int) : rLt S 2 t = (some (.vote t (rOne S).1), (rOne S).2) := by unfold rLt; rw [if_neg (by decide), if_pos rfl]
theorem rLt3 (S : Rd) (t : Int) : rLt S 3 t = (some (.ents t (rNum S).1 (rNum (rNum S).2).1 (rNum (rNum (rNum S).2).2).1 (rEnts (rNum (rNum (rNum S).2).2).2).1), (rEnts (rNum (rNum (rNum S).2).2).2).2) := by
  unfold rLt; rw [if_neg (by decide), if_neg (by decide), if_pos rfl]
theorem rLt4 (S : Rd) (t : Int) : rLt S 4 t = (some (.ans t (rOne S).1 (rNum (rOne S).2).1), (rNum (rOne S).2).2) := by
  unfold rLt; rw [if_neg (by decide), if_neg (by decide), if_neg (by decide), if_pos rfl]
theorem rOne_at (g : Bool) (l : List Fld) (b : Bool) : rOne ⟨numF (b2i g) :: l, b⟩ = (g, ⟨l, b⟩) := by
  unfold rOne; rw [wi_at _ _ (b2i_rng g).1 (b2i_rng g).2]; cases g <;> rfl
theorem rNum_at {x : Int} (l : List Fld) (b : Bool) (h0 : 0 ≤ x) (h1 : x ≤ 1073741824) : rNum ⟨numF x :: l, b⟩ = (x, ⟨l, b⟩) := wi_at _ _ h0 h1
theorem rTerm_at {x : Int} (l : List Fld) (b : Bool) (h0 : 1 ≤ x) (h1 : x ≤ 1073741824) : rTerm ⟨numF x :: l, b⟩ = (x, ⟨l, b⟩) := wi_at _ _ h0 h1
/-- what stands behind the mark and the term decides -/
theorem parse_of {m t : Int} {L : List Fld} {x : Lt} (h1 : 1 ≤ t) (h2 : t ≤ 1073741824) (h : rLt ⟨L, false⟩ m t = (some x, ⟨[], false⟩)) : parse (numF m :: numF t :: L) = some x := by
  unfold parse
  rw [num_at]
  dsimp only
  rw [rTerm_at _ _ h1 h2]
  dsimp only
  rw [h]
  rfl
theorem parse_flds {l : Lt} (h : l.fit) : parse l.flds = some l := by
  cases l with
  | ask t a b =>
    obtain ⟨h1, h2, h3, h4, h5, h6⟩ := h
    refine parse_of h1 h2 ?_
    rw [rLt1, rNum_at _ _ h3 h4]
    dsimp only
    rw [rNum_at _ _ h5 h6]
  | vote t g =>
    obtain ⟨h1, h2⟩ := h
    refine parse_of h1 h2 ?_
    rw [rLt2, rOne_at]
  | ents t p pt c es =>
    obtain ⟨h1, h2, h3, h4, h5, h6, h7, h8, h9, h10⟩ := h
    refine parse_of (L := numF p :: numF pt :: numF c :: numF es.length :: enF es) h1 h2 ?_
    rw [rLt3, rNum_at _ _ h3 h4]
    dsimp only
    rw [rNum_at _ _ h5 h6]
    dsimp only
    rw [rNum_at _ _ h7 h8]
    dsimp only
    unfold rEnts
    rw [wi_at _ _ (by omega) (by omega)]
    dsimp only
    rw [Int.toNat_natCast, rEns_at es [] h10]
    rfl
  | ans t g n =>
    obtain ⟨h1, h2, h3, h4⟩ := h
    refine parse_of h1 h2 ?_
    rw [rLt4, rOne_at]
    dsimp only
    rw [rNum_at _ _ h3 h4]
theorem text_is {l : Lt} (h : l.fit) : ltIn l.text = some l := by
  have hd : decode l.text = (l.flds, 0, 0) := decode_encs (Lt.good h.few) (Lt.fits h)
  unfold ltIn
  rw [hd, if_pos rfl, parse_flds h]
theorem text_size {l : Lt} (h : l.few) : l.text.size ≤ 33100 := by
  have := Lt.size h
  show (encs l.flds).toArray.size ≤ _
  simpa using this

/-! a node -/
structure Pr where
  hv : Bool
  nx : Nat
  mt : Nat
abbrev Lx : Type := Int × ByteArray
structure Nd where
  id : Nat
  pat : Int
  S : St
  s : Bl
  role : Int
  ldr : Int
  wt : Int
  cm : Int
  tk : Int
  ps : List Pr
  ls : List Lx
def Nd.new (id nodes : Nat) (pat : Int) (S : St) (s : Bl) : Nd := ⟨id, pat, S, s, 0, -1, 0, 0, 0, List.replicate nodes ⟨false, 0, 0⟩, []⟩
def Nd.others (N : Nd) : List Nat := (List.range N.ps.length).filter fun j => j ≠ N.id
def Nd.sent (N : Nd) (j : Nat) (l : Lt) : Nd := { N with ls := N.ls ++ [((j : Int), l.text)] }
def Nd.pr (N : Nd) (j : Nat) : Pr := N.ps.getD j ⟨false, 0, 0⟩
def Nd.entsTo (N : Nd) (j : Nat) : Lt := .ents N.s.t ((N.pr j).nx - 1 : Nat) (N.s.lo.tm ((N.pr j).nx - 1)) N.cm ((N.s.es.drop ((N.pr j).nx - 1)).take 8)
def Nd.sendE (N : Nd) (j : Nat) : Nd := N.sent j (N.entsTo j)
def Nd.sendAll (N : Nd) : Nd := N.others.foldl Nd.sendE N
def Nd.matches (N : Nd) : List Int := (N.s.es.length : Int) :: N.others.map fun j => ((N.pr j).mt : Int)
def Nd.commit (N : Nd) : Nd := { N with cm := agr N.s.lo N.matches N.s.t N.cm }
/-- what a ballot's call leaves -/
def Nd.put (N : Nd) (S : St) (s : Bl) : Nd := { N with S := S, s := s }
def Nd.extend (N : Nd) (d : ByteArray) : Int × Int × Nd :=
  if (mgd N.S N.s N.s.es.length [⟨N.s.t, d⟩]).2.1 = 0 then
    ((mgd N.S N.s N.s.es.length [⟨N.s.t, d⟩]).1, 0, let M := (N.put (mgd N.S N.s N.s.es.length [⟨N.s.t, d⟩]).2.2.1 (mgd N.S N.s N.s.es.length [⟨N.s.t, d⟩]).2.2.2).sendAll; if N.ps.length = 1 then M.commit else M)
  else (0, (mgd N.S N.s N.s.es.length [⟨N.s.t, d⟩]).2.1, N.put (mgd N.S N.s N.s.es.length [⟨N.s.t, d⟩]).2.2.1 (mgd N.S N.s N.s.es.length [⟨N.s.t, d⟩]).2.2.2)
def Nd.begun (N : Nd) : Nd := { N with role := 2, ldr := N.id, ps := N.ps.map fun p => ⟨p.hv, N.s.es.length + 1, 0⟩ }
def Nd.lead (N : Nd) : Int × Nd := (N.begun.extend ⟨#[]⟩).2
def Nd.votes (N : Nd) : Nat := N.ps.countP (·.hv)
def Nd.chosen (N : Nd) : Int × Nd := if 2 * N.votes ≤ N.ps.length then (0, N) else N.lead
def voted (id : Nat) (ps : List Pr) : List Pr := ps.mapIdx fun i p => ⟨decide (i = id), p.nx, p.mt⟩
def Nd.asks (N : Nd) : Nd :=
  let M := { N with role := 1, ldr := -1, ps := voted N.id N.ps }
  M.others.foldl (fun K j => K.sent j (.ask N.s.t N.s.es.length (N.s.lo.tm N.s.es.length))) M
def Nd.ask (N : Nd) : Int × Nd :=
  if (trn N.S N.s (N.s.t + 1)).1 ≠ 0 then ((trn N.S N.s (N.s.t + 1)).1, N.put (trn N.S N.s (N.s.t + 1)).2.1 (trn N.S N.s (N.s.t + 1)).2.2)
  else
    let M := N.put (trn N.S N.s (N.s.t + 1)).2.1 (trn N.S N.s (N.s.t + 1)).2.2
    if (cst N.ps.length M.S M.s N.id).1 ≠ 0 then ((cst N.ps.length M.S M.s N.id).1, M.put (cst N.ps.length M.S M.s N.id).2.1 (cst N.ps.length M.S M.s N.id).2.2)
    else (M.put (cst N.ps.length M.S M.s N.id).2.1 (cst N.ps.length M.S M.s N.id).2.2).asks.chosen
def Nd.tick (N : Nd) : Int × Nd :=
  if N.role = 2 then (0, N.sendAll)
  else if N.wt + 1 < N.pat + N.id then (0, { N with wt := N.wt + 1 })
  else ({ N with wt := 0 } : Nd).ask
def Nd.catchUp (N : Nd) (t : Int) : Int × Nd :=
  if t ≤ N.s.t then (0, N)
  else if (trn N.S N.s t).1 = 0 then (0, { N.put (trn N.S N.s t).2.1 (trn N.S N.s t).2.2 with role := 0, ldr := -1 })
  else ((trn N.S N.s t).1, N.put (trn N.S N.s t).2.1 (trn N.S N.s t).2.2)

end Go.Proofs.YtmpahgklcabihaaGreat.Rf

namespace Go.Proofs.YtmpahgklcabihaaGreat.Rf
open Go.RowKit Go.Joins Go.Proofs.YtmpahgklcabihaaGreat.Gk
open Go.Proofs.YtmpahgklcabihaaGreat.Dk (St Bs)
open Go.Proofs.YtmpahgklcabihaaGreat.Rl (En Lo LH ER ptr blk own Tn)
open Go.Proofs.YtmpahgklcabihaaGreat.Ba (Bl BB Tu)

abbrev NodeT : TypeId := 83
abbrev PeerT : TypeId := 142
abbrev LtrT : TypeId := 103
abbrev LtrsT : TypeId := 56
def penc (p : Pr) : List Value := [.bool p.hv, .int .i64 p.nx, .int .i64 p.mt]
theorem penc_len (p : Pr) : (penc p).length = 3 := rfl
def lenc (l : Lx) : List Value := [.int .i64 l.1, .string l.2]
theorem lenc_len (l : Lx) : (lenc l).length = 2 := rfl
theorem lenc_one (l : Lx) : ∀ u ∈ lenc l, u.oneCell' = true := by
  intro u hu
  simp only [lenc, List.mem_cons, List.not_mem_nil, or_false] at hu
  rcases hu with rfl | rfl <;> rfl
abbrev noL : Value := .agg #[.int .i64 0, .string ⟨#[]⟩]
theorem ltr_info : (Tryz.prog.info? LtrT).map (fun i => (i.zero, i.size, i.bytes)) = some (some noL, 2, 24) := by kernel_rfl

theorem Tu.wide {D D' E E' : Nat → Prop} {w w' : World} (h : Tu D D' w w') (h1 : ∀ k, D k → E k) (h2 : ∀ k, E' k → D' k ∨ E k) : Tu E E' w w' :=
  ⟨h.only.mono fun _ _ h => h1 _ h, fun k hk => by
    rcases h2 k hk with e | e
    · rcases h.new k e with e | e
      · exact Or.inl (h1 k e)
      · exact Or.inr e
    · exact Or.inl e⟩
theorem bb_frame {w w' : World} {bb bd : Nat} {n : Int} {S : St} {s : Bl} {X : Nat → Prop} (h : BB w bb bd n S s X) (hz : w.heap.size ≤ w'.heap.size) (hs : ∀ k, X k → w'.heap[k]? = w.heap[k]?) : BB w' bb bd n S s X := by
  obtain ⟨bl, v, D, h, rfl⟩ := h
  have e := Rl.own_same (bl := bl) (hs bl (Or.inr (Or.inr (Or.inl rfl))))
  exact ⟨bl, v, D, ⟨(hs bb (Or.inr (Or.inl rfl))).trans h.box, h.disk.frame hz fun k hk => hs k (Or.inl hk), h.log.stay fun k hk => hs k (Or.inr (Or.inr hk)), h.nb, fun k hk => h.nl k (by rw [← e]; exact hk)⟩, by unfold Ba.bo; rw [e]⟩

theorem ne_type {w : World} {i j : Nat} {cs ds : Array Value} {t u : TypeId} (hi : w.heap[i]? = some (.cells cs t (0, 0))) (hj : w.heap[j]? = some (.cells ds u (0, 0))) (h : t ≠ u) : i ≠ j := by
  rintro rfl
  have := hi.symm.trans hj
  simp only [Option.some.injEq, Obj.cells.injEq] at this
  exact h this.2.1
abbrev ncells (N : Nd) (bb bl pb : Nat) (lv : Value) : Array Value :=
  #[.int .i64 N.id, .int .i64 N.pat, ptr bb, ptr bl, .int .i64 N.role, .int .i64 N.ldr, .int .i64 N.wt, .int .i64 N.cm, .int .i64 N.tk, .slice (some ⟨pb, 0, none⟩) N.ps.length N.ps.length, lv]
/-- a node lies there -/
structure NH (w : World) (nb bd bb bl pb : Nat) (v lv : Value) (N : Nd) (lg : List En) (Y : Nat → Prop) : Prop where
  box : w.heap[nb]? = some (.cells (ncells N bb bl pb lv) NodeT (0, 0))
  bal : BB w bb bd N.ps.length N.S N.s Y
  log : LH w bl ⟨0, 0, lg⟩ v
  prs : w.heap[pb]? = some (.cells (rc penc N.ps).toArray PeerT (0, 0))
  row : Row w lenc LtrT 2 lv N.ls
  yn : ¬ Y nb
  yp : ¬ Y pb
  yl : ∀ k, own w bl k → ¬ Y k
  yr : ∀ g, lv.ownBlock = some g → ¬ Y g
/-- what is a node's own -/
def no (w : World) (nb bl pb : Nat) (lv : Value) (Y : Nat → Prop) : Nat → Prop := fun k => Y k ∨ k = nb ∨ k = pb ∨ own w bl k ∨ lv.ownBlock = some k
section
variable {w w' : World} {nb bd bb bl pb : Nat} {v lv : Value} {N : Nd} {lg : List En} {Y Y' : Nat → Prop}
theorem NH.nlt (h : NH w nb bd bb bl pb v lv N lg Y) : nb < w.heap.size := (Array.getElem?_eq_some_iff.1 h.box).1
theorem NH.plt (h : NH w nb bd bb bl pb v lv N lg Y) : pb < w.heap.size := (Array.getElem?_eq_some_iff.1 h.prs).1
theorem NH.np (h : NH w nb bd bb bl pb v lv N lg Y) : nb ≠ pb := ne_type h.box h.prs (by decide)
theorem NH.nl (h : NH w nb bd bb bl pb v lv N lg Y) : ¬ own w bl nb := by
  rintro (e | e)
  · exact ne_type h.box h.log.box (by decide) e
  · rw [h.log.lbk] at e
    exact h.log.row.ne h.box (by decide) e rfl
theorem NH.pl (h : NH w nb bd bb bl pb v lv N lg Y) : ¬ own w bl pb := by
  rintro (e | e)
  · exact ne_type h.prs h.log.box (by decide) e
  · rw [h.log.lbk] at e
    exact h.log.row.ne h.prs (by decide) e rfl
theorem NH.rn (h : NH w nb bd bb bl pb v lv N lg Y) {g : Nat} (hg : lv.ownBlock = some g) : g ≠ nb := Gk.own_ne h.row h.box (by decide) hg
theorem NH.rp (h : NH w nb bd bb bl pb v lv N lg Y) {g : Nat} (hg : lv.ownBlock = some g) : g ≠ pb := Gk.own_ne h.row h.prs (by decide) hg
theorem NH.rl (h : NH w nb bd bb bl pb v lv N lg Y) {g : Nat} (hg : lv.ownBlock = some g) : ¬ own w bl g := by
  rintro (e | e)
  · exact Gk.own_ne h.row h.log.box (by decide) hg e
  · rw [h.log.lbk] at e
    rcases h.row.2 with ⟨e1, _⟩ | ⟨g', _, cur, e1, _, hc, _⟩
    · rw [e1] at hg; simp [Value.ownBlock] at hg
    · rw [e1] at hg; simp only [Value.ownBlock, Option.some.injEq] at hg
      subst hg
      exact h.log.row.ne hc (by decide) e rfl
theorem NH.rlt (h : NH w nb bd bb bl pb v lv N lg Y) {g : Nat} (hg : lv.ownBlock = some g) : g < w.heap.size := (World.ownsRow.lt h.row g hg).2
theorem NH.olt (h : NH w nb bd bb bl pb v lv N lg Y) {k : Nat} (hk : no w nb bl pb lv Y k) : k < w.heap.size := by
  rcases hk with e | rfl | rfl | e | e
  · exact h.bal.lt e
  · exact h.nlt
  · exact h.plt
  · exact h.log.ownlt e
  · exact h.rlt e
theorem NH.c (h : NH w nb bd bb bl pb v lv N lg Y) (j : Nat) : w.cell? ⟨nb, j, none⟩ = (ncells N bb bl pb lv)[j]? := cell_of_block h.box j
theorem NH.fz (h : NH w nb bd bb bl pb v lv N lg Y) (j : Nat) : w.frozen? ⟨nb, j, none⟩ = false := unfrozen_of_block h.box j
theorem NH.pc (h : NH w nb bd bb bl pb v lv N lg Y) {i : Nat} (hi : i < N.ps.length) : w.cell? ⟨pb, i * 3, none⟩ = some (.bool N.ps[i].hv) ∧ w.cell? ⟨pb, i * 3 + 1, none⟩ = some (.int .i64 N.ps[i].nx) ∧ w.cell? ⟨pb, i * 3 + 2, none⟩ = some (.int .i64 N.ps[i].mt) := by
  have e : ∀ j, j < 3 → w.cell? ⟨pb, i * 3 + j, none⟩ = (penc N.ps[i])[j]? := fun j hj => by
    rw [cell_of_block h.prs]
    show (rc penc N.ps).toArray[i * 3 + j]? = _
    rw [List.getElem?_toArray, rc_at penc_len N.ps i hi j hj]
  exact ⟨e 0 (by decide), e 1 (by decide), e 2 (by decide)⟩
theorem NH.pfz (h : NH w nb bd bb bl pb v lv N lg Y) (j : Nat) : w.frozen? ⟨pb, j, none⟩ = false := unfrozen_of_block h.prs j
theorem NH.below (h : NH w nb bd bb bl pb v lv N lg Y) (hb : Below w.heap.size w w') : NH w' nb bd bb bl pb v lv N lg Y ∧ no w' nb bl pb lv Y = no w nb bl pb lv Y := by
  have e := Rl.own_same (bl := bl) (hb.block bl h.log.lt)
  refine ⟨⟨(hb.block nb h.nlt).trans h.box, h.bal.below hb, h.log.below hb, (hb.block pb h.plt).trans h.prs, h.row.below hb, h.yn, h.yp, fun k hk => h.yl k (by rw [← e]; exact hk), h.yr⟩, ?_⟩
  unfold no; rw [e]
/-- the ballot has turned -/
theorem NH.turnB (h : NH w nb bd bb bl pb v lv N lg Y) {S' : St} {s' : Bl} (hB : BB w' bb bd N.ps.length S' s' Y') (ht : Tu Y Y' w w') :
    NH w' nb bd bb bl pb v lv (N.put S' s') lg Y' ∧ Tu (no w nb bl pb lv Y) (no w' nb bl pb lv Y') w w' := by
  have e := Rl.own_same (bl := bl) (ht.stay h.log.lt (h.yl bl (Or.inl rfl))).1
  refine ⟨⟨(ht.stay h.nlt h.yn).1.trans h.box, hB, h.log.stay fun k hk => (ht.stay (h.log.ownlt hk) (h.yl k hk)).1, (ht.stay h.plt h.yp).1.trans h.prs, h.row.stay fun g hg => (ht.stay (h.rlt hg) (h.yr g hg)).1, (ht.stay h.nlt h.yn).2, (ht.stay h.plt h.yp).2, fun k hk => ?_, fun g hg => (ht.stay (h.rlt hg) (h.yr g hg)).2⟩, Tu.wide ht (fun _ h => Or.inl h) fun k hk => ?_⟩
  · rw [e] at hk
    exact (ht.stay (h.log.ownlt hk) (h.yl k hk)).2
  · rcases hk with hk | hk | hk | hk | hk
    · exact Or.inl hk
    · exact Or.inr (Or.inr (Or.inl hk))
    · exact Or.inr (Or.inr (Or.inr (Or.inl hk)))
    · rw [e] at hk; exact Or.inr (Or.inr (Or.inr (Or.inr (Or.inl hk))))
    · exact Or.inr (Or.inr (Or.inr (Or.inr (Or.inr hk))))
/-- the log has turned -/
theorem NH.turnL (h : NH w nb bd bb bl pb v lv N lg Y) {lg' : List En} {v' : Value} (hL : LH w' bl ⟨0, 0, lg'⟩ v') (ht : Tn bl w w') :
    NH w' nb bd bb bl pb v' lv N lg' Y ∧ Tu (no w nb bl pb lv Y) (no w' nb bl pb lv Y) w w' := by
  have hnew : ∀ k, own w' bl k → own w bl k ∨ w.heap.size ≤ k := fun k hk => by
    rcases hk with rfl | e
    · exact Or.inl (Or.inl rfl)
    · rcases ht.new k e with e | e
      · exact Or.inl (Or.inr e)
      · exact Or.inr e
  have hs : ∀ k, k < w.heap.size → ¬ own w bl k → w'.heap[k]? = w.heap[k]? := fun k hk hn => ht.only.block k hk hn
  refine ⟨⟨(hs nb h.nlt h.nl).trans h.box, bb_frame h.bal ht.only.size fun k hk => hs k (h.bal.lt hk) fun e => h.yl k e hk, hL, (hs pb h.plt h.pl).trans h.prs, h.row.stay fun g hg => hs g (h.rlt hg) (h.rl hg), h.yn, h.yp, fun k hk hy => ?_, h.yr⟩, ⟨ht.only.mono fun _ _ h => Or.inr (Or.inr (Or.inr (Or.inl h))), fun k hk => ?_⟩⟩
  · rcases hnew k hk with e | e
    · exact h.yl k e hy
    · have := h.bal.lt hy; omega
  · rcases hk with hk | hk | hk | hk | hk
    · exact Or.inl (Or.inl hk)
    · exact Or.inl (Or.inr (Or.inl hk))
    · exact Or.inl (Or.inr (Or.inr (Or.inl hk)))
    · rcases hnew k hk with e | e
      · exact Or.inl (Or.inr (Or.inr (Or.inr (Or.inl e))))
      · exact Or.inr e
    · exact Or.inl (Or.inr (Or.inr (Or.inr (Or.inr hk))))
/-- one of a node's own cells is written -/
theorem NH.set (h : NH w nb bd bb bl pb v lv N lg Y) (k : Nat) (x : Value) (N' : Nd) (hc : (ncells N bb bl pb lv).setIfInBounds k x = ncells N' bb bl pb lv) (hS : N'.S = N.S) (hs : N'.s = N.s) (hp : N'.ps = N.ps) (hl : N'.ls = N.ls) :
    NH (w.setCell ⟨nb, k, none⟩ x) nb bd bb bl pb v lv N' lg Y ∧ Tu (no w nb bl pb lv Y) (no (w.setCell ⟨nb, k, none⟩ x) nb bl pb lv Y) w (w.setCell ⟨nb, k, none⟩ x) := by
  have hk : ∀ j, j ≠ nb → (w.setCell ⟨nb, k, none⟩ x).heap[j]? = w.heap[j]? := fun j hj => Below.heap_setCell _ ⟨nb, k, none⟩ _ j hj
  have e := Rl.own_same (bl := bl) (hk bl fun e => h.nl (Or.inl e.symm))
  refine ⟨⟨by rw [block_setCell h.box _, hc], ?_, h.log.stay fun j hj => hk j fun e => h.nl (e ▸ hj), ?_, ?_, h.yn, h.yp, fun j hj => h.yl j (by rw [← e]; exact hj), h.yr⟩, ⟨⟨rfl, rfl, rfl, by simp, fun j _ hn => hk j fun e => hn (Or.inr (Or.inl e))⟩, fun j hj => Or.inl ?_⟩⟩
  · rw [hp, hS, hs]; exact bb_frame h.bal (by simp) fun j hj => hk j fun e => h.yn (e ▸ hj)
  · rw [hp]; exact (hk pb h.np.symm).trans h.prs
  · rw [hl]; exact h.row.stay fun g hg => hk g (h.rn hg)
  · unfold no at hj ⊢; rwa [e] at hj
/-- a peer's cell is written -/
theorem NH.setP (h : NH w nb bd bb bl pb v lv N lg Y) (k : Nat) (x : Value) (ps' : List Pr) (hc : (rc penc N.ps).toArray.setIfInBounds k x = (rc penc ps').toArray) (hn : ps'.length = N.ps.length) :
    NH (w.setCell ⟨pb, k, none⟩ x) nb bd bb bl pb v lv { N with ps := ps' } lg Y ∧ Tu (no w nb bl pb lv Y) (no (w.setCell ⟨pb, k, none⟩ x) nb bl pb lv Y) w (w.setCell ⟨pb, k, none⟩ x) := by
  have hk : ∀ j, j ≠ pb → (w.setCell ⟨pb, k, none⟩ x).heap[j]? = w.heap[j]? := fun j hj => Below.heap_setCell _ ⟨pb, k, none⟩ _ j hj
  have e := Rl.own_same (bl := bl) (hk bl fun e => h.pl (Or.inl e.symm))
  refine ⟨⟨?_, ?_, h.log.stay fun j hj => hk j fun e => h.pl (e ▸ hj), by rw [block_setCell h.prs _, hc], h.row.stay fun g hg => hk g (h.rp hg), h.yn, h.yp, fun j hj => h.yl j (by rw [← e]; exact hj), h.yr⟩, ⟨⟨rfl, rfl, rfl, by simp, fun j _ hn => hk j fun e => hn (Or.inr (Or.inr (Or.inl e)))⟩, fun j hj => Or.inl ?_⟩⟩
  · rw [hk nb h.np, h.box]
    show some (Obj.cells (ncells N bb bl pb lv) NodeT (0, 0)) = some (.cells (ncells { N with ps := ps' } bb bl pb lv) NodeT (0, 0))
    unfold ncells; rw [hn]
  · show BB _ bb bd ps'.length N.S N.s Y
    rw [hn]; exact bb_frame h.bal (by simp) fun j hj => hk j fun e => h.yp (e ▸ hj)
  · unfold no at hj ⊢; rwa [e] at hj
/-- the row of letters is another one -/
theorem NH.setR (h : NH w nb bd bb bl pb v lv N lg Y) {w1 : World} {lv' : Value} {ls' : List Lx} (hr : Row w1 lenc LtrT 2 lv' ls') (hg : w.grownBy w1 lv.ownBlock) (hat : ∀ g, lv'.ownBlock = some g → lv.ownBlock = some g ∨ w.heap.size ≤ g) :
    NH (w1.setCell ⟨nb, 10, none⟩ lv') nb bd bb bl pb v lv' { N with ls := ls' } lg Y ∧ Tu (no w nb bl pb lv Y) (no (w1.setCell ⟨nb, 10, none⟩ lv') nb bl pb lv' Y) w (w1.setCell ⟨nb, 10, none⟩ lv') := by
  have hk1 : ∀ j, j < w.heap.size → lv.ownBlock ≠ some j → w1.heap[j]? = w.heap[j]? := fun j hj hn => hg.block j hj fun e => hn e.symm
  have hk : ∀ j, j < w.heap.size → lv.ownBlock ≠ some j → j ≠ nb → (w1.setCell ⟨nb, 10, none⟩ lv').heap[j]? = w.heap[j]? := fun j hj hn hne => (Below.heap_setCell _ ⟨nb, 10, none⟩ _ j hne).trans (hk1 j hj hn)
  have hb1 : w1.heap[nb]? = some (.cells (ncells N bb bl pb lv) NodeT (0, 0)) := (hk1 nb h.nlt fun e => h.rn e rfl).trans h.box
  have hlg : ∀ k, own w bl k → (w1.setCell ⟨nb, 10, none⟩ lv').heap[k]? = w.heap[k]? := fun k ho => hk k (h.log.ownlt ho) (fun e => h.rl e ho) fun e => h.nl (e ▸ ho)
  have e := Rl.own_same (bl := bl) (hlg bl (Or.inl rfl))
  have hz : w.heap.size ≤ (w1.setCell ⟨nb, 10, none⟩ lv').heap.size := by simpa using hg.size
  refine ⟨⟨by rw [block_setCell hb1 _]; rfl, bb_frame h.bal hz fun j hj => hk j (h.bal.lt hj) (fun e => h.yr j e hj) fun e => h.yn (e ▸ hj), h.log.stay hlg, (hk pb h.plt (fun e => h.rp e rfl) h.np.symm).trans h.prs, hr.stay fun g hg' => Below.heap_setCell _ ⟨nb, 10, none⟩ _ g (Gk.own_ne hr hb1 (by decide) hg'), h.yn, h.yp, fun k ho => h.yl k (by rw [← e]; exact ho), fun g hg' hy => ?_⟩,
    ⟨⟨hg.os, hg.tape, hg.output, hz, fun j hj hn => hk j hj (fun e => hn (Or.inr (Or.inr (Or.inr (Or.inr e))))) fun e => hn (Or.inr (Or.inl e))⟩, fun j hj => ?_⟩⟩
  · rcases hat g hg' with e' | e'
    · exact h.yr g e' hy
    · have := h.bal.lt hy; omega
  · rcases hj with hj | hj | hj | hj | hj
    · exact Or.inl (Or.inl hj)
    · exact Or.inl (Or.inr (Or.inl hj))
    · exact Or.inl (Or.inr (Or.inr (Or.inl hj)))
    · rw [e] at hj; exact Or.inl (Or.inr (Or.inr (Or.inr (Or.inl hj))))
    · rcases hat j hj with e' | e'
      · exact Or.inl (Or.inr (Or.inr (Or.inr (Or.inr e'))))
      · exact Or.inr e'
end
/-- .. wherever its parts lie -/
def ND (w : World) (nb bd : Nat) (N : Nd) (X : Nat → Prop) : Prop := ∃ bb bl pb v lv Y, NH w nb bd bb bl pb v lv N N.s.es Y ∧ X = no w nb bl pb lv Y
section
variable {w w' : World} {nb bd : Nat} {N : Nd} {X : Nat → Prop}
theorem ND.below (h : ND w nb bd N X) (hb : Below w.heap.size w w') : ND w' nb bd N X := by
  obtain ⟨bb, bl, pb, v, lv, Y, h, rfl⟩ := h
  obtain ⟨h1, h2⟩ := h.below hb
  exact ⟨bb, bl, pb, v, lv, Y, h1, h2.symm⟩
theorem ND.lt (h : ND w nb bd N X) {k : Nat} (hk : X k) : k < w.heap.size := by
  obtain ⟨bb, bl, pb, v, lv, Y, h, rfl⟩ := h; exact h.olt hk
theorem ND.nlt (h : ND w nb bd N X) : nb < w.heap.size := by
  obtain ⟨bb, bl, pb, v, lv, Y, h, rfl⟩ := h; exact h.nlt
/-- something else has turned -/
theorem ND.frame (h : ND w nb bd N X) (hz : w.heap.size ≤ w'.heap.size) (hs : ∀ k, X k → w'.heap[k]? = w.heap[k]?) : ND w' nb bd N X := by
  obtain ⟨bb, bl, pb, v, lv, Y, h, rfl⟩ := h
  have hl : ∀ k, own w bl k → w'.heap[k]? = w.heap[k]? := fun k hk => hs k (Or.inr (Or.inr (Or.inr (Or.inl hk))))
  have e := Rl.own_same (bl := bl) (hl bl (Or.inl rfl))
  exact ⟨bb, bl, pb, v, lv, Y, ⟨(hs nb (Or.inr (Or.inl rfl))).trans h.box, bb_frame h.bal hz fun k hk => hs k (Or.inl hk), h.log.stay hl, (hs pb (Or.inr (Or.inr (Or.inl rfl)))).trans h.prs, h.row.stay fun g hg => hs g (Or.inr (Or.inr (Or.inr (Or.inr hg)))), h.yn, h.yp, fun k hk => h.yl k (by rw [← e]; exact hk), h.yr⟩, by unfold no; rw [e]⟩
end
theorem NH.pack {w : World} {nb bd bb bl pb : Nat} {v lv : Value} {N : Nd} {Y : Nat → Prop} (h : NH w nb bd bb bl pb v lv N N.s.es Y) : ND w nb bd N (no w nb bl pb lv Y) := ⟨bb, bl, pb, v, lv, Y, h, rfl⟩
/-- how a call of a node ends -/
abbrev Goes (w w' : World) (nb bd : Nat) (N' : Nd) (X : Nat → Prop) : Prop := ∃ X', ND w' nb bd N' X' ∧ Tu X X' w w'

end Go.Proofs.YtmpahgklcabihaaGreat.Rf

namespace Go.Proofs.YtmpahgklcabihaaGreat.Rf
open Go.RowKit Go.Joins Go.Proofs.YtmpahgklcabihaaGreat.Gk
open Go.Proofs.YtmpahgklcabihaaGreat.Dk (St Bs)
open Go.Proofs.YtmpahgklcabihaaGreat.Rl (En Lo LH ER ptr blk own Tn eenc eenc_len)
open Go.Proofs.YtmpahgklcabihaaGreat.Ba (Bl BB Tu)
open Go.Proofs.YtmpahgklcabihaaGreat.Fd (numF txtF fenc fenc_len fenc_one)

abbrev FdT : TypeId := 120
abbrev FdsT : TypeId := 122
abbrev AskT : TypeId := 148
abbrev VoteT : TypeId := 209
abbrev EntsT : TypeId := 197
abbrev AnsT : TypeId := 212

theorem fown_push {w : World} {B : Nat} {v : Value} {L : List Fld} {n : Nat} (h : w.ownsRow B FdT 3 v n (rc fenc L)) (hn : n = L.length) : w.ownsRow B FdT 3 v L.length (fcells L) := by rw [← hn]; exact h

set_option maxRecDepth 100000 in
set_option maxHeartbeats 2000000 in
theorem numbers_any (a : Option Addr) (cap : Nat) (xs : List Int) (w : World) (hL : Gk.Lies w ienc a xs) (hlen : xs.length ≤ 64) :
    Calls Tryz.prog 284 #[.slice a xs.length cap] w fun e w' => ∃ v, e = .returned v ∧ w'.ownsRow w.heap.size FdT 3 v xs.length (rc fenc (xs.map numF)) ∧ Below w.heap.size w w' := by
  go_enter Tryz.func284, Tryz.ntmps284
  go_wp2
  go_loopw [3, 8] (fun v i wr => ∃ k : Nat, k ≤ xs.length ∧ i = .int .i64 k ∧ wr.ownsRow w.heap.size FdT 3 v k (rc fenc ((xs.take k).map numF)) ∧ Below w.heap.size w wr) (fun _ i _ => xs.length - (intOf i).toNat)
  case atStart => exact ⟨0, by omega, rfl, by simpa [Gk.rc] using World.ownsRow_nil w w.heap.size FdT 3, Below.refl _ _⟩
  case round =>
    obtain ⟨k, hk, rfl, hv, hbel⟩ := hrel
    by_cases hlt : k < xs.length
    · obtain ⟨b, off, rfl, hblt, hc⟩ := (hL.below hbel).at ienc_len k hlt
      have c0 := hc 0 _ rfl
      rw [Nat.mul_one, Nat.add_zero] at c0
      have HT := hide (show (xs.take (k + 1)).map numF = (xs.take k).map numF ++ [numF xs[k]] by
        rw [List.take_succ_eq_append_getElem hlt, List.map_append]; rfl)
      have HTL := hide (show ((xs.take k).map numF).length = k by rw [List.length_map, List.length_take]; omega)
      generalize xs[k] = x at *
      generalize (xs.take k).map numF = T at *
      have i1 : (0 : Int) ≤ (k : Int) := by omega
      have i2 : (k : Int) < (xs.length : Int) := by omega
      clear hc
      go_wp2_with fail
      refine (Fd.number_op x wr).mono ?_
      rintro e w2 ⟨rfl, hb2⟩
      have hv2 := Gk.own_below hv hb2
      have hbel2 := hbel.trans (hb2.mono hbel.size)
      have hz2 := hbel2.size
      have hg2 := hv2.lt
      clear hb2 c0 hv hbel
      go_wp2_with (at_builtin; refine Gk.wpList_push (enc := fenc) (k := 3) rfl (.tmp 12) (.tmp 15) FdsT rfl FdT (.agg #[.bool false, .int .i64 0, .string ⟨#[]⟩]) 32 Tryz.underlying122 field_info rfl (by decide) fenc_len fenc_one w.heap.size _ T rfl (Gk.own_below (by rw [HTL.out]; exact hv2) (below_alloc1 w2 _)) w2.heap.size (numF x) rfl (heap_alloc_new w2 _) ?c1 ?c2 ?c3 ?_)
      case c1 => have := HTL.out; omega
      case c2 => have := HTL.out; omega
      case c3 => simp; omega
      intro v' w3 hv3 hg3 hat3
      have hb3 : Below w.heap.size w w3 := (hbel2.alloc hz2 _).grown hg3 (by simp; omega) (fun k hk => (hg2 k hk).1)
      clear hv2 hbel2 hg3 hat3
      go_wp2
      go_roundw
      case rel => exact ⟨k + 1, by omega, by go_num, by rw [HT.out]; rw [HTL.out] at hv3; exact hv3, hb3⟩
      case measure => simp [intOf]; omega
    · obtain rfl : k = xs.length := by omega
      rw [List.take_length] at hv
      go_wp2
      go_ret
      exact ⟨_, rfl, hv, hbel⟩

theorem oneIf_any (b : Bool) (w : World) : Calls Tryz.prog 127 #[.bool b] w fun e w' => e = .returned (.int .i64 (b2i b)) ∧ w' = w := by
  cases b
  · go_enter Tryz.func127, Tryz.ntmps127
    go_wp2
    go_ret
    exact ⟨rfl, rfl⟩
  · go_enter Tryz.func127, Tryz.ntmps127
    go_wp2
    go_ret
    exact ⟨rfl, rfl⟩

/-- a letter's value -/
inductive LV (w : World) : Lt → Value → Prop where
  | ask (t l lt : Int) : LV w (.ask t l lt) (.iface AskT (.agg #[.int .i64 t, .int .i64 l, .int .i64 lt]))
  | vote (t : Int) (g : Bool) : LV w (.vote t g) (.iface VoteT (.agg #[.int .i64 t, .bool g]))
  | ents (t p pt c : Int) (es : List En) (a : Option Addr) (cap : Nat) (h : Gk.Lies w eenc a es) : LV w (.ents t p pt c es) (.iface EntsT (.agg #[.int .i64 t, .int .i64 p, .int .i64 pt, .int .i64 c, .slice a es.length cap]))
  | ans (t : Int) (g : Bool) (n : Int) : LV w (.ans t g n) (.iface AnsT (.agg #[.int .i64 t, .bool g, .int .i64 n]))

theorem new_ints (w : World) (xs : List Int) : Gk.Lies (w.alloc (.cells (rc ienc xs).toArray 3)) ienc (some ⟨w.heap.size, 0, none⟩) xs :=
  Or.inr ⟨w.heap.size, 0, rfl, by simp, fun j u hj => by rw [cell_of_block (heap_alloc_new w _), Nat.zero_add]; simpa using hj⟩

/-- numbers of a row that was made for the call -/
theorem numbers_at (xs : List Int) (hlen : xs.length ≤ 64) (n : Nat) (hn : n = xs.length) (cs : Array Value) (hcs : cs = (rc ienc xs).toArray) (L : List Fld) (hL : L = xs.map numF) (W : World) (g : Nat) (hg : W.heap[g]? = some (.cells cs 3 (0, 0))) :
    Calls Tryz.prog 284 #[.slice (some ⟨g, 0, none⟩) n n] W fun e w' => ∃ v, e = .returned v ∧ w'.ownsRow W.heap.size FdT 3 v n (rc fenc L) ∧ Below W.heap.size W w' := by
  subst hn hcs hL
  exact numbers_any (some ⟨g, 0, none⟩) xs.length xs _ (Or.inr ⟨g, 0, rfl, (Array.getElem?_eq_some_iff.1 hg).1, fun j u hj => by rw [cell_of_block hg, Nat.zero_add]; simpa using hj⟩) hlen

end Go.Proofs.YtmpahgklcabihaaGreat.Rf

namespace Go.Proofs.YtmpahgklcabihaaGreat.Rf
open Go.RowKit Go.Joins Go.Proofs.YtmpahgklcabihaaGreat.Gk
open Go.Proofs.YtmpahgklcabihaaGreat.Dk (St Bs)
open Go.Proofs.YtmpahgklcabihaaGreat.Rl (En Lo LH ER ptr blk own Tn eenc eenc_len)
open Go.Proofs.YtmpahgklcabihaaGreat.Ba (Bl BB Tu Es)
open Go.Proofs.YtmpahgklcabihaaGreat.Fd (numF txtF fenc fenc_len fenc_one Rd RdH RdL One number_rd text_rd isDone_rd)

abbrev RdrT : TypeId := 162
set_option maxRecDepth 100000 in
set_option maxHeartbeats 1000000 in
theorem within_rd (S : Rd) (a b : Int) (br : Nat) (w : World) (h : RdH w br S) :
    Calls Tryz.prog 136 #[ptr br, .int .i64 a, .int .i64 b] w fun e w' => e = .returned (.int .i64 (wi S a b).1) ∧ RdH w' br (wi S a b).2 ∧ One br w w' := by
  have HN := hide (number_rd S br w h)
  unfold wi
  clear h
  obtain ⟨⟨x, S1⟩, hx⟩ : ∃ y, S.num = y := ⟨_, rfl⟩
  rw [hx] at HN ⊢
  clear hx
  dsimp only at HN ⊢
  by_cases h1 : x < a
  · rw [if_pos (Or.inl h1)]
    go_enter Tryz.func136, Tryz.ntmps136
    go_wp2_with fail
    refine HN.out.mono ?_
    rintro e w1 ⟨rfl, ⟨ad, c, hL⟩, hO⟩
    have c1 := hL.c1
    have z1 := hL.fz 1
    have HS := hide (RdL.spoilt hL)
    clear hL
    go_wp2
    go_ret
    exact ⟨rfl, ⟨ad, c, HS.out⟩, hO.trans (Fd.One.set w1 br 1 _)⟩
  · by_cases h2 : b < x
    · rw [if_pos (Or.inr h2)]
      go_enter Tryz.func136, Tryz.ntmps136
      go_wp2_with fail
      refine HN.out.mono ?_
      rintro e w1 ⟨rfl, ⟨ad, c, hL⟩, hO⟩
      have c1 := hL.c1
      have z1 := hL.fz 1
      have HS := hide (RdL.spoilt hL)
      clear hL
      go_wp2
      go_ret
      exact ⟨rfl, ⟨ad, c, HS.out⟩, hO.trans (Fd.One.set w1 br 1 _)⟩
    · rw [if_neg (by omega)]
      go_enter Tryz.func136, Tryz.ntmps136
      go_wp2_with fail
      refine HN.out.mono ?_
      rintro e w1 ⟨rfl, hR, hO⟩
      go_wp2
      go_ret
      exact ⟨rfl, hR, hO⟩

set_option maxRecDepth 100000 in
set_option maxHeartbeats 1000000 in
theorem term_rd (S : Rd) (br : Nat) (w : World) (h : RdH w br S) :
    Calls Tryz.prog 90 #[.agg #[ptr br]] w fun e w' => e = .returned (.int .i64 (rTerm S).1) ∧ RdH w' br (rTerm S).2 ∧ One br w w' := by
  have hb0 : Below w.heap.size w (w.alloc (.cells #[ptr br] RdrT)) := (Below.refl _ _).alloc (Nat.le_refl _) _
  have HW := hide (fun a b => within_rd S a b br _ (h.below hb0))
  have HB := hide hb0
  clear hb0
  go_enter Tryz.func90, Tryz.ntmps90
  go_wp2_with fail
  refine (HW.out _ _).mono ?_
  rintro e w1 ⟨rfl, hR, hO⟩
  go_wp2
  go_ret
  exact ⟨by first | rfl | (unfold rOne; congr 2; rw [Bool.eq_iff_iff]; simp), hR, (Fd.One.of_below HB.out).trans hO⟩
set_option maxRecDepth 100000 in
set_option maxHeartbeats 1000000 in
theorem number_rd (S : Rd) (br : Nat) (w : World) (h : RdH w br S) :
    Calls Tryz.prog 132 #[.agg #[ptr br]] w fun e w' => e = .returned (.int .i64 (rNum S).1) ∧ RdH w' br (rNum S).2 ∧ One br w w' := by
  have hb0 : Below w.heap.size w (w.alloc (.cells #[ptr br] RdrT)) := (Below.refl _ _).alloc (Nat.le_refl _) _
  have HW := hide (fun a b => within_rd S a b br _ (h.below hb0))
  have HB := hide hb0
  clear hb0
  go_enter Tryz.func132, Tryz.ntmps132
  go_wp2_with fail
  refine (HW.out _ _).mono ?_
  rintro e w1 ⟨rfl, hR, hO⟩
  go_wp2
  go_ret
  exact ⟨by first | rfl | (unfold rOne; congr 2; rw [Bool.eq_iff_iff]; simp), hR, (Fd.One.of_below HB.out).trans hO⟩
set_option maxRecDepth 100000 in
set_option maxHeartbeats 1000000 in
theorem isOne_rd (S : Rd) (br : Nat) (w : World) (h : RdH w br S) :
    Calls Tryz.prog 133 #[.agg #[ptr br]] w fun e w' => e = .returned (.bool (rOne S).1) ∧ RdH w' br (rOne S).2 ∧ One br w w' := by
  have hb0 : Below w.heap.size w (w.alloc (.cells #[ptr br] RdrT)) := (Below.refl _ _).alloc (Nat.le_refl _) _
  have HW := hide (fun a b => within_rd S a b br _ (h.below hb0))
  have HB := hide hb0
  clear hb0
  go_enter Tryz.func133, Tryz.ntmps133
  go_wp2_with fail
  refine (HW.out _ _).mono ?_
  rintro e w1 ⟨rfl, hR, hO⟩
  go_wp2
  go_ret
  exact ⟨by first | rfl | (unfold rOne; congr 2; rw [Bool.eq_iff_iff]; simp), hR, (Fd.One.of_below HB.out).trans hO⟩
set_option maxRecDepth 100000 in
set_option maxHeartbeats 1000000 in
theorem count_rd (S : Rd) (b : Int) (br : Nat) (w : World) (h : RdH w br S) :
    Calls Tryz.prog 179 #[ptr br, .int .i64 b] w fun e w' => e = .returned (.int .i64 (wi S 0 b).1) ∧ RdH w' br (wi S 0 b).2 ∧ One br w w' := by
  have HW := hide (within_rd S 0 b br w h)
  go_enter Tryz.func179, Tryz.ntmps179
  go_wp2_with fail
  refine HW.out.mono ?_
  rintro e w1 ⟨rfl, hR, hO⟩
  go_wp2
  go_ret
  exact ⟨rfl, hR, hO⟩
end Go.Proofs.YtmpahgklcabihaaGreat.Rf

namespace Go.Proofs.YtmpahgklcabihaaGreat.Rf
open Go.RowKit Go.Joins Go.Proofs.YtmpahgklcabihaaGreat.Gk
open Go.Proofs.YtmpahgklcabihaaGreat.Dk (St Bs)
open Go.Proofs.YtmpahgklcabihaaGreat.Rl (En Lo LH ER ptr blk own Tn eenc eenc_len)
open Go.Proofs.YtmpahgklcabihaaGreat.Ba (Bl BB Tu Es)
open Go.Proofs.YtmpahgklcabihaaGreat.Fd (numF txtF fenc fenc_len fenc_one Rd RdH RdL One number_rd text_rd isDone_rd)

theorem rEns_snoc : ∀ (k : Nat) (S : Rd) (l : List En), rEns (k + 1) S l = ((rEns k S l).1 ++ [(rEn (rEns k S l).2).1], (rEn (rEns k S l).2).2)
  | 0, _, _ => rfl
  | k + 1, S, l => by rw [rEns, rEns_snoc k]; rfl
theorem rEns_len : ∀ (k : Nat) (S : Rd) (l : List En), (rEns k S l).1.length = l.length + k
  | 0, _, _ => rfl
  | k + 1, S, l => by rw [rEns, rEns_len k, List.length_append]; simp; omega
theorem wi_rng (S : Rd) (b : Int) (h : 0 ≤ b) : 0 ≤ (wi S 0 b).1 ∧ (wi S 0 b).1 ≤ b := by
  unfold wi; split
  · exact ⟨Int.le_refl _, h⟩
  · omega
theorem rd_over {w w' : World} {br : Nat} {S : Rd} (h : RdH w br S) (hz : w.heap.size ≤ w'.heap.size) (hk : ∀ k, k ≤ br → w'.heap[k]? = w.heap[k]?) : RdH w' br S := Fd.RdH.over h hz hk

/-- the reader's box, and a row of entries -/
structure SE (b1 br : Nat) (w : World) (v : Value) (l : List En) (W : World) : Prop where
  c : W.cell? ⟨b1, 0, none⟩ = some (ptr br)
  lt : b1 < W.heap.size
  n1 : b1 ≠ br
  nb : br < w.heap.size
  row : W.ownsRow w.heap.size 66 2 v l.length (rc eenc l)
  one : One br w W
  ne : some b1 ≠ v.ownBlock
section
variable {b1 br : Nat} {w : World} {v : Value} {l : List En} {a b : World}
theorem SE.call (hO : One br a b) (h : SE b1 br w v l a) : SE b1 br w v l b :=
  ⟨(World.cell?_of_block (a := ⟨b1, 0, none⟩) (hO.block b1 h.lt h.n1)).trans h.c, Nat.lt_of_lt_of_le h.lt hO.size, h.n1, h.nb, Gk.own_stay h.row fun g hg => hO.block g (h.row.lt g hg).2 (fun e => by have := (h.row.lt g hg).1; have := h.nb; omega), h.one.trans hO, h.ne⟩
theorem SE.below (hb : Below a.heap.size a b) (h : SE b1 br w v l a) : SE b1 br w v l b := h.call (Fd.One.of_below hb)
theorem SE.drew (h : SE b1 br w v l a) : SE b1 br w v l a.drew := h.below ((Below.refl _ _).drew)
theorem SE.alloc (h : SE b1 br w v l a) (o : Obj) : SE b1 br w v l (a.alloc o) := h.below ((Below.refl _ _).alloc (Nat.le_refl _) o)
theorem SE.app (hg : a.grownBy b v.ownBlock) (ho : b.ownsRow w.heap.size 66 2 v l.length (rc eenc l)) (h : SE b1 br w v l a) : SE b1 br w v l b :=
  ⟨(World.cell?_of_block (a := ⟨b1, 0, none⟩) (hg.block b1 h.lt h.ne)).trans h.c, Nat.lt_of_lt_of_le h.lt hg.size, h.n1, h.nb, ho,
    ⟨hg.os.trans h.one.os, hg.tape.trans h.one.tape, hg.output.trans h.one.output, Nat.le_trans h.one.size hg.size, fun k hk hn => (hg.block k (Nat.lt_of_lt_of_le hk h.one.size) fun e => by have := (h.row.lt k e.symm).1; omega).trans (h.one.block k hk hn)⟩, h.ne⟩
theorem SE.room (h : SE b1 br w v l a) : w.heap.size ≤ a.heap.size := h.one.size
end
abbrev SEp (b1 br : Nat) (w : World) (v : Value) (l : List En) (W : World) : Prop := (W.cell? ⟨b1, 0, none⟩ = some (ptr br)) ∧ SE b1 br w v l W
theorem SEp.of {b1 br : Nat} {w : World} {v : Value} {l : List En} {W : World} (h : SE b1 br w v l W) : SEp b1 br w v l W := ⟨h.c, h⟩

set_option maxRecDepth 100000 in
set_option maxHeartbeats 4000000 in
theorem entries_rd (S : Rd) (br : Nat) (w : World) (h : RdH w br S) :
    Calls Tryz.prog 134 #[.agg #[ptr br]] w fun e w' => ∃ a cap, e = .returned (.slice a (rEnts S).1.length cap) ∧ Gk.Lies w' eenc a (rEnts S).1 ∧ (∀ b off, a = some ⟨b, off, none⟩ → w.heap.size ≤ b) ∧ RdH w' br (rEnts S).2 ∧ One br w w' := by
  obtain ⟨W, hW⟩ : ∃ W, w.alloc (.cells #[ptr br] RdrT) = W := ⟨_, rfl⟩
  have hb0 : Below w.heap.size w W := by rw [← hW]; exact (Below.refl _ _).alloc (Nat.le_refl _) _
  have hx : W.heap[w.heap.size]? = some (.cells #[ptr br] RdrT (0, 0)) := by rw [← hW]; exact heap_alloc_new w _
  have hz : w.heap.size < W.heap.size := (Array.getElem?_eq_some_iff.1 hx).1
  have x0 := cell_of_block hx 0
  have hbr := h.lt
  have HC := hide (count_rd S 4096 br W (h.below hb0))
  have HRG := hide (wi_rng S 4096 (by decide))
  unfold rEnts
  clear hx h
  obtain ⟨⟨n, S1⟩, hn⟩ : ∃ y, wi S 0 4096 = y := ⟨_, rfl⟩
  rw [hn] at HC HRG ⊢
  dsimp only at HC HRG ⊢
  obtain ⟨m, rfl⟩ : ∃ m : Nat, n = m := ⟨n.toNat, by have := HRG.out.1; omega⟩
  have hm : m ≤ 4096 := by have := HRG.out.2; omega
  rw [Int.toNat_natCast]
  clear hn HRG
  go_enter Tryz.func134, Tryz.ntmps134
  go_wp2_with fail
  refine HC.out.mono ?_
  clear HC
  rintro e w1 ⟨rfl, hr1, hO1⟩
  have y0 : w1.cell? ⟨w.heap.size, 0, none⟩ = some (ptr br) := (World.cell?_of_block (a := ⟨w.heap.size, 0, none⟩) (hO1.block w.heap.size hz (by omega))).trans x0
  have hz1 : w.heap.size < w1.heap.size := Nat.lt_of_lt_of_le hz hO1.size
  have hOw := (Fd.One.of_below hb0).trans hO1
  have hS0 : SE w.heap.size br w (.slice none 0 0) [] w1 := ⟨y0, hz1, by omega, hbr, by simpa [Gk.rc] using World.ownsRow_nil w1 w.heap.size 66 2, hOw, by simp [Value.ownBlock]⟩
  clear hW hb0 x0 hz hO1 y0 hOw
  go_wp2
  go_loopw [3, 7] (fun v i wr => ∃ k : Nat, k ≤ m ∧ i = .int .i64 k ∧ SE w.heap.size br w v (rEns k S1 []).1 wr ∧ RdH wr br (rEns k S1 []).2) (fun _ i _ => m - (intOf i).toNat)
  case atStart => exact ⟨0, by omega, rfl, hS0, hr1⟩
  case round =>
    clear hS0 hr1
    obtain ⟨k, hk, rfl, hS, hr⟩ := hrel
    by_cases hlt : k < m
    · have HT := hide (rEns_snoc k S1 [])
      have HL := hide (show (rEns k S1 []).1.length = k by rw [rEns_len]; simp)
      generalize rEns k S1 [] = R at *
      obtain ⟨T, Sk⟩ := R
      dsimp only at hS hr HT HL
      have i1 : (0 : Int) ≤ (k : Int) := by omega
      have i2 : (k : Int) < (m : Int) := by omega
      have HR0 := hide hr
      have HN := hide hS.row
      have hSp := SEp.of hS
      obtain ⟨V, rfl⟩ : ∃ V : Value, V = u3 := ⟨_, rfl⟩
      have hrel4 := hS.lt
      clear hr hS
      go_upto_region 4 with fail
      go_region_held3 (SEp w.heap.size br w V T) (first | with_reducible exact SEp.of (SE.drew (And.right (by assumption))) | with_reducible exact SEp.of (SE.call (by assumption) (And.right (by assumption))) | with_reducible exact SEp.of (SE.alloc (And.right (by assumption)) _) | with_reducible exact SEp.of (SE.drew (SE.alloc (And.right (by assumption)) _)) | with_reducible exact SEp.of (SE.app (by assumption) (by assumption) (And.right (by assumption))) | with_reducible assumption)
        (first | (go_at_call 90; refine (term_rd Sk br _ (by first | exact HR0.out | exact HR0.out.below (Below.refl _ _).drew)).mono ?_; rintro e w3 ⟨rfl, hr3, hO3⟩) | (go_at_call 180; refine (text_rd _ br _ (by first | exact hr3 | exact hr3.below (Below.refl _ _).drew)).mono ?_; rintro e w4 ⟨rfl, hr4, hO4⟩) | (refine step_append_keep (enc := eenc) rfl (.tmp 9) (.tmp 16) 53 rfl 66 _ 24 Tryz.underlying53 Rl.en_info rfl (by decide) eenc_len Rl.eenc_one w.heap.size V T rfl (SE.row (And.right (by assumption))) _ 0 [⟨(rTerm Sk).1, ((rTerm Sk).2.txt).1⟩] 1 1 rfl rfl (Fd.new_cells _ (rc eenc [⟨(rTerm Sk).1, ((rTerm Sk).2.txt).1⟩]) _) (by have := HL.out; simp only [List.length_cons, List.length_nil]; omega) (by have := HL.out; simp only [List.length_cons, List.length_nil]; omega) (SE.room (And.right (by assumption))) ?_; intro ad5 cap5 w5 hown5 hg5 hk5 hat5))
      have hf : SEp w.heap.size br w V T w5 := by assumption
      have hVb : ∀ g, V.ownBlock = some g → w.heap.size ≤ g := fun g hg => (HN.out.lt g hg).1
      have hbr := hf.2.nb
      have hlt4 := hr4.lt
      have hrd5 : RdH w5 br ((rTerm Sk).2.txt).2 := rd_over hr4 (Nat.le_trans (by simp) hg5.size) fun k hk => by
        rw [hg5.block k (by simp; omega) fun e => by have := hVb k e.symm; omega, heap_alloc_old _ _ (by omega)]
      have hne5 : some w.heap.size ≠ (Value.slice ad5 (T.length + 1) cap5).ownBlock := fun e => by
        rcases hat5 w.heap.size e.symm with e' | e'
        · exact hf.2.ne e'.symm
        · have h3 := hO3.size; have h4 := hO4.size; simp at e' h3 h4; omega
      have hown5' : w5.ownsRow w.heap.size 66 2 (.slice ad5 (T.length + 1) cap5) (T ++ [(rEn Sk).1]).length (rc eenc (T ++ [(rEn Sk).1])) := hown5
      go_wp2
      go_roundw
      case rel => exact ⟨k + 1, by omega, by go_num, by rw [HT.out]; exact ⟨hf.2.c, hf.2.lt, hf.2.n1, hf.2.nb, hown5', hf.2.one, hne5⟩, by rw [HT.out]; exact hrd5⟩
      case measure => simp [intOf]; omega
    · obtain rfl : k = m := by omega
      obtain ⟨a, cap, rfl⟩ := Gk.own_slice hS.row
      have hl : Gk.Lies wr eenc a (rEns k S1 []).1 := Row.lies (n := (rEns k S1 []).1.length) (cap := cap) (e := 66) (k := 2) (Gk.own_mono hS.row (Nat.zero_le _))
      have hnw : ∀ b off, a = some ⟨b, off, none⟩ → w.heap.size ≤ b := fun b off e => (hS.row.lt b (by rw [e]; rfl)).1
      have hone := hS.one
      clear hS
      go_wp2
      go_ret
      exact ⟨a, cap, rfl, hl, hnw, hr, hone⟩
end Go.Proofs.YtmpahgklcabihaaGreat.Rf

namespace Go.Proofs.YtmpahgklcabihaaGreat.Rf
open Go.RowKit Go.Joins Go.Proofs.YtmpahgklcabihaaGreat.Gk
open Go.Proofs.YtmpahgklcabihaaGreat.Dk (St Bs)
open Go.Proofs.YtmpahgklcabihaaGreat.Rl (En Lo LH ER ptr blk own Tn eenc eenc_len)
open Go.Proofs.YtmpahgklcabihaaGreat.Ba (Bl BB Tu Es)
open Go.Proofs.YtmpahgklcabihaaGreat.Fd (numF txtF fenc fenc_len fenc_one Rd RdH RdL One number_rd text_rd isDone_rd)

/-- in which block a letter's entries lie -/
def lblk : Value → Option Nat
  | .iface _ (.agg cs) => match (cs[4]? : Option Value) with
    | some (.slice (some ⟨b, _, none⟩) _ _) => some b
    | _ => none
  | _ => none
/-- the two boxes of letter -/
structure SL (b1 b2 br : Nat) (t : Int) (w : World) (W : World) : Prop where
  c1 : W.cell? ⟨b1, 0, none⟩ = some (ptr br)
  c2 : W.cell? ⟨b2, 0, none⟩ = some (.int .i64 t)
  l1 : b1 < W.heap.size
  l2 : b2 < W.heap.size
  n1 : b1 ≠ br
  n2 : b2 ≠ br
  one : One br w W
section
variable {b1 b2 br : Nat} {t : Int} {w a b : World}
theorem SL.call (hO : One br a b) (h : SL b1 b2 br t w a) : SL b1 b2 br t w b :=
  ⟨(World.cell?_of_block (a := ⟨b1, 0, none⟩) (hO.block b1 h.l1 h.n1)).trans h.c1, (World.cell?_of_block (a := ⟨b2, 0, none⟩) (hO.block b2 h.l2 h.n2)).trans h.c2, Nat.lt_of_lt_of_le h.l1 hO.size, Nat.lt_of_lt_of_le h.l2 hO.size, h.n1, h.n2, h.one.trans hO⟩
theorem SL.drew (h : SL b1 b2 br t w a) : SL b1 b2 br t w a.drew := h.call (Fd.One.of_below (Below.refl _ _).drew)
theorem SL.alloc (h : SL b1 b2 br t w a) (o : Obj) : SL b1 b2 br t w (a.alloc o) := h.call (Fd.One.of_below ((Below.refl _ _).alloc (Nat.le_refl _) o))
theorem SL.start (br : Nat) (t : Int) (w : World) (h : br < w.heap.size) : SL w.heap.size (w.heap.size + 1) br t w ((w.alloc (.cells #[ptr br] RdrT)).alloc (.cells #[.int .i64 t] 145)) := by
  have hb : Below w.heap.size w ((w.alloc (.cells #[ptr br] RdrT)).alloc (.cells #[.int .i64 t] 145)) := ((Below.refl _ _).alloc (Nat.le_refl _) _).alloc (by simp) _
  refine ⟨?_, ?_, by simp; omega, by simp, by omega, by omega, Fd.One.of_below hb⟩
  · rw [cell_of_block (by rw [heap_alloc_old _ _ (by simp)]; exact heap_alloc_new w _)]; rfl
  · have e := heap_alloc_new (w.alloc (.cells #[ptr br] RdrT)) (.cells #[.int .i64 t] 145)
    rw [show (w.alloc (.cells #[ptr br] RdrT)).heap.size = w.heap.size + 1 by simp] at e
    rw [cell_of_block e]; rfl
end
abbrev SLp (b1 b2 br : Nat) (t : Int) (w : World) (W : World) : Prop := (W.cell? ⟨b1, 0, none⟩ = some (ptr br) ∧ W.cell? ⟨b2, 0, none⟩ = some (.int .i64 t)) ∧ SL b1 b2 br t w W
theorem SLp.of {b1 b2 br : Nat} {t : Int} {w W : World} (h : SL b1 b2 br t w W) : SLp b1 b2 br t w W := ⟨⟨h.c1, h.c2⟩, h⟩

set_option maxRecDepth 100000 in
set_option maxHeartbeats 4000000 in
theorem letter1 (S : Rd) (t : Int) (br : Nat) (w : World) (h : RdH w br S) :
    Calls Tryz.prog 88 #[.agg #[ptr br], .int .i64 1, .agg #[.int .i64 t]] w fun e w' => ∃ u x, e = .returned (.tuple #[u, .bool true]) ∧ (rLt S 1 t).1 = some x ∧ LV w' x u ∧ (∀ b, lblk u = some b → w.heap.size ≤ b) ∧ RdH w' br (rLt S 1 t).2 ∧ One br w w' := by
  rw [rLt1]
  have hS := SLp.of (SL.start br t w h.lt)
  obtain ⟨W, hW⟩ : ∃ W, W = ((w.alloc (.cells #[ptr br] RdrT)).alloc (.cells #[.int .i64 t] 145)) := ⟨_, rfl⟩
  have H0 := hide (h.below (w' := W) (by rw [hW]; exact ((Below.refl _ _).alloc (Nat.le_refl _) _).alloc (by simp) _))
  rw [← hW] at hS
  have HWZ := hide (show w.heap.size ≤ W.heap.size by rw [hW]; simp; omega)
  clear h
  go_enter Tryz.func88, Tryz.ntmps88
  go_upto_region 3 with fail
  rw [← hW]
  clear hW
  go_region_held3 (SLp w.heap.size (w.heap.size + 1) br t w) (first | with_reducible exact SLp.of (SL.drew (And.right (by assumption))) | with_reducible exact SLp.of (SL.call (by assumption) (And.right (by assumption))) | with_reducible exact SLp.of (SL.alloc (And.right (by assumption)) _) | with_reducible assumption)
    (first | (go_at_call 132; refine (number_rd _ br _ (by first | exact H0.out | exact H0.out.below (Below.refl _ _).drew)).mono ?_; rintro e w3 ⟨rfl, hr3, hO3⟩) | (go_at_call 132; refine (number_rd _ br _ (by first | exact hr3 | exact hr3.below (Below.refl _ _).drew)).mono ?_; rintro e w4 ⟨rfl, hr4, hO4⟩))
  all_goals
    have hf : SLp w.heap.size (w.heap.size + 1) br t w w4 := by assumption
    have hone := hf.2.one
    go_wp2
    go_ret2
    exact ⟨_, _, rfl, rfl, .ask _ _ _, (fun b h => by have h' : (none : Option Nat) = some b := h; cases h'), hr4, hone⟩

set_option maxRecDepth 100000 in
set_option maxHeartbeats 4000000 in
theorem letter2 (S : Rd) (t : Int) (br : Nat) (w : World) (h : RdH w br S) :
    Calls Tryz.prog 88 #[.agg #[ptr br], .int .i64 2, .agg #[.int .i64 t]] w fun e w' => ∃ u x, e = .returned (.tuple #[u, .bool true]) ∧ (rLt S 2 t).1 = some x ∧ LV w' x u ∧ (∀ b, lblk u = some b → w.heap.size ≤ b) ∧ RdH w' br (rLt S 2 t).2 ∧ One br w w' := by
  rw [rLt2]
  have hS := SLp.of (SL.start br t w h.lt)
  obtain ⟨W, hW⟩ : ∃ W, W = ((w.alloc (.cells #[ptr br] RdrT)).alloc (.cells #[.int .i64 t] 145)) := ⟨_, rfl⟩
  have H0 := hide (h.below (w' := W) (by rw [hW]; exact ((Below.refl _ _).alloc (Nat.le_refl _) _).alloc (by simp) _))
  rw [← hW] at hS
  have HWZ := hide (show w.heap.size ≤ W.heap.size by rw [hW]; simp; omega)
  clear h
  go_enter Tryz.func88, Tryz.ntmps88
  go_upto_region 5 with fail
  rw [← hW]
  clear hW
  go_region_held3 (SLp w.heap.size (w.heap.size + 1) br t w) (first | with_reducible exact SLp.of (SL.drew (And.right (by assumption))) | with_reducible exact SLp.of (SL.call (by assumption) (And.right (by assumption))) | with_reducible exact SLp.of (SL.alloc (And.right (by assumption)) _) | with_reducible assumption)
    (first | (go_at_call 133; refine (isOne_rd _ br _ (by first | exact H0.out | exact H0.out.below (Below.refl _ _).drew)).mono ?_; rintro e w3 ⟨rfl, hr3, hO3⟩))
  all_goals
    have hf : SLp w.heap.size (w.heap.size + 1) br t w w3 := by assumption
    have hone := hf.2.one
    go_wp2
    go_ret2
    exact ⟨_, _, rfl, rfl, .vote _ _, (fun b h => by have h' : (none : Option Nat) = some b := h; cases h'), hr3, hone⟩

set_option maxRecDepth 100000 in
set_option maxHeartbeats 4000000 in
theorem letter3 (S : Rd) (t : Int) (br : Nat) (w : World) (h : RdH w br S) :
    Calls Tryz.prog 88 #[.agg #[ptr br], .int .i64 3, .agg #[.int .i64 t]] w fun e w' => ∃ u x, e = .returned (.tuple #[u, .bool true]) ∧ (rLt S 3 t).1 = some x ∧ LV w' x u ∧ (∀ b, lblk u = some b → w.heap.size ≤ b) ∧ RdH w' br (rLt S 3 t).2 ∧ One br w w' := by
  rw [rLt3]
  have hS := SLp.of (SL.start br t w h.lt)
  obtain ⟨W, hW⟩ : ∃ W, W = ((w.alloc (.cells #[ptr br] RdrT)).alloc (.cells #[.int .i64 t] 145)) := ⟨_, rfl⟩
  have H0 := hide (h.below (w' := W) (by rw [hW]; exact ((Below.refl _ _).alloc (Nat.le_refl _) _).alloc (by simp) _))
  rw [← hW] at hS
  have HWZ := hide (show w.heap.size ≤ W.heap.size by rw [hW]; simp; omega)
  clear h
  go_enter Tryz.func88, Tryz.ntmps88
  go_upto_region 7 with fail
  rw [← hW]
  clear hW
  go_region_held3 (SLp w.heap.size (w.heap.size + 1) br t w) (first | with_reducible exact SLp.of (SL.drew (And.right (by assumption))) | with_reducible exact SLp.of (SL.call (by assumption) (And.right (by assumption))) | with_reducible exact SLp.of (SL.alloc (And.right (by assumption)) _) | with_reducible assumption)
    (first | (go_at_call 132; refine (number_rd _ br _ (by first | exact H0.out | exact H0.out.below (Below.refl _ _).drew)).mono ?_; rintro e w3 ⟨rfl, hr3, hO3⟩) | (go_at_call 132; refine (number_rd _ br _ (by first | exact hr3 | exact hr3.below (Below.refl _ _).drew)).mono ?_; rintro e w4 ⟨rfl, hr4, hO4⟩) | (go_at_call 132; refine (number_rd _ br _ (by first | exact hr4 | exact hr4.below (Below.refl _ _).drew)).mono ?_; rintro e w5 ⟨rfl, hr5, hO5⟩) | (go_at_call 134; refine (entries_rd _ br _ (by first | exact hr5 | exact hr5.below (Below.refl _ _).drew)).mono ?_; rintro e w6 ⟨a6, cap6, rfl, hl6, hn6, hr6, hO6⟩))
  all_goals
    have hf : SLp w.heap.size (w.heap.size + 1) br t w w6 := by assumption
    have hone := hf.2.one
    have HNB := hide (show ∀ (T : TypeId) (x0 x1 x2 x3 : Value) (b : Nat), lblk (.iface T (.agg #[x0, x1, x2, x3, .slice a6 (rEnts (rNum (rNum (rNum S).2).2).2).1.length cap6])) = some b → w.heap.size ≤ b from fun T x0 x1 x2 x3 b h => by
      have hw3 := hO3.size
      have hw4 := hO4.size
      have hw5 := hO5.size
      cases a6 with
      | none => cases h
      | some ad =>
        obtain ⟨bk, off, ix⟩ := ad
        cases ix with
        | none =>
          have e : bk = b := by simpa [lblk] using h
          have := hn6 bk off rfl
          simp at this hw3 hw4 hw5
          have hwW := HWZ.out
          omega
        | some i => cases h)
    go_wp2
    go_ret2
    exact ⟨_, _, rfl, rfl, .ents _ _ _ _ _ _ _ hl6, fun b h => HNB.out _ _ _ _ _ b h, hr6, hone⟩

set_option maxRecDepth 100000 in
set_option maxHeartbeats 4000000 in
theorem letter4 (S : Rd) (t : Int) (br : Nat) (w : World) (h : RdH w br S) :
    Calls Tryz.prog 88 #[.agg #[ptr br], .int .i64 4, .agg #[.int .i64 t]] w fun e w' => ∃ u x, e = .returned (.tuple #[u, .bool true]) ∧ (rLt S 4 t).1 = some x ∧ LV w' x u ∧ (∀ b, lblk u = some b → w.heap.size ≤ b) ∧ RdH w' br (rLt S 4 t).2 ∧ One br w w' := by
  rw [rLt4]
  have hS := SLp.of (SL.start br t w h.lt)
  obtain ⟨W, hW⟩ : ∃ W, W = ((w.alloc (.cells #[ptr br] RdrT)).alloc (.cells #[.int .i64 t] 145)) := ⟨_, rfl⟩
  have H0 := hide (h.below (w' := W) (by rw [hW]; exact ((Below.refl _ _).alloc (Nat.le_refl _) _).alloc (by simp) _))
  rw [← hW] at hS
  have HWZ := hide (show w.heap.size ≤ W.heap.size by rw [hW]; simp; omega)
  clear h
  go_enter Tryz.func88, Tryz.ntmps88
  go_upto_region 9 with fail
  rw [← hW]
  clear hW
  go_region_held3 (SLp w.heap.size (w.heap.size + 1) br t w) (first | with_reducible exact SLp.of (SL.drew (And.right (by assumption))) | with_reducible exact SLp.of (SL.call (by assumption) (And.right (by assumption))) | with_reducible exact SLp.of (SL.alloc (And.right (by assumption)) _) | with_reducible assumption)
    (first | (go_at_call 133; refine (isOne_rd _ br _ (by first | exact H0.out | exact H0.out.below (Below.refl _ _).drew)).mono ?_; rintro e w3 ⟨rfl, hr3, hO3⟩) | (go_at_call 132; refine (number_rd _ br _ (by first | exact hr3 | exact hr3.below (Below.refl _ _).drew)).mono ?_; rintro e w4 ⟨rfl, hr4, hO4⟩))
  all_goals
    have hf : SLp w.heap.size (w.heap.size + 1) br t w w4 := by assumption
    have hone := hf.2.one
    go_wp2
    go_ret2
    exact ⟨_, _, rfl, rfl, .ans _ _ _, (fun b h => by have h' : (none : Option Nat) = some b := h; cases h'), hr4, hone⟩

set_option maxRecDepth 100000 in
set_option maxHeartbeats 4000000 in
theorem letter0 (m t : Int) (br : Nat) (w : World) (h1 : ¬ m = 1) (h2 : ¬ m = 2) (h3 : ¬ m = 3) (h4 : ¬ m = 4) :
    Calls Tryz.prog 88 #[.agg #[ptr br], .int .i64 m, .agg #[.int .i64 t]] w fun e w' => e = .returned (.tuple #[.nilIface, .bool false]) ∧ Below w.heap.size w w' := by
  go_enter Tryz.func88, Tryz.ntmps88
  go_wp2
  go_ret2
  exact ⟨rfl, ((Below.refl _ _).alloc (Nat.le_refl _) _).alloc (by simp) _⟩
theorem LV.below {w w' : World} {l : Lt} {u : Value} (h : LV w l u) (hb : Below w.heap.size w w') : LV w' l u := by
  cases h with
  | ask t l lt => exact .ask t l lt
  | vote t g => exact .vote t g
  | ents t p pt c es a cap h => exact .ents t p pt c es a cap (h.below hb)
  | ans t g n => exact .ans t g n
theorem letter_rd (S : Rd) (m t : Int) (br : Nat) (w : World) (h : RdH w br S) :
    Calls Tryz.prog 88 #[.agg #[ptr br], .int .i64 m, .agg #[.int .i64 t]] w fun e w' => ∃ u b, e = .returned (.tuple #[u, .bool b]) ∧ (b = true → ∃ x, (rLt S m t).1 = some x ∧ LV w' x u ∧ ∀ b', lblk u = some b' → w.heap.size ≤ b') ∧ (b = false → (rLt S m t).1 = none) ∧ RdH w' br (rLt S m t).2 ∧ One br w w' := by
  by_cases h1 : m = 1
  · subst h1
    refine (letter1 S t br w h).mono ?_
    rintro e w' ⟨u, x, rfl, h1, h2, h3, h4, h5⟩
    exact ⟨u, true, rfl, fun _ => ⟨x, h1, h2, h3⟩, by simp, h4, h5⟩
  by_cases h2 : m = 2
  · subst h2
    refine (letter2 S t br w h).mono ?_
    rintro e w' ⟨u, x, rfl, h1, h2, h3, h4, h5⟩
    exact ⟨u, true, rfl, fun _ => ⟨x, h1, h2, h3⟩, by simp, h4, h5⟩
  by_cases h3 : m = 3
  · subst h3
    refine (letter3 S t br w h).mono ?_
    rintro e w' ⟨u, x, rfl, h1, h2, h3, h4, h5⟩
    exact ⟨u, true, rfl, fun _ => ⟨x, h1, h2, h3⟩, by simp, h4, h5⟩
  by_cases h4 : m = 4
  · subst h4
    refine (letter4 S t br w h).mono ?_
    rintro e w' ⟨u, x, rfl, h1, h2, h3, h4, h5⟩
    exact ⟨u, true, rfl, fun _ => ⟨x, h1, h2, h3⟩, by simp, h4, h5⟩
  have e : rLt S m t = (none, S) := by unfold rLt; rw [if_neg h1, if_neg h2, if_neg h3, if_neg h4]
  rw [e]
  refine (letter0 m t br w h1 h2 h3 h4).mono ?_
  rintro e w' ⟨rfl, hb⟩
  exact ⟨_, false, rfl, by simp, fun _ => rfl, h.below hb, Fd.One.of_below hb⟩

/-- the reader's box -/
structure SR (b1 br : Nat) (w : World) (W : World) : Prop where
  c1 : W.cell? ⟨b1, 0, none⟩ = some (ptr br)
  l1 : b1 < W.heap.size
  n1 : b1 ≠ br
  one : One br w W
theorem SR.call {b1 br : Nat} {w a b : World} (hO : One br a b) (h : SR b1 br w a) : SR b1 br w b :=
  ⟨(World.cell?_of_block (a := ⟨b1, 0, none⟩) (hO.block b1 h.l1 h.n1)).trans h.c1, Nat.lt_of_lt_of_le h.l1 hO.size, h.n1, h.one.trans hO⟩
theorem SR.drew {b1 br : Nat} {w a : World} (h : SR b1 br w a) : SR b1 br w a.drew := h.call (Fd.One.of_below (Below.refl _ _).drew)
abbrev SRp (b1 br : Nat) (w : World) (W : World) : Prop := (W.cell? ⟨b1, 0, none⟩ = some (ptr br)) ∧ SR b1 br w W
theorem SRp.of {b1 br : Nat} {w W : World} (h : SR b1 br w W) : SRp b1 br w W := ⟨h.c1, h⟩

/-- how letterIn ends -/
inductive TI (r : Option Lt) (w : World) : Ending → World → Prop where
  | no (u : Value) {w' : World} (hr : r = none) (hb : Below w.heap.size w w') : TI r w (.returned (.tuple #[u, .bool false])) w'
  | yes (x : Lt) (u : Value) {w' : World} (hr : r = some x) (hv : LV w' x u) (hn : ∀ b, lblk u = some b → w.heap.size ≤ b) (hb : Below w.heap.size w w') : TI r w (.returned (.tuple #[u, .bool true])) w'
theorem if_const (c : Prop) [Decidable c] (x : Option Lt) : (if c then x else x) = x := by split <;> rfl
set_option maxRecDepth 100000 in
set_option maxHeartbeats 4000000 in
theorem letterIn_any (s : ByteArray) (w : World) (hs : s.size ≤ 140737488351232) :
    Calls Tryz.prog 46 #[.string s] w fun e w' => TI (ltIn s) w e w' := by
  have HD := hide (Decode_any s w hs)
  have HM := hide (Fd.decode_most s)
  unfold ltIn
  obtain ⟨⟨L, at_, c⟩, hd⟩ : ∃ y, decode s = y := ⟨_, rfl⟩
  rw [hd] at HD HM ⊢
  dsimp only at HD HM ⊢
  clear hd
  by_cases hc : c = 0
  · subst hc
    rw [if_pos rfl]
    unfold parse
    generalize hn1 : Rd.num ⟨L, false⟩ = R1
    generalize hn2 : rTerm R1.2 = R2
    generalize hn3 : rLt R2.2 R1.1 R2.1 = R3
    have HN1 := hide hn1
    have HN2 := hide hn2
    have HN3 := hide hn3
    clear hn1 hn2 hn3
    obtain ⟨P, hP⟩ : ∃ P, (if R3.2.done = true then R3.1 else none) = P := ⟨_, rfl⟩
    rw [hP]
    have HP := hide hP
    clear hP
    go_enter Tryz.func46, Tryz.ntmps46
    go_wp2_with fail
    refine HD.out.mono ?_
    clear HD
    rintro e w1 ⟨v, rfl, hv, hb1⟩
    obtain ⟨a, cap, rfl⟩ := Gk.own_slice hv
    have HRd := hide (fun W (hb : Below w1.heap.size w1 W) => show Calls Tryz.prog 87 #[.slice a L.length cap] W fun e w' => ∃ br, e = .returned (ptr br) ∧ RdH w' br ⟨L, false⟩ ∧ Below W.heap.size W w' ∧ W.heap.size ≤ br by
      refine (Fd.Read_rd a L.length cap W).mono ?_
      rintro e w' ⟨rfl, rfl⟩
      exact ⟨_, rfl, Fd.RdH.new (Gk.own_below hv hb) HM.out, (Below.refl _ _).alloc (Nat.le_refl _) _, Nat.le_refl _⟩)
    have hb11 := below_alloc1 w1 (.cells #[.int .i64 at_, .int .i64 0] 156)
    have hbw1 : Below w.heap.size w (w1.alloc (.cells #[.int .i64 at_, .int .i64 0] 156)) := hb1.trans (hb11.mono hb1.size)
    clear hv hb1
    go_wp2_with fail
    refine (HRd.out _ hb11).mono ?_
    clear HRd hb11
    rintro e w2 ⟨br, rfl, hr2, hb2, hbr2⟩
    have hbw2 : Below w.heap.size w w2 := hbw1.trans (hb2.mono hbw1.size)
    have hbrw : w.heap.size ≤ br := Nat.le_trans hbw1.size hbr2
    clear hbw1 hb2 hbr2
    obtain ⟨W, hW⟩ : ∃ W, W = w2.alloc (.cells #[ptr br] RdrT) := ⟨_, rfl⟩
    have hbW : Below w.heap.size w W := by rw [hW]; exact hbw2.alloc hbw2.size _
    have hlt := hr2.lt
    have H0 := hide (hr2.below (w' := W) (by rw [hW]; exact (Below.refl _ _).alloc (Nat.le_refl _) _))
    have hS : SRp w2.heap.size br W W := SRp.of ⟨by rw [hW, cell_of_block (heap_alloc_new w2 _)]; rfl, by rw [hW]; simp, by omega, Only.refl _ _⟩
    clear hr2
    go_upto_region 5 with fail
    rw [← hW]
    clear hW
    go_region_held3 (SRp w2.heap.size br W) (first | with_reducible exact SRp.of (SR.drew (And.right (by assumption))) | with_reducible exact SRp.of (SR.call (by assumption) (And.right (by assumption))) | with_reducible assumption)
      (first | (go_at_call 89; (refine (Fd.number_rd _ br _ (by first | exact H0.out | exact H0.out.below (Below.refl _ _).drew)).mono ?_; rintro e w3 ⟨rfl, hr3, hO3⟩; rw [HN1.out] at hr3 ⊢)) | (go_at_call 90; refine (term_rd _ br _ (by first | exact hr3 | exact hr3.below (Below.refl _ _).drew)).mono ?_; rintro e w4 ⟨rfl, hr4, hO4⟩; rw [HN2.out] at hr4 ⊢) | (go_at_call 88; refine (letter_rd _ _ _ br _ (by first | exact hr4 | exact hr4.below (Below.refl _ _).drew)).mono ?_; rintro e w5 ⟨u, b, rfl, hy, hn, hr5, hO5⟩; rw [HN3.out] at hy hn hr5))
    have hf : SRp w2.heap.size br W w5 := by assumption
    have y1 := hf.1
    have hB : Below w.heap.size w w5 := hbW.trans (Fd.One.below hf.2.one hbrw hbW.size)
    have HI := hide (isDone_rd R3.2 br w5 hr5)
    have HB := hide hB
    have HSZ := hide (show w.heap.size ≤ W.heap.size ∧ W.heap.size ≤ w3.heap.size ∧ w3.heap.size ≤ w4.heap.size from ⟨hbW.size, by have := hO3.size; simpa using this, by have := hO4.size; simpa using this⟩)
    clear hf hbW hbw2 hS hr5 hr4 hr3 hO3 hO4 hO5 hB
    cases b with
    | false =>
      have HX := hide (hn rfl)
      clear hy hn
      go_wp2
      go_ret2
      exact .no _ (by rw [← HP.out, HX.out, if_const]) HB.out
    | true =>
      have HY := hide (hy rfl)
      clear hy hn
      cases hd : R3.2.done with
      | false =>
        rw [hd] at HI
        have HP2 := hide (show P = none by rw [← HP.out, hd]; rfl)
        clear hd
        go_wp2_with fail
        refine HI.out.mono ?_
        rintro e w6 ⟨rfl, rfl⟩
        go_wp2
        go_ret2
        exact .no _ HP2.out HB.out
      | true =>
        rw [hd] at HI
        have HP2 := hide (show P = R3.1 by rw [← HP.out, hd]; rfl)
        clear hd
        go_wp2_with fail
        refine HI.out.mono ?_
        rintro e w6 ⟨rfl, rfl⟩
        go_wp2
        go_ret2
        obtain ⟨x, hx, hv, hnw⟩ := HY.out
        have hnw' : ∀ b, lblk u = some b → w.heap.size ≤ b := fun b hb => by have := hnw b hb; have := HSZ.out; simp at *; omega
        exact .yes x u (HP2.out.trans hx) hv hnw' HB.out
  · rw [if_neg hc]
    have hc' : ¬ (c : Int) = 0 := by omega
    go_enter Tryz.func46, Tryz.ntmps46
    go_wp2_with fail
    refine HD.out.mono ?_
    clear HD
    rintro e w1 ⟨v, rfl, hv, hb1⟩
    obtain ⟨a, cap, rfl⟩ := Gk.own_slice hv
    go_wp2
    go_ret2
    refine .no _ rfl ?_
    first | exact hb1 | exact hb1.alloc hb1.size _ | exact (hb1.alloc hb1.size _).setCell (p := ⟨w1.heap.size, 0, none⟩) hb1.size _ | exact ((hb1.alloc hb1.size _).setCell (p := ⟨w1.heap.size, 0, none⟩) hb1.size _).setCell (p := ⟨w1.heap.size, 1, none⟩) hb1.size _
end Go.Proofs.YtmpahgklcabihaaGreat.Rf

namespace Go.Proofs.YtmpahgklcabihaaGreat.Rf
open Go.RowKit Go.Joins Go.Proofs.YtmpahgklcabihaaGreat.Gk
open Go.Proofs.YtmpahgklcabihaaGreat.Dk (St Bs)
open Go.Proofs.YtmpahgklcabihaaGreat.Rl (En Lo LH ER ptr blk own Tn eenc eenc_len)
open Go.Proofs.YtmpahgklcabihaaGreat.Ba (Bl BB Tu)
open Go.Proofs.YtmpahgklcabihaaGreat.Fd (numF txtF fenc fenc_len fenc_one)

set_option maxRecDepth 100000 in
set_option maxHeartbeats 1000000 in
theorem ask_flds (t l lt : Int) (w : World) :
    Calls Tryz.prog 282 #[.agg #[.int .i64 t, .int .i64 l, .int .i64 lt]] w fun e w' => ∃ v, e = .returned v ∧ w'.ownsRow w.heap.size FdT 3 v 4 (rc fenc (Lt.ask t l lt).flds) ∧ Below w.heap.size w w' := by
  have HN := hide (fun W g => numbers_at [1, t, l, lt] (by simp) 4 rfl #[.int .i64 1, .int .i64 t, .int .i64 l, .int .i64 lt] rfl (Lt.ask t l lt).flds rfl W g)
  generalize (Lt.ask t l lt).flds = L at *
  obtain ⟨W, hW⟩ : ∃ W, w.alloc (.cells #[.int .i64 t, .int .i64 l, .int .i64 lt] AskT) = W := ⟨_, rfl⟩
  have hb0 : Below w.heap.size w W := by rw [← hW]; exact (Below.refl _ _).alloc (Nat.le_refl _) _
  have hx : W.heap[w.heap.size]? = some (.cells #[.int .i64 t, .int .i64 l, .int .i64 lt] AskT (0, 0)) := by rw [← hW]; exact heap_alloc_new w _
  have x0 := cell_of_block hx 0
  have x1 := cell_of_block hx 1
  have x2 := cell_of_block hx 2
  go_enter Tryz.func282, Tryz.ntmps282
  go_upto_region 1 with fail
  clear hW hx
  go_wp2_with fail
  refine (HN.out _ _ (heap_alloc_new W _)).mono ?_
  rintro e w2 ⟨v, rfl, h1, hb1⟩
  have hb2 : Below w.heap.size w w2 := hb0.trans ((((Below.refl _ W).alloc (Nat.le_refl _) _).trans (hb1.mono (by simp))).mono hb0.size)
  have h2 : w2.ownsRow w.heap.size FdT 3 v 4 (rc fenc L) := Gk.own_mono h1 (by have := hb0.size; simp; omega)
  clear hb1 h1
  go_wp2
  go_ret
  exact ⟨_, rfl, h2, hb2⟩

/-- a letter's box -/
abbrev SV (H : Nat) (w : World) (t : Int) (g : Bool) (W : World) : Prop :=
  (W.cell? ⟨H, 0, none⟩ = some (.int .i64 t) ∧ W.cell? ⟨H, 1, none⟩ = some (.bool g)) ∧ H < W.heap.size ∧ Below H w W
theorem SV.call {H : Nat} {w : World} {t : Int} {g : Bool} {a b : World} (hb : Below a.heap.size a b) (h : SV H w t g a) : SV H w t g b := by
  obtain ⟨⟨c0, c1⟩, hlt, hbel⟩ := h
  have hc : ∀ j, b.cell? ⟨H, j, none⟩ = a.cell? ⟨H, j, none⟩ := fun j => hb.cell (p := ⟨H, j, none⟩) hlt
  exact ⟨⟨(hc 0).trans c0, (hc 1).trans c1⟩, Nat.lt_of_lt_of_le hlt hb.size, hbel.trans (hb.mono (by omega))⟩
theorem SV.drew {H : Nat} {w : World} {t : Int} {g : Bool} {a : World} (h : SV H w t g a) : SV H w t g a.drew := h.call ((Below.refl _ _).drew)
theorem SV.alloc {H : Nat} {w : World} {t : Int} {g : Bool} {a : World} (h : SV H w t g a) (x : Obj) : SV H w t g (a.alloc x) := h.call ((Below.refl _ _).alloc (Nat.le_refl _) x)
abbrev SA (H : Nat) (w : World) (t : Int) (g : Bool) (n : Int) (W : World) : Prop :=
  (W.cell? ⟨H, 0, none⟩ = some (.int .i64 t) ∧ W.cell? ⟨H, 1, none⟩ = some (.bool g) ∧ W.cell? ⟨H, 2, none⟩ = some (.int .i64 n)) ∧ H < W.heap.size ∧ Below H w W
theorem SA.call {H : Nat} {w : World} {t : Int} {g : Bool} {n : Int} {a b : World} (hb : Below a.heap.size a b) (h : SA H w t g n a) : SA H w t g n b := by
  obtain ⟨⟨c0, c1, c2⟩, hlt, hbel⟩ := h
  have hc : ∀ j, b.cell? ⟨H, j, none⟩ = a.cell? ⟨H, j, none⟩ := fun j => hb.cell (p := ⟨H, j, none⟩) hlt
  exact ⟨⟨(hc 0).trans c0, (hc 1).trans c1, (hc 2).trans c2⟩, Nat.lt_of_lt_of_le hlt hb.size, hbel.trans (hb.mono (by omega))⟩
theorem SA.drew {H : Nat} {w : World} {t : Int} {g : Bool} {n : Int} {a : World} (h : SA H w t g n a) : SA H w t g n a.drew := h.call ((Below.refl _ _).drew)
theorem SA.alloc {H : Nat} {w : World} {t : Int} {g : Bool} {n : Int} {a : World} (h : SA H w t g n a) (x : Obj) : SA H w t g n (a.alloc x) := h.call ((Below.refl _ _).alloc (Nat.le_refl _) x)

set_option maxRecDepth 100000 in
set_option maxHeartbeats 2000000 in
theorem vote_flds (t : Int) (g : Bool) (w : World) :
    Calls Tryz.prog 293 #[.agg #[.int .i64 t, .bool g]] w fun e w' => ∃ v, e = .returned v ∧ w'.ownsRow w.heap.size FdT 3 v 3 (rc fenc (Lt.vote t g).flds) ∧ Below w.heap.size w w' := by
  have HN := hide (fun W g' => numbers_at [2, t, b2i g] (by simp) 3 rfl #[.int .i64 2, .int .i64 t, .int .i64 (b2i g)] rfl (Lt.vote t g).flds rfl W g')
  generalize (Lt.vote t g).flds = L at *
  have HO := hide (oneIf_any g)
  obtain ⟨W, hW⟩ : ∃ W, W = w.alloc (.cells #[.int .i64 t, .bool g] VoteT) := ⟨_, rfl⟩
  have hS : SV w.heap.size w t g W := by rw [hW]; exact ⟨⟨by simp, by simp⟩, by simp, (Below.refl _ _).alloc (Nat.le_refl _) _⟩
  go_enter Tryz.func293, Tryz.ntmps293
  go_wp2
  rw [← hW]
  clear hW
  go_region_held3 (SV w.heap.size w t g) (first | with_reducible exact SV.drew (by assumption) | with_reducible exact SV.call (by assumption) (by assumption) | with_reducible exact SV.alloc (by assumption) _ | with_reducible exact SV.drew (SV.alloc (by assumption) _) | with_reducible assumption)
    (first | (go_at_call 127; refine (HO.out _).mono ?_; rintro e w3 ⟨rfl, rfl⟩) | (go_at_call 284; refine (HN.out _ _ (by exact heap_alloc_new W _)).mono ?_; rintro e w4 ⟨v, rfl, hv4, hb4⟩))
  all_goals
    have hR : SV w.heap.size w t g w4 := by assumption
    go_wp2
    go_ret
    exact ⟨_, rfl, Gk.own_mono hv4 (by have := hS.2.1; first | omega | (simp; omega) | skip), hR.2.2⟩

set_option maxRecDepth 100000 in
set_option maxHeartbeats 2000000 in
theorem ans_flds (t : Int) (g : Bool) (n : Int) (w : World) :
    Calls Tryz.prog 295 #[.agg #[.int .i64 t, .bool g, .int .i64 n]] w fun e w' => ∃ v, e = .returned v ∧ w'.ownsRow w.heap.size FdT 3 v 4 (rc fenc (Lt.ans t g n).flds) ∧ Below w.heap.size w w' := by
  have HN := hide (fun W g' => numbers_at [4, t, b2i g, n] (by simp) 4 rfl #[.int .i64 4, .int .i64 t, .int .i64 (b2i g), .int .i64 n] rfl (Lt.ans t g n).flds rfl W g')
  generalize (Lt.ans t g n).flds = L at *
  have HO := hide (oneIf_any g)
  obtain ⟨W, hW⟩ : ∃ W, W = w.alloc (.cells #[.int .i64 t, .bool g, .int .i64 n] AnsT) := ⟨_, rfl⟩
  have hS : SA w.heap.size w t g n W := by rw [hW]; exact ⟨⟨by simp, by simp, by simp⟩, by simp, (Below.refl _ _).alloc (Nat.le_refl _) _⟩
  go_enter Tryz.func295, Tryz.ntmps295
  go_wp2
  rw [← hW]
  clear hW
  go_region_held3 (SA w.heap.size w t g n) (first | with_reducible exact SA.drew (by assumption) | with_reducible exact SA.call (by assumption) (by assumption) | with_reducible exact SA.alloc (by assumption) _ | with_reducible exact SA.drew (SA.alloc (by assumption) _) | with_reducible assumption)
    (first | (go_at_call 127; refine (HO.out _).mono ?_; rintro e w3 ⟨rfl, rfl⟩) | (go_at_call 284; refine (HN.out _ _ (by exact heap_alloc_new W _)).mono ?_; rintro e w4 ⟨v, rfl, hv4, hb4⟩))
  all_goals
    have hR : SA w.heap.size w t g n w4 := by assumption
    go_wp2
    go_ret
    exact ⟨_, rfl, Gk.own_mono hv4 (by have := hS.2.1; first | omega | (simp; omega) | skip), hR.2.2⟩

end Go.Proofs.YtmpahgklcabihaaGreat.Rf

namespace Go.Proofs.YtmpahgklcabihaaGreat.Rf
open Go.RowKit Go.Joins Go.Proofs.YtmpahgklcabihaaGreat.Gk
open Go.Proofs.YtmpahgklcabihaaGreat.Dk (St Bs)
open Go.Proofs.YtmpahgklcabihaaGreat.Rl (En Lo LH ER ptr blk own Tn eenc eenc_len)
open Go.Proofs.YtmpahgklcabihaaGreat.Ba (Bl BB Tu)
open Go.Proofs.YtmpahgklcabihaaGreat.Fd (numF txtF fenc fenc_len fenc_one)

/-- an entry's box, and a list's row -/
structure S2 (B H : Nat) (w : World) (e : En) (v : Value) (l : List Fld) (W : World) : Prop where
  c0 : W.cell? ⟨H, 0, none⟩ = some (.int .i64 e.t)
  c1 : W.cell? ⟨H, 1, none⟩ = some (.string e.d)
  bh : B ≤ H
  lt : H < W.heap.size
  row : W.ownsRow B FdT 3 v l.length (rc fenc l)
  bel : Below B w W
  ne : some H ≠ v.ownBlock
section
variable {B H : Nat} {w : World} {e : En} {v : Value} {l : List Fld} {a b : World}
theorem S2.call (hb : Below a.heap.size a b) (h : S2 B H w e v l a) : S2 B H w e v l b := by
  have hc : ∀ j, b.cell? ⟨H, j, none⟩ = a.cell? ⟨H, j, none⟩ := fun j => hb.cell (p := ⟨H, j, none⟩) h.lt
  exact ⟨(hc 0).trans h.c0, (hc 1).trans h.c1, h.bh, Nat.lt_of_lt_of_le h.lt hb.size, Gk.own_below h.row hb, h.bel.trans (hb.mono (by have := h.lt; have := h.bh; omega)), h.ne⟩
theorem S2.drew (h : S2 B H w e v l a) : S2 B H w e v l a.drew := h.call ((Below.refl _ _).drew)
theorem S2.alloc (h : S2 B H w e v l a) (o : Obj) : S2 B H w e v l (a.alloc o) := h.call ((Below.refl _ _).alloc (Nat.le_refl _) o)
theorem S2.app (hg : a.grownBy b v.ownBlock) (ho : b.ownsRow B FdT 3 v l.length (rc fenc l)) (h : S2 B H w e v l a) : S2 B H w e v l b := by
  have hc : ∀ j, b.cell? ⟨H, j, none⟩ = a.cell? ⟨H, j, none⟩ := fun j => World.cell?_of_block (a := ⟨H, j, none⟩) (hg.block H h.lt h.ne)
  exact ⟨(hc 0).trans h.c0, (hc 1).trans h.c1, h.bh, Nat.lt_of_lt_of_le h.lt hg.size, ho, h.bel.grown hg (by have := h.lt; have := h.bh; omega) (fun k hk' => (h.row.lt k hk').1), h.ne⟩
theorem S2.room (h : S2 B H w e v l a) : B ≤ a.heap.size := by have := h.lt; have := h.bh; omega
theorem S2.c (h : S2 B H w e v l a) : a.cell? ⟨H, 0, none⟩ = some (.int .i64 e.t) ∧ a.cell? ⟨H, 1, none⟩ = some (.string e.d) := ⟨h.c0, h.c1⟩
end
abbrev S2p (B H : Nat) (w : World) (e : En) (v : Value) (l : List Fld) (W : World) : Prop :=
  (W.cell? ⟨H, 0, none⟩ = some (.int .i64 e.t) ∧ W.cell? ⟨H, 1, none⟩ = some (.string e.d)) ∧ S2 B H w e v l W
theorem S2p.of {B H : Nat} {w : World} {e : En} {v : Value} {l : List Fld} {W : World} (h : S2 B H w e v l W) : S2p B H w e v l W := ⟨h.c, h⟩

set_option maxRecDepth 100000 in
set_option maxHeartbeats 4000000 in
theorem ents_flds (t p pt c : Int) (es : List En) (a : Option Addr) (cap : Nat) (w : World) (hl : Gk.Lies w eenc a es) (hes : es.length ≤ 64) :
    Calls Tryz.prog 289 #[.agg #[.int .i64 t, .int .i64 p, .int .i64 pt, .int .i64 c, .slice a es.length cap]] w fun e w' => ∃ v, e = .returned v ∧ w'.ownsRow w.heap.size FdT 3 v (Lt.ents t p pt c es).flds.length (rc fenc (Lt.ents t p pt c es).flds) ∧ Below w.heap.size w w' := by
  have HN := hide (fun W g' => numbers_at [3, t, p, pt, c, es.length] (by simp) 6 rfl #[.int .i64 3, .int .i64 t, .int .i64 p, .int .i64 pt, .int .i64 c, .int .i64 es.length] rfl [numF 3, numF t, numF p, numF pt, numF c, numF es.length] rfl W g')
  have HA := hide (show (Lt.ents t p pt c es).flds = [numF 3, numF t, numF p, numF pt, numF c, numF es.length] ++ enF es from rfl)
  have HAL := hide (show [numF 3, numF t, numF p, numF pt, numF c, numF es.length].length = 6 from rfl)
  rw [HA.out]
  clear HA
  generalize [numF 3, numF t, numF p, numF pt, numF c, numF es.length] = A at *
  obtain ⟨W, hW⟩ : ∃ W, w.alloc (.cells #[.int .i64 t, .int .i64 p, .int .i64 pt, .int .i64 c, .slice a es.length cap] EntsT) = W := ⟨_, rfl⟩
  have hb0 : Below w.heap.size w W := by rw [← hW]; exact (Below.refl _ _).alloc (Nat.le_refl _) _
  have hx : W.heap[w.heap.size]? = some (.cells #[.int .i64 t, .int .i64 p, .int .i64 pt, .int .i64 c, .slice a es.length cap] EntsT (0, 0)) := by rw [← hW]; exact heap_alloc_new w _
  have hz : w.heap.size < W.heap.size := (Array.getElem?_eq_some_iff.1 hx).1
  have x0 := cell_of_block hx 0
  have x1 := cell_of_block hx 1
  have x2 := cell_of_block hx 2
  have x3 := cell_of_block hx 3
  have x4 := cell_of_block hx 4
  go_enter Tryz.func289, Tryz.ntmps289
  go_upto_region 1 with fail
  clear hW
  go_wp2_with fail
  refine (HN.out _ _ (heap_alloc_new W _)).mono ?_
  rintro e w2 ⟨v, rfl, h1, hb1⟩
  have hbW : Below W.heap.size W w2 := ((Below.refl _ W).alloc (Nat.le_refl _) _).trans (hb1.mono (by simp))
  have hb2 : Below w.heap.size w w2 := hb0.trans (hbW.mono hb0.size)
  have h2 : w2.ownsRow w.heap.size FdT 3 v A.length (rc fenc A) := by rw [HAL.out]; exact Gk.own_mono h1 (by have := hb0.size; simp; omega)
  have y4 : w2.cell? ⟨w.heap.size, 4, none⟩ = some (.slice a es.length cap) := (hbW.cell (p := ⟨w.heap.size, 4, none⟩) hz).trans x4
  clear hb1 h1 x0 x1 x2 x3 x4 hx hz hbW hb0
  go_wp2
  go_loopw [3, 23] (fun v i wr => ∃ k : Nat, k ≤ es.length ∧ i = .int .i64 k ∧ wr.ownsRow w.heap.size FdT 3 v (A ++ enF (es.take k)).length (rc fenc (A ++ enF (es.take k))) ∧ Below w.heap.size w wr) (fun _ i _ => es.length - (intOf i).toNat)
  case atStart => exact ⟨0, by omega, rfl, by simpa [enF] using h2, hb2⟩
  case round =>
    clear h2 hb2 y4
    obtain ⟨k, hk, rfl, hv, hbel⟩ := hrel
    by_cases hlt : k < es.length
    · obtain ⟨b, off, rfl, hblt, hc⟩ := (hl.below hbel).at eenc_len k hlt
      have c0 := hc 0 _ rfl
      have c1 := hc 1 _ rfl
      rw [Nat.add_zero] at c0
      have HT := hide (show A ++ enF (es.take (k + 1)) = A ++ enF (es.take k) ++ [numF es[k].t, txtF es[k].d] by
        rw [List.take_succ_eq_append_getElem hlt, List.append_assoc]; unfold enF; rw [List.flatMap_append]; rfl)
      have HTL := hide (show (A ++ enF (es.take k)).length ≤ 6 + 2 * k by rw [List.length_append, enF_len, HAL.out, List.length_take]; omega)
      generalize es[k] = x at *
      generalize A ++ enF (es.take k) = T at *
      have i1 : (0 : Int) ≤ (k : Int) := by omega
      have i2 : (k : Int) < (es.length : Int) := by omega
      have hwr := hbel.size
      clear hc
      obtain ⟨V, rfl⟩ : ∃ V : Value, V = u3 := ⟨_, rfl⟩
      go_wp2
      obtain ⟨W1, hW1⟩ : ∃ W1, W1 = wr.alloc (.cells #[.int .i64 x.t, .string x.d] 66) := ⟨_, rfl⟩
      have hS : S2p w.heap.size wr.heap.size w x V T W1 := S2p.of ⟨by rw [hW1]; simp, by rw [hW1]; simp, hwr, by rw [hW1]; simp, by rw [hW1]; exact hv.alloc _, by rw [hW1]; exact hbel.alloc hwr _, fun e => by have := (hv.lt _ e.symm).2; omega⟩
      rw [← hW1]
      clear hW1 c0 c1 hv
      go_region_held3 (S2p w.heap.size wr.heap.size w x V T) (first | with_reducible exact S2p.of (S2.drew (And.right (by assumption))) | with_reducible exact S2p.of (S2.call (by assumption) (And.right (by assumption))) | with_reducible exact S2p.of (S2.alloc (And.right (by assumption)) _) | with_reducible exact S2p.of (S2.drew (S2.alloc (And.right (by assumption)) _)) | with_reducible exact S2p.of (S2.app (by assumption) (by assumption) (And.right (by assumption))) | with_reducible assumption)
        (first | (go_at_call 206; refine (Fd.number_op _ _).mono ?_; rintro e w3 ⟨rfl, hb3⟩) | (go_at_call 245; refine (Fd.text_op _ _).mono ?_; rintro e w3 ⟨rfl, hb3⟩) | (refine step_append_keep (enc := fenc) rfl (.tmp 27) (.tmp 34) FdsT rfl FdT _ 32 Tryz.underlying122 field_info rfl (by decide) fenc_len fenc_one w.heap.size V T rfl (S2.row (And.right (by assumption))) _ 0 ([numF x.t, txtF x.d]) 2 2 rfl rfl (Fd.new_cells _ (rc fenc ([numF x.t, txtF x.d])) _) (by have := HTL.out; simp only [List.length_cons, List.length_nil]; omega) (by have := HTL.out; simp only [List.length_cons, List.length_nil]; omega) (S2.room (And.right (by assumption))) ?_; intro ad4 cap4 w4 hown4 hg4 hk4 hat4))
      all_goals
        have hf : S2p w.heap.size wr.heap.size w x V T w4 := by assumption
        have hbel4 := hf.2.bel
        go_wp2
        go_roundw
        case rel => exact ⟨k + 1, by omega, by go_num, by rw [HT.out]; exact hown4, hbel4⟩
        case measure => simp [intOf]; omega
    · obtain rfl : k = es.length := by omega
      rw [List.take_length] at hv
      go_wp2
      go_ret
      exact ⟨_, rfl, hv, hbel⟩


theorem flds_lies {w : World} {B n : Nat} {v : Value} {L : List Fld} (h : w.ownsRow B FdT 3 v n (rc fenc L)) (hn : n = L.length) : ∃ a cap, v = .slice a L.length cap ∧ Go.Proofs.YtmpahgklcabihaaGreat.Lies w a L := by
  subst hn
  exact own_lies (B := B) h
set_option maxRecDepth 100000 in
set_option maxHeartbeats 1000000 in
theorem encode_lt (l : Lt) (hf : l.few) {B n : Nat} {v : Value} (w : World) (h : w.ownsRow B FdT 3 v n (rc fenc l.flds)) (hn : n = l.flds.length) :
    Calls Tryz.prog 126 #[v] w fun e w' => e = .returned (.tuple #[.string l.text, .int .i64 0]) ∧ Below w.heap.size w w' := by
  obtain ⟨a, cap, rfl, hl⟩ := flds_lies h hn
  have hm := Lt.many hf
  have hE := Encode_any a cap l.flds w hl (by omega) (fun x hx => by
    have h1 := encs_mem_le hx
    have h2 := Lt.size hf
    by_cases ht : x.text = true
    · have := enc_size_le x ht; omega
    · have := Lt.may l x hx
      have ht' : x.text = false := by simpa using ht
      simp only [Fld.may, ht', Bool.false_eq_true, if_false, beq_iff_eq] at this
      omega)
  rw [encodeV, encode_good (Lt.good hf)] at hE
  exact hE
end Go.Proofs.YtmpahgklcabihaaGreat.Rf

namespace Go.Proofs.YtmpahgklcabihaaGreat.Rf
open Go.RowKit Go.Joins Go.Proofs.YtmpahgklcabihaaGreat.Gk
open Go.Proofs.YtmpahgklcabihaaGreat.Dk (St Bs)
open Go.Proofs.YtmpahgklcabihaaGreat.Rl (En Lo LH ER ptr blk own Tn eenc eenc_len)
open Go.Proofs.YtmpahgklcabihaaGreat.Ba (Bl BB Tu)
open Go.Proofs.YtmpahgklcabihaaGreat.Fd (numF txtF fenc fenc_len fenc_one)

theorem NH.pushed {w w3 : World} {nb bd bb bl pb : Nat} {v lv v' : Value} {N : Nd} {lg : List En} {Y : Nat → Prop} (h : NH w nb bd bb bl pb v lv N lg Y) (o : Obj) (l : Lx) {n : Nat} (hv : w3.ownsRow 0 LtrT 2 v' n (rc lenc (N.ls ++ [l]))) (hn : n = (N.ls ++ [l]).length)
    (hg : (w.alloc o).grownBy w3 lv.ownBlock) (hat : ∀ g, v'.ownBlock = some g → lv.ownBlock = some g ∨ w.heap.size + 1 ≤ g) :
    NH (w3.setCell ⟨nb, 10, none⟩ v') nb bd bb bl pb v v' { N with ls := N.ls ++ [l] } lg Y ∧ Tu (no w nb bl pb lv Y) (no (w3.setCell ⟨nb, 10, none⟩ v') nb bl pb v' Y) w (w3.setCell ⟨nb, 10, none⟩ v') ∧ w3.frozen? ⟨nb, 10, none⟩ = false ∧ w3.cell? ⟨nb, 10, none⟩ = some lv := by
  subst hn
  obtain ⟨h1, h2⟩ := h.below (below_alloc1 w o)
  obtain ⟨h3, h4⟩ := h1.setR hv hg (fun g hg' => (hat g hg').imp id (fun e => by simpa using e))
  have hb : w3.heap[nb]? = (w.alloc o).heap[nb]? := hg.block nb h1.nlt fun e => h1.rn e.symm rfl
  refine ⟨h3, ?_, ?_, ?_⟩
  · rw [h2] at h4; exact (Tu.of_below (below_alloc1 w o)).trans h4
  · rw [World.frozen?_of_block (a := ⟨nb, 10, none⟩) hb]; exact h1.fz 10
  · rw [World.cell?_of_block (a := ⟨nb, 10, none⟩) hb, h1.c 10]; rfl
section
variable {nb bd : Nat} {N : Nd} {X : Nat → Prop}
set_option maxRecDepth 100000 in
set_option maxHeartbeats 1000000 in
theorem header_any (w : World) (h : ND w nb bd N X) : Calls Tryz.prog 82 #[ptr nb] w fun e w' => e = .returned (.agg #[.int .i64 N.s.t]) ∧ Below w.heap.size w w' := by
  obtain ⟨bb, bl, pb, v, lv, Y, h, rfl⟩ := h
  obtain ⟨W, hW⟩ : ∃ W, w.alloc (.cells #[.int .i64 0] 145) = W := ⟨_, rfl⟩
  have hb0 : Below w.heap.size w W := by rw [← hW]; exact (Below.refl _ _).alloc (Nat.le_refl _) _
  have hx : W.heap[w.heap.size]? = some (.cells #[.int .i64 0] 145 (0, 0)) := by rw [← hW]; exact heap_alloc_new w _
  have x0 := cell_of_block hx 0
  have y0 := unfrozen_of_block hx 0
  have h1 := (h.below hb0).1
  have c2 := h1.c 2
  have HT := hide (Ba.Term_any W h1.bal)
  clear h h1 hx
  go_enter Tryz.func82, Tryz.ntmps82
  go_wp2_with fail
  refine HT.out.mono ?_
  rintro e w1 ⟨rfl, rfl⟩
  go_wp2
  exact bodyPost_ret (v := .agg #[.int .i64 N.s.t]) (by simp [results, Tryz.results82, go_sem, x0]) rfl ⟨rfl, hb0.setCell (p := ⟨w.heap.size, 0, none⟩) (Nat.le_refl _) _⟩

set_option maxRecDepth 100000 in
set_option maxHeartbeats 2000000 in
theorem send_any (j : Nat) (l : Lt) (u : Value) (w : World) (h : ND w nb bd N X) (hu : LV w l u) (hf : l.few) (hn : N.ls.length ≤ 1000000) :
    Calls Tryz.prog 81 #[ptr nb, .int .i64 j, u] w fun e w' => e = .returned (.tuple #[]) ∧ Goes w w' nb bd (N.sent j l) X := by
  obtain ⟨bb, bl, pb, v, lv, Y, hH, rfl⟩ := h
  obtain ⟨av, cv, rfl⟩ := hH.row.slice
  have HH := hide hH
  clear hH
  cases hu with
  | ask t x y =>
    have HF := hide (ask_flds t x y w)
    have HE := hide (fun (W : World) (B : Nat) (u : Value) (m : Nat) => encode_lt (.ask t x y) hf (B := B) (n := m) (v := u) W)
    go_enter Tryz.func81, Tryz.ntmps81
    go_wp2_with fail
    refine HF.out.mono ?_
    clear HF
    rintro e w1 ⟨v1, rfl, hv1, hb1⟩
    go_wp2_with fail
    refine (HE.out _ _ _ _ hv1 rfl).mono ?_
    clear HE
    rintro e w2 ⟨rfl, hb2⟩
    have hb12 := hb1.trans (hb2.mono hb1.size)
    have H2 := hide (HH.out.below hb12).1
    have c10 := H2.out.c 10
    clear hv1 hb1 hb2
    go_wp2_with (at_builtin; refine Gk.wpList_push (enc := lenc) (k := 2) rfl (.tmp 18) (.tmp 22) LtrsT rfl LtrT noL 24 Tryz.underlying56 ltr_info rfl (by decide) lenc_len lenc_one 0 _ N.ls rfl (H2.out.row.below (below_alloc1 w2 _)) w2.heap.size ((j : Int), Lt.text (.ask t x y)) rfl (heap_alloc_new w2 _) ?c1 ?c2 ?c3 ?_)
    case c1 => omega
    case c2 => omega
    case c3 => exact Nat.zero_le _
    intro v' w3 hv3 hg3 hat3
    obtain ⟨av3, cv3, rfl⟩ := Gk.own_slice hv3
    obtain ⟨hr3, ht3, z10, i10⟩ := H2.out.pushed _ ((j : Int), Lt.text (.ask t x y)) hv3 (by simp) hg3 hat3
    rw [(HH.out.below hb12).2] at ht3
    have HR := hide (And.intro hr3 ht3)
    have HB := hide hb12
    clear hr3 ht3 hg3 hat3 hv3 hb12 c10
    go_wp2
    exact bodyPost_end (v := .tuple #[]) (by simp [results, Tryz.results81]) rfl ⟨rfl, _, HR.out.1.pack, (Tu.of_below HB.out).trans HR.out.2⟩
  | vote t g =>
    have HF := hide (vote_flds t g w)
    have HE := hide (fun (W : World) (B : Nat) (u : Value) (m : Nat) => encode_lt (.vote t g) hf (B := B) (n := m) (v := u) W)
    go_enter Tryz.func81, Tryz.ntmps81
    go_wp2_with fail
    refine HF.out.mono ?_
    clear HF
    rintro e w1 ⟨v1, rfl, hv1, hb1⟩
    go_wp2_with fail
    refine (HE.out _ _ _ _ hv1 rfl).mono ?_
    clear HE
    rintro e w2 ⟨rfl, hb2⟩
    have hb12 := hb1.trans (hb2.mono hb1.size)
    have H2 := hide (HH.out.below hb12).1
    have c10 := H2.out.c 10
    clear hv1 hb1 hb2
    go_wp2_with (at_builtin; refine Gk.wpList_push (enc := lenc) (k := 2) rfl (.tmp 18) (.tmp 22) LtrsT rfl LtrT noL 24 Tryz.underlying56 ltr_info rfl (by decide) lenc_len lenc_one 0 _ N.ls rfl (H2.out.row.below (below_alloc1 w2 _)) w2.heap.size ((j : Int), Lt.text (.vote t g)) rfl (heap_alloc_new w2 _) ?c1 ?c2 ?c3 ?_)
    case c1 => omega
    case c2 => omega
    case c3 => exact Nat.zero_le _
    intro v' w3 hv3 hg3 hat3
    obtain ⟨av3, cv3, rfl⟩ := Gk.own_slice hv3
    obtain ⟨hr3, ht3, z10, i10⟩ := H2.out.pushed _ ((j : Int), Lt.text (.vote t g)) hv3 (by simp) hg3 hat3
    rw [(HH.out.below hb12).2] at ht3
    have HR := hide (And.intro hr3 ht3)
    have HB := hide hb12
    clear hr3 ht3 hg3 hat3 hv3 hb12 c10
    go_wp2
    exact bodyPost_end (v := .tuple #[]) (by simp [results, Tryz.results81]) rfl ⟨rfl, _, HR.out.1.pack, (Tu.of_below HB.out).trans HR.out.2⟩
  | ans t g n =>
    have HF := hide (ans_flds t g n w)
    have HE := hide (fun (W : World) (B : Nat) (u : Value) (m : Nat) => encode_lt (.ans t g n) hf (B := B) (n := m) (v := u) W)
    go_enter Tryz.func81, Tryz.ntmps81
    go_wp2_with fail
    refine HF.out.mono ?_
    clear HF
    rintro e w1 ⟨v1, rfl, hv1, hb1⟩
    go_wp2_with fail
    refine (HE.out _ _ _ _ hv1 rfl).mono ?_
    clear HE
    rintro e w2 ⟨rfl, hb2⟩
    have hb12 := hb1.trans (hb2.mono hb1.size)
    have H2 := hide (HH.out.below hb12).1
    have c10 := H2.out.c 10
    clear hv1 hb1 hb2
    go_wp2_with (at_builtin; refine Gk.wpList_push (enc := lenc) (k := 2) rfl (.tmp 18) (.tmp 22) LtrsT rfl LtrT noL 24 Tryz.underlying56 ltr_info rfl (by decide) lenc_len lenc_one 0 _ N.ls rfl (H2.out.row.below (below_alloc1 w2 _)) w2.heap.size ((j : Int), Lt.text (.ans t g n)) rfl (heap_alloc_new w2 _) ?c1 ?c2 ?c3 ?_)
    case c1 => omega
    case c2 => omega
    case c3 => exact Nat.zero_le _
    intro v' w3 hv3 hg3 hat3
    obtain ⟨av3, cv3, rfl⟩ := Gk.own_slice hv3
    obtain ⟨hr3, ht3, z10, i10⟩ := H2.out.pushed _ ((j : Int), Lt.text (.ans t g n)) hv3 (by simp) hg3 hat3
    rw [(HH.out.below hb12).2] at ht3
    have HR := hide (And.intro hr3 ht3)
    have HB := hide hb12
    clear hr3 ht3 hg3 hat3 hv3 hb12 c10
    go_wp2
    exact bodyPost_end (v := .tuple #[]) (by simp [results, Tryz.results81]) rfl ⟨rfl, _, HR.out.1.pack, (Tu.of_below HB.out).trans HR.out.2⟩
  | ents t p pt c es a cap h =>
    have HF := hide (ents_flds t p pt c es a cap w h (Nat.le_trans hf.1 (by decide)))
    have HE := hide (fun (W : World) (B : Nat) (u : Value) (m : Nat) => encode_lt (.ents t p pt c es) hf (B := B) (n := m) (v := u) W)
    go_enter Tryz.func81, Tryz.ntmps81
    go_wp2_with fail
    refine HF.out.mono ?_
    clear HF
    rintro e w1 ⟨v1, rfl, hv1, hb1⟩
    go_wp2_with fail
    refine (HE.out _ _ _ _ hv1 rfl).mono ?_
    clear HE
    rintro e w2 ⟨rfl, hb2⟩
    have hb12 := hb1.trans (hb2.mono hb1.size)
    have H2 := hide (HH.out.below hb12).1
    have c10 := H2.out.c 10
    clear hv1 hb1 hb2
    go_wp2_with (at_builtin; refine Gk.wpList_push (enc := lenc) (k := 2) rfl (.tmp 18) (.tmp 22) LtrsT rfl LtrT noL 24 Tryz.underlying56 ltr_info rfl (by decide) lenc_len lenc_one 0 _ N.ls rfl (H2.out.row.below (below_alloc1 w2 _)) w2.heap.size ((j : Int), Lt.text (.ents t p pt c es)) rfl (heap_alloc_new w2 _) ?c1 ?c2 ?c3 ?_)
    case c1 => omega
    case c2 => omega
    case c3 => exact Nat.zero_le _
    intro v' w3 hv3 hg3 hat3
    obtain ⟨av3, cv3, rfl⟩ := Gk.own_slice hv3
    obtain ⟨hr3, ht3, z10, i10⟩ := H2.out.pushed _ ((j : Int), Lt.text (.ents t p pt c es)) hv3 (by simp) hg3 hat3
    rw [(HH.out.below hb12).2] at ht3
    have HR := hide (And.intro hr3 ht3)
    have HB := hide hb12
    clear hr3 ht3 hg3 hat3 hv3 hb12 c10
    go_wp2
    exact bodyPost_end (v := .tuple #[]) (by simp [results, Tryz.results81]) rfl ⟨rfl, _, HR.out.1.pack, (Tu.of_below HB.out).trans HR.out.2⟩

set_option maxRecDepth 100000 in
set_option maxHeartbeats 1000000 in
theorem isOther_any (x : Int) (w : World) (h : ND w nb bd N X) :
    Calls Tryz.prog 47 #[ptr nb, .int .i64 x] w fun e w' => e = .returned (.bool (decide (0 ≤ x ∧ x < N.ps.length ∧ x ≠ N.id))) ∧ w' = w := by
  obtain ⟨bb, bl, pb, v, lv, Y, hH, rfl⟩ := h
  have c0 := hH.c 0
  have c9 := hH.c 9
  clear hH
  by_cases h1 : 0 ≤ x
  · by_cases h2 : x < N.ps.length
    · by_cases h3 : x = N.id
      · have e3 : (x != (N.id : Int)) = false := by simp [h3]
        rw [decide_eq_false (by omega)]
        go_enter Tryz.func47, Tryz.ntmps47
        go_wp2
        go_ret
        exact ⟨by rw [← e3]; rfl, rfl⟩
      · have e3 : (x != (N.id : Int)) = true := by simp [h3]
        rw [decide_eq_true (by omega)]
        go_enter Tryz.func47, Tryz.ntmps47
        go_wp2
        go_ret
        exact ⟨by rw [← e3]; rfl, rfl⟩
    · rw [decide_eq_false (by omega)]
      go_enter Tryz.func47, Tryz.ntmps47
      go_wp2
      go_ret
      exact ⟨rfl, rfl⟩
  · rw [decide_eq_false (by omega)]
    go_enter Tryz.func47, Tryz.ntmps47
    go_wp2
    go_ret
    exact ⟨rfl, rfl⟩
end
end Go.Proofs.YtmpahgklcabihaaGreat.Rf

namespace Go.Proofs.YtmpahgklcabihaaGreat.Rf
open Go.RowKit Go.Joins Go.Proofs.YtmpahgklcabihaaGreat.Gk
open Go.Proofs.YtmpahgklcabihaaGreat.Dk (St Bs)
open Go.Proofs.YtmpahgklcabihaaGreat.Rl (En Lo LH ER ptr blk own Tn eenc eenc_len)
open Go.Proofs.YtmpahgklcabihaaGreat.Ba (Bl BB Tu Es)
open Go.Proofs.YtmpahgklcabihaaGreat.Fd (numF txtF fenc fenc_len fenc_one)

theorem Tu.pre {D D' : Nat → Prop} {a b c d : World} (h1 : Below a.heap.size a b) (h2 : Below b.heap.size b c) (h : Tu D D' c d) : Tu D D' a d := (Tu.of_below (h1.trans (h2.mono h1.size))).trans h
abbrev IntT : TypeId := 3
def oth (N : Nd) (k : Nat) : List Nat := (List.range k).filter fun j => j ≠ N.id
theorem oth_yes {N : Nd} {k : Nat} (h : k ≠ N.id) : oth N (k + 1) = oth N k ++ [k] := by
  unfold oth; rw [List.range_succ, List.filter_append]; simp [h]
theorem oth_no {N : Nd} {k : Nat} (h : k = N.id) : oth N (k + 1) = oth N k := by
  unfold oth; rw [List.range_succ, List.filter_append]; simp [h]
theorem oth_len (N : Nd) (k : Nat) : (oth N k).length ≤ k := by
  have := List.length_filter_le (fun j => decide (j ≠ N.id)) (List.range k)
  rw [List.length_range] at this
  exact this
theorem others_lt {N : Nd} {j : Nat} (h : j ∈ N.others) : j < N.ps.length ∧ j ≠ N.id := by
  unfold Nd.others at h
  rw [List.mem_filter, List.mem_range] at h
  exact ⟨h.1, by simpa using h.2⟩

section
variable {nb bd : Nat} {N : Nd} {X : Nat → Prop}
set_option maxRecDepth 100000 in
set_option maxHeartbeats 2000000 in
theorem others_any (w : World) (h : ND w nb bd N X) (hn : N.ps.length ≤ 16) :
    Calls Tryz.prog 76 #[ptr nb] w fun e w' => ∃ a cap, e = .returned (.slice a N.others.length cap) ∧ Gk.Lies w' ienc a (N.others.map fun (j : Nat) => (j : Int)) ∧ (∀ b off, a = some ⟨b, off, none⟩ → w.heap.size ≤ b) ∧ Below w.heap.size w w' := by
  have HI := hide (fun W (hb : Below w.heap.size w W) (x : Int) => isOther_any x W (h.below hb))
  obtain ⟨bb, bl, pb, v, lv, Y, hH, rfl⟩ := h
  have c9 := hH.c 9
  clear hH
  go_enter Tryz.func76, Tryz.ntmps76
  go_wp2
  go_loopw [3, 10] (fun v i wr => ∃ k : Nat, k ≤ N.ps.length ∧ i = .int .i64 k ∧ wr.ownsRow w.heap.size IntT 1 v (oth N k).length (rc ienc ((oth N k).map fun (j : Nat) => (j : Int))) ∧ Below w.heap.size w wr) (fun _ i _ => N.ps.length - (intOf i).toNat)
  case atStart => exact ⟨0, by omega, rfl, by simpa [oth, Gk.rc] using World.ownsRow_nil w w.heap.size IntT 1, Below.refl _ _⟩
  case round =>
    obtain ⟨k, hk, rfl, hv, hbel⟩ := hrel
    have hl := oth_len N k
    by_cases hlt : k < N.ps.length
    · have i1 : (0 : Int) ≤ (k : Int) := by omega
      have i2 : (k : Int) < (N.ps.length : Int) := by omega
      have HK := hide (HI.out wr hbel k)
      by_cases hid : k = N.id
      · rw [decide_eq_false (by omega)] at HK
        have HO := hide (oth_no hid)
        clear hid
        go_wp2_with fail
        refine HK.out.mono ?_
        rintro e w2 ⟨rfl, rfl⟩
        go_wp2
        go_roundw
        case rel => exact ⟨k + 1, by omega, by go_num, by rw [HO.out]; exact hv, hbel⟩
        case measure => simp [intOf]; omega
      · rw [decide_eq_true (by omega)] at HK
        have HO := hide (oth_yes hid)
        have HML := hide (show ((oth N k).map fun (j : Nat) => (j : Int)).length = (oth N k).length from List.length_map _)
        clear hid
        generalize oth N k = T at *
        go_wp2_with fail
        refine HK.out.mono ?_
        rintro e w2 ⟨rfl, rfl⟩
        go_wp2_with (at_builtin; refine Gk.wpList_push (enc := ienc) (k := 1) rfl (.tmp 16) (.tmp 18) 41 rfl IntT (.int .i64 0) 8 Tryz.underlying41 Rl.int_info rfl (by decide) ienc_len ienc_one w.heap.size _ (T.map fun (j : Nat) => (j : Int)) rfl (Gk.own_below (by rw [HML.out]; exact hv) (below_alloc1 w2 _)) w2.heap.size (k : Int) rfl (heap_alloc_new w2 _) ?c1 ?c2 ?c3 ?_)
        case c1 => have := HML.out; omega
        case c2 => have := HML.out; omega
        case c3 => have := hbel.size; simp; omega
        intro v' w3 hv3 hg3 hat3
        have hb3 : Below w.heap.size w w3 := (hbel.alloc hbel.size _).grown hg3 (by have := hbel.size; simp; omega) (fun k hk => (hv.lt k hk).1)
        clear hv hbel hg3 hat3
        go_wp2
        go_roundw
        case rel => exact ⟨k + 1, by omega, by go_num, by rw [HO.out, List.length_append, List.map_append]; exact hv3, hb3⟩
        case measure => simp [intOf]; omega
    · obtain rfl : k = N.ps.length := by omega
      obtain ⟨a, cap, rfl⟩ := Gk.own_slice hv
      have hl : Gk.Lies wr ienc a (N.others.map fun (j : Nat) => (j : Int)) := Row.lies (n := N.others.length) (cap := cap) (e := IntT) (k := 1) (by
        unfold Row; rw [List.length_map]; exact Gk.own_mono hv (Nat.zero_le _))
      have hnw : ∀ b off, a = some ⟨b, off, none⟩ → w.heap.size ≤ b := fun b off e => (hv.lt b (by rw [e]; rfl)).1
      go_wp2
      go_ret
      exact ⟨a, cap, rfl, hl, hnw, hbel⟩

set_option maxRecDepth 100000 in
set_option maxHeartbeats 2000000 in
theorem sendRefusal_any (j : Nat) (w : World) (h : ND w nb bd N X) (hes : N.s.es.length ≤ 1000000) (hls : N.ls.length ≤ 1000000) :
    Calls Tryz.prog 291 #[ptr nb, .int .i64 j] w fun e w' => e = .returned (.tuple #[]) ∧ Goes w w' nb bd (N.sent j (.ans N.s.t false N.s.es.length)) X := by
  have HND := hide h
  obtain ⟨bb, bl, pb, v, lv, Y, hH, rfl⟩ := h
  have c3 := hH.c 3
  have HL := hide (Rl.Last_any bl ⟨0, 0, N.s.es⟩ v w hH.log (by show 0 + N.s.es.length ≤ _; omega))
  rw [show (⟨0, 0, N.s.es⟩ : Lo).last = N.s.es.length by show 0 + N.s.es.length = _; omega] at HL
  clear hH
  go_enter Tryz.func291, Tryz.ntmps291
  go_wp2_with fail
  refine HL.out.mono ?_
  rintro e w1 ⟨rfl, q, rfl⟩
  have hb1 := below_drewN (Below.refl w.heap.size w) q
  have HN1 := hide (HND.out.below hb1)
  generalize w.drewN q = w1 at *
  go_wp2_with fail
  refine (header_any w1 HN1.out).mono ?_
  rintro e w2 ⟨rfl, hb2⟩
  have HN2 := hide (HN1.out.below hb2)
  clear HL c3
  go_wp2_with fail
  refine (send_any j (.ans N.s.t false N.s.es.length) _ w2 HN2.out (.ans _ _ _) trivial hls).mono ?_
  rintro e w3 ⟨rfl, X3, h3, ht3⟩
  go_wp2
  exact bodyPost_end (v := .tuple #[]) (by simp [results, Tryz.results291]) rfl ⟨rfl, X3, h3, (Tu.of_below (hb1.trans (hb2.mono hb1.size))).trans ht3⟩


/-- what is sent keeps all else -/
theorem sendE_fold : ∀ (l : List Nat) (N : Nd), l.foldl Nd.sendE N = { N with ls := (l.foldl Nd.sendE N).ls } ∧ (l.foldl Nd.sendE N).ls.length = N.ls.length + l.length
  | [], _ => ⟨rfl, rfl⟩
  | j :: l, N => by
    obtain ⟨h1, h2⟩ := sendE_fold l (N.sendE j)
    rw [List.foldl_cons]
    refine ⟨h1.trans rfl, ?_⟩
    rw [h2, List.length_cons]
    show (N.ls ++ [_]).length + l.length = _
    rw [List.length_append, List.length_singleton]; omega
/-- a leader's numbers of its others may be -/
structure Nx (N : Nd) : Prop where
  lo : ∀ p ∈ N.ps, 1 ≤ p.nx
  hi : ∀ p ∈ N.ps, p.nx ≤ N.s.es.length + 1
theorem Nd.pr_mem {N : Nd} {j : Nat} (h : j < N.ps.length) : N.pr j ∈ N.ps := by
  unfold Nd.pr; rw [List.getD_eq_getElem?_getD, List.getElem?_eq_getElem h]; exact List.getElem_mem h
theorem Nd.pr_at {N : Nd} {j : Nat} (h : j < N.ps.length) : N.ps[j] = N.pr j := by
  unfold Nd.pr; rw [List.getD_eq_getElem?_getD, List.getElem?_eq_getElem h]; rfl

set_option maxRecDepth 100000 in
set_option maxHeartbeats 4000000 in
theorem sendEntries_any (j : Nat) (w : World) (h : ND w nb bd N X) (hj : j < N.ps.length) (hx : Nx N) (hes : Es N.s.es) (hm : N.s.es.length ≤ 1000000) (hls : N.ls.length ≤ 1000000) :
    Calls Tryz.prog 77 #[ptr nb, .int .i64 j] w fun e w' => e = .returned (.tuple #[]) ∧ Goes w w' nb bd (N.sendE j) X := by
  have HND := hide h
  obtain ⟨bb, bl, pb, v, lv, Y, hH, rfl⟩ := h
  have c9 := hH.c 9
  have HC3 := hide (fun W hb => (hH.below (w' := W) hb).1.c 3)
  have HC7 := hide (fun W hb => (hH.below (w' := W) hb).1.c 7)
  have hp := (hH.pc hj).2.1
  rw [Nd.pr_at hj] at hp
  have h1 := hx.lo _ (Nd.pr_mem hj)
  have h2 := hx.hi _ (Nd.pr_mem hj)
  have HL := hide hH.log
  have HF := hide (show (Lt.ents N.s.t ((N.pr j).nx - 1 : Nat) (N.s.lo.tm ((N.pr j).nx - 1)) N.cm ((N.s.es.drop ((N.pr j).nx - 1)).take 8)).few from ⟨by rw [List.length_take]; omega, fun e he => (hes.each e (List.mem_of_mem_drop (List.mem_of_mem_take he))).2.2⟩)
  unfold Nd.sendE Nd.entsTo
  obtain ⟨nx, hnx⟩ : ∃ nx, (N.pr j).nx = nx := ⟨_, rfl⟩
  rw [hnx] at h1 h2 hp HF ⊢
  have HT := hide (fun W (hb : Below w.heap.size w W) => Rl.Term_yes bl ⟨0, 0, N.s.es⟩ v (nx - 1) W (HL.out.below hb) (by show 0 + N.s.es.length ≤ _; omega) (Nat.zero_le _) (by show nx - 1 ≤ 0 + N.s.es.length; omega))
  have HS := hide (fun W (hb : Below w.heap.size w W) => Rl.Slice_ok bl ⟨0, 0, N.s.es⟩ v (nx - 1) 8 (by decide) W (HL.out.below hb) (by show 0 + N.s.es.length ≤ _; omega) (by show nx - 1 ≤ N.s.es.length; omega) hes.ds)
  have en : ((0 + 1 + (nx - 1) : Nat) : Int) = (nx : Int) := by omega
  have ew : IntKind.i64.wrap ((nx : Int) - 1) = ((nx - 1 : Nat) : Int) := by rw [Ba.wrap_in (by omega) (by omega)]; omega
  have ek : ((N.s.es.drop (nx - 1)).take (min (8 : Int).toNat (N.s.es.length - (nx - 1)))) = (N.s.es.drop (nx - 1)).take 8 := by
    rcases Nat.le_total 8 (N.s.es.length - (nx - 1)) with h | h
    · rw [show min (8 : Int).toNat (N.s.es.length - (nx - 1)) = 8 from Nat.min_eq_left h]
    · rw [show min (8 : Int).toNat (N.s.es.length - (nx - 1)) = N.s.es.length - (nx - 1) from Nat.min_eq_right h, List.take_of_length_le (by rw [List.length_drop]; exact Nat.le_refl _), List.take_of_length_le (by rw [List.length_drop]; exact h)]
  dsimp only at HS HT
  rw [en, ek] at HS
  have g1 : (0 : Int) ≤ (j : Int) := by omega
  have g2 : (j : Int) < (N.ps.length : Int) := by omega
  have c3 := HC3.out w (Below.refl _ _)
  clear hH hnx en ek
  obtain ⟨pn, hpn⟩ : ∃ pn, nx - 1 = pn := ⟨_, rfl⟩
  rw [hpn] at HT HS HF ew ⊢
  have hpz : pn ≤ 1000000 := by omega
  clear hpn
  generalize N.s.lo.tm pn = tm at *
  generalize (N.s.es.drop pn).take 8 = es at *
  go_enter Tryz.func77, Tryz.ntmps77
  go_wp2_with fail
  refine (HT.out _ (Below.refl _ _)).mono ?_
  rintro e w1 ⟨rfl, q, rfl⟩
  have hb1 := below_drewN (Below.refl w.heap.size w) q
  generalize w.drewN q = w1 at *
  have c31 := HC3.out w1 hb1
  have HB1 := hide hb1
  clear HT c9 c3 hp hb1
  go_wp2_with fail
  refine (HS.out _ HB1.out).mono ?_
  rintro e w2 ⟨v2, rfl, hE, _, hb2⟩
  obtain ⟨a2, cap2, rfl, _⟩ := hE.slice
  have HB2 := hide (HB1.out.trans (hb2.mono HB1.out.size))
  have HE2 := hide hE.lies
  have c72 := HC7.out w2 HB2.out
  clear HS hb2 hE c31
  have HSN := hide (fun W (hb : Below w2.heap.size w2 W) => send_any j (.ents N.s.t pn tm N.cm es) _ W (HND.out.below (HB2.out.trans (hb.mono HB2.out.size))) (.ents _ _ _ _ _ a2 cap2 (HE2.out.below hb)) HF.out hls)
  have HHD := hide (fun W (hb : Below w2.heap.size w2 W) => header_any W (HND.out.below (HB2.out.trans (hb.mono HB2.out.size))))
  have HC := hide (fun W (hb : Below w2.heap.size w2 W) => HC7.out W (HB2.out.trans (hb.mono HB2.out.size)))
  go_upto_region 3 with fail
  go_region_law (first | (go_simp; go_at_call 82; refine (HHD.out _ (by first | exact Below.refl _ _ | exact (Below.refl _ _).drew | exact ((Below.refl _ _).drew).drew)).mono ?_; rintro e w3 ⟨rfl, hb3⟩; have hb23 : Below w2.heap.size w2 w3 := (by first | exact hb3 | exact ((Below.refl _ _).drew).trans hb3); have c73 := HC.out w3 hb23) | (go_simp; go_at_call 81; refine (HSN.out _ (by first | exact hb23 | exact hb23.drew | exact hb23.drew.drew)).mono ?_; rintro e w4 ⟨rfl, X4, h4, ht4⟩))
  all_goals
    go_wp2
    refine bodyPost_end (v := .tuple #[]) (by simp [results, Tryz.results77]) rfl ⟨rfl, X4, h4, Tu.pre HB2.out ?_ ht4⟩
    first | exact hb23 | exact hb23.drew | exact hb23.drew.drew

set_option maxRecDepth 100000 in
set_option maxHeartbeats 2000000 in
theorem sendAll_any (w : World) (h : ND w nb bd N X) (hn : N.ps.length ≤ 16) (hx : Nx N) (hes : Es N.s.es) (hm : N.s.es.length ≤ 1000000) (hls : N.ls.length ≤ 900000) :
    Calls Tryz.prog 43 #[ptr nb] w fun e w' => e = .returned (.tuple #[]) ∧ Goes w w' nb bd N.sendAll X := by
  have HO := hide (others_any w h hn)
  have HND := hide h
  have hol : N.others.length ≤ 16 := Nat.le_trans (oth_len N N.ps.length) hn
  clear h
  go_enter Tryz.func43, Tryz.ntmps43
  go_wp2_with fail
  refine HO.out.mono ?_
  clear HO
  rintro e w1 ⟨a, cap, rfl, hl, hnw, hb1⟩
  have HND1 := hide (HND.out.below hb1)
  have HNX : ∀ b off, a = some ⟨b, off, none⟩ → ¬ X b := fun b off e hX => by have := HND.out.lt hX; have := hnw b off e; omega
  have HB1 := hide hb1
  clear HND hb1 hnw
  go_wp2
  go_loopw [7] (fun i wr => ∃ k : Nat, k ≤ N.others.length ∧ i = .int .i64 k ∧ ∃ X', ND wr nb bd ((N.others.take k).foldl Nd.sendE N) X' ∧ Tu X X' w1 wr) (fun i _ => N.others.length - (intOf i).toNat)
  case atStart => exact ⟨0, by omega, rfl, X, HND1.out, Tu.refl _ _⟩
  case round =>
    obtain ⟨k, hk, rfl, X', hN', ht'⟩ := hrel
    by_cases hlt : k < N.others.length
    · have hlr : Gk.Lies wr ienc a (N.others.map fun (j : Nat) => (j : Int)) := hl.later (fun b off e hbl => (ht'.stay hbl (HNX b off e)).1) ht'.size
      obtain ⟨b, off, rfl, hblt, hc⟩ := hlr.at ienc_len k (by rw [List.length_map]; exact hlt)
      have c0 := hc 0 _ rfl
      rw [Nat.mul_one, Nat.add_zero, List.getElem_map] at c0
      have hmem := others_lt (List.getElem_mem hlt)
      have HT := hide (show (N.others.take (k + 1)).foldl Nd.sendE N = ((N.others.take k).foldl Nd.sendE N).sendE N.others[k] by
        rw [List.take_succ_eq_append_getElem hlt, List.foldl_append]; rfl)
      obtain ⟨f1, f2⟩ := sendE_fold (N.others.take k) N
      rw [List.length_take] at f2
      generalize N.others[k] = j at *
      generalize (N.others.take k).foldl Nd.sendE N = M at *
      have p1 : M.ps = N.ps := by rw [f1]
      have p2 : M.s = N.s := by rw [f1]
      have HS := hide (sendEntries_any j wr hN' (by rw [p1]; exact hmem.1) ⟨by rw [p1]; exact hx.lo, by rw [p1, p2]; exact hx.hi⟩ (by rw [p2]; exact hes) (by rw [p2]; exact hm) (by omega))
      have i1 : (0 : Int) ≤ (k : Int) := by omega
      have i2 : (k : Int) < (N.others.length : Int) := by omega
      clear hc hlr hN' f1 f2 p1 p2
      go_wp2_with fail
      refine HS.out.mono ?_
      rintro e w2 ⟨rfl, X2, h2, ht2⟩
      go_wp2
      go_roundw
      case rel => exact ⟨k + 1, by omega, by go_num, X2, by rw [HT.out]; exact h2, ht'.trans ht2⟩
      case measure => simp [intOf]; omega
    · obtain rfl : k = N.others.length := by omega
      rw [List.take_length] at hN'
      go_wp2
      exact bodyPost_end (v := .tuple #[]) (by simp [results, Tryz.results43]) rfl ⟨rfl, X', hN', (Tu.of_below HB1.out).trans ht'⟩
end
end Go.Proofs.YtmpahgklcabihaaGreat.Rf

namespace Go.Proofs.YtmpahgklcabihaaGreat.Rf
open Go.RowKit Go.Joins Go.Proofs.YtmpahgklcabihaaGreat.Gk
open Go.Proofs.YtmpahgklcabihaaGreat.Dk (St Bs)
open Go.Proofs.YtmpahgklcabihaaGreat.Rl (En Lo LH ER ptr blk own Tn eenc eenc_len agr nmb mcode May1)
open Go.Proofs.YtmpahgklcabihaaGreat.Ba (Bl BB Tu Es trn cst mgd)

theorem mcode_one {t : Int} {f : Nat} {e : En} (h : mcode t (nmb f [e]) = 0) : 1 ≤ e.t ∧ e.t ≤ 1073741824 ∧ t ≤ e.t ∧ e.d.size ≤ 4096 ∧ f ≤ 1048576 := by
  unfold mcode at h
  split at h
  · cases h
  · rename_i hb
    have hb' : ¬ (e.t < 1 ∨ 1073741824 < e.t) := fun hx => hb ⟨(f, e), by simp [nmb], hx⟩
    simp only [Rl.mfs, nmb, List.foldl_cons, List.foldl_nil, Rl.Mf.step, Bool.false_or] at h
    split at h
    · cases h
    · split at h
      · cases h
      · rename_i h1 h2
        simp only [decide_eq_true_eq, Bool.or_eq_true, not_or] at h1 h2
        omega
/-- what appending comes to -/
theorem mgd_one (S : St) (s : Bl) (d : ByteArray) :
    ((mgd S s s.es.length [⟨s.t, d⟩]).2.1 = 0 ∧ (mgd S s s.es.length [⟨s.t, d⟩]).1 = (s.es.length + 1 : Nat) ∧ (mgd S s s.es.length [⟨s.t, d⟩]).2.2.2 = ⟨s.t, s.v, s.es ++ [⟨s.t, d⟩]⟩ ∧ May1 s.lo ⟨s.t, d⟩) ∨
      ((mgd S s s.es.length [⟨s.t, d⟩]).2.1 ≠ 0 ∧ (mgd S s s.es.length [⟨s.t, d⟩]).1 = 0 ∧ (mgd S s s.es.length [⟨s.t, d⟩]).2.2.2 = s) := by
  unfold mgd
  split
  · rename_i h; exact Or.inr ⟨h, rfl, rfl⟩
  · rename_i hc
    have hc : mcode (s.lo.tm s.es.length) (nmb (s.es.length + 1) [⟨s.t, d⟩]) = 0 := by simpa using hc
    obtain ⟨h1, h2, h3, h4, h5⟩ := mcode_one hc
    have hl : s.lo.last = s.es.length := by show 0 + s.es.length = _; omega
    have hme : (s.lo.mrg s.es.length [⟨s.t, d⟩]).1.es = s.es ++ [⟨s.t, d⟩] := by
      have := Rl.mrg_one s.lo ⟨s.t, d⟩
      rw [show s.lo.es.length = s.es.length from rfl] at this
      rw [this]
    split
    · refine Or.inl ⟨rfl, rfl, ?_, ⟨h1, h2, by rw [hl]; exact h3, h4, by rw [hl]; omega⟩⟩
      show (⟨s.t, s.v, (s.lo.mrg s.es.length [⟨s.t, d⟩]).1.es⟩ : Bl) = _
      rw [hme]
    · rename_i h; exact Or.inr ⟨by simpa using h, rfl, rfl⟩
def Nd.app (N : Nd) (d : ByteArray) : Int × Int × Nd :=
  ((mgd N.S N.s N.s.es.length [⟨N.s.t, d⟩]).1, (mgd N.S N.s N.s.es.length [⟨N.s.t, d⟩]).2.1, N.put (mgd N.S N.s N.s.es.length [⟨N.s.t, d⟩]).2.2.1 (mgd N.S N.s N.s.es.length [⟨N.s.t, d⟩]).2.2.2)
section
variable {nb bd : Nat} {N : Nd} {X : Nat → Prop}
set_option maxRecDepth 100000 in
set_option maxHeartbeats 4000000 in
theorem append_any (d : ByteArray) (w : World) (h : ND w nb bd N X) (hs : N.s.Ok N.ps.length) (hm : N.s.es.length ≤ 1000000) :
    Calls Tryz.prog 74 #[ptr nb, .string d] w fun e w' => e = .returned (.tuple #[.int .i64 (N.app d).1, .int .i64 (N.app d).2.1]) ∧ Goes w w' nb bd (N.app d).2.2 X := by
  obtain ⟨bb, bl, pb, v, lv, Y, hH, rfl⟩ := h
  have c2 := hH.c 2
  have HA := hide (Ba.Append_any (bb := bb) (bd := bd) d w hH.bal hs hm)
  have HM := hide (mgd_one N.S N.s d)
  have HH := hide hH
  unfold Nd.app
  generalize mgd N.S N.s N.s.es.length [⟨N.s.t, d⟩] = M at *
  obtain ⟨n, c, S', s'⟩ := M
  dsimp only at HA HM ⊢
  clear hH
  rcases HM.out with ⟨rfl, rfl, rfl, hM1⟩ | ⟨hc, rfl, rfl⟩
  · have HM1 := hide hM1
    clear hM1 HM
    go_enter Tryz.func74, Tryz.ntmps74
    go_wp2_with fail
    refine HA.out.mono ?_
    clear HA
    rintro e w1 ⟨rfl, Y1, hB1, ht1⟩
    obtain ⟨hH1, hT1⟩ := HH.out.turnB hB1 ht1
    have d2 := hH1.c 2
    have d3 := hH1.c 3
    have HT := hide (fun W (hb : Below w1.heap.size w1 W) => Ba.Term_any W (hB1.below hb))
    have HLA := hide (fun W (hb : Below w1.heap.size w1 W) => show Calls Tryz.prog 120 #[ptr bl, .agg #[.int .i64 N.s.t, .string d]] W fun r w' => r = .returned (.tuple #[.int .i64 ((N.s.es.length + 1 : Nat) : Int), .int .i64 0]) ∧ (∃ v', LH w' bl ⟨0, 0, N.s.es ++ [⟨N.s.t, d⟩]⟩ v') ∧ Tn bl w1 w' by
      refine (Rl.Append_ok bl ⟨0, 0, N.s.es⟩ v ⟨N.s.t, d⟩ W (hH1.log.below hb) HM1.out).mono ?_
      rw [show (⟨0, 0, N.s.es⟩ : Lo).last + 1 = N.s.es.length + 1 by show 0 + N.s.es.length + 1 = _; omega]
      rintro r w' ⟨rfl, hv, hT⟩
      exact ⟨rfl, hv, (hH1.log.tn hb).trans hT⟩)
    have HH1 := hide hH1
    have HT1 := hide hT1
    clear HH hH1 hT1 hB1 ht1 c2 HM1
    go_upto_region 4 with fail
    go_region_law (first | (go_simp; go_at_call 42; refine (HT.out _ (by first | exact Below.refl _ _ | exact (Below.refl _ _).drew | exact (Below.refl _ _).drew.drew)).mono ?_; rintro e w2 ⟨rfl, rfl⟩) | (go_simp; go_at_call 120; refine (HLA.out _ (by first | exact Below.refl _ _ | exact (Below.refl _ _).drew | exact (Below.refl _ _).drew.drew | exact (Below.refl _ _).drew.drew.drew)).mono ?_; rintro e w3 ⟨rfl, ⟨v3, hL3⟩, hT3⟩))
    all_goals
      obtain ⟨hH3, hT4⟩ := HH1.out.turnL hL3 hT3
      have HF := hide (And.intro hH3 hT4)
      clear hH3 hT4 hL3 hT3
      go_wp2
      go_ret2
      exact ⟨rfl, _, HF.out.1.pack, HT1.out.trans HF.out.2⟩
  · go_enter Tryz.func74, Tryz.ntmps74
    go_wp2_with fail
    refine HA.out.mono ?_
    clear HA
    rintro e w1 ⟨rfl, Y1, hB1, ht1⟩
    obtain ⟨hH1, hT1⟩ := HH.out.turnB hB1 ht1
    clear HH hB1 ht1 c2 HM
    go_wp2
    go_ret2
    exact ⟨rfl, _, hH1.pack, hT1⟩
end
end Go.Proofs.YtmpahgklcabihaaGreat.Rf

namespace Go.Proofs.YtmpahgklcabihaaGreat.Rf
open Go.RowKit Go.Joins Go.Proofs.YtmpahgklcabihaaGreat.Gk
open Go.Proofs.YtmpahgklcabihaaGreat.Dk (St Bs)
open Go.Proofs.YtmpahgklcabihaaGreat.Rl (En Lo LH ER ptr blk own Tn eenc eenc_len agr nmb mcode May1)
open Go.Proofs.YtmpahgklcabihaaGreat.Ba (Bl BB Tu Es trn cst mgd)

section
variable {nb bd : Nat} {N : Nd} {X : Nat → Prop}
set_option maxRecDepth 100000 in
set_option maxHeartbeats 4000000 in
theorem commit_any (w : World) (h : ND w nb bd N X) (hn : N.ps.length ≤ 16) (hm : N.s.es.length ≤ 1000000) (hcm : 0 ≤ N.cm) :
    Calls Tryz.prog 75 #[ptr nb] w fun e w' => e = .returned (.tuple #[]) ∧ Goes w w' nb bd N.commit X := by
  have HND := hide h
  have HO := hide (fun W (hb : Below w.heap.size w W) => others_any W (h.below hb) hn)
  have hol : N.others.length ≤ 16 := Nat.le_trans (oth_len N N.ps.length) hn
  obtain ⟨bb, bl, pb, v, lv, Y, hH, rfl⟩ := h
  have HC := hide (fun W (hb : Below w.heap.size w W) => (hH.below hb).1)
  have HNO := hide (fun W (hb : Below w.heap.size w W) => (hH.below hb).2)
  have hml : N.matches.length ≤ 17 := by unfold Nd.matches; rw [List.length_cons, List.length_map]; omega
  have c3 := hH.c 3
  have HLh := hide (fun W (hb : Below w.heap.size w W) => hH.log.below hb)
  have HL := hide (Rl.Last_any bl ⟨0, 0, N.s.es⟩ v w hH.log (by show 0 + N.s.es.length ≤ _; omega))
  rw [show (⟨0, 0, N.s.es⟩ : Lo).last = N.s.es.length by show 0 + N.s.es.length = _; omega] at HL
  clear hH
  go_enter Tryz.func75, Tryz.ntmps75
  go_wp2_with fail
  refine HL.out.mono ?_
  clear HL
  rintro e w1 ⟨rfl, q, rfl⟩
  have hb1 := below_drewN (Below.refl w.heap.size w) q
  generalize w.drewN q = w1 at *
  have hb11 : Below w.heap.size w (w1.alloc (.cells #[.int .i64 N.s.es.length] IntT)) := hb1.alloc hb1.size _
  have hr0 : (w1.alloc (.cells #[.int .i64 N.s.es.length] IntT)).ownsRow w.heap.size IntT 1 (.slice (some ⟨w1.heap.size, 0, none⟩) 1 1) 1 (rc ienc [(N.s.es.length : Int)]) :=
    ⟨rfl, Or.inr ⟨w1.heap.size, 1, _, rfl, hb1.size, heap_alloc_new w1 _, Nat.le_refl _, by decide, rfl, rfl⟩⟩
  clear c3
  go_wp2_with fail
  refine (HO.out _ hb11).mono ?_
  clear HO
  rintro e w2 ⟨a, cap, rfl, hl, hnw, hb2⟩
  have hb2w : Below w.heap.size w w2 := hb11.trans (hb2.mono hb11.size)
  have hr2 := Gk.own_below hr0 hb2
  have hne2 : ∀ b off, a = some ⟨b, off, none⟩ → (Value.slice (some ⟨w1.heap.size, 0, none⟩) 1 1).ownBlock ≠ some b := fun b off e e' => by
    have := hnw b off e; simp [Value.ownBlock] at this e'; omega
  clear hb1 hb11 hr0 hb2 hnw
  go_wp2
  go_loopw [4, 20] (fun v i wr => ∃ k : Nat, k ≤ N.others.length ∧ i = .int .i64 k ∧ wr.ownsRow w.heap.size IntT 1 v (k + 1) (rc ienc ((N.s.es.length : Int) :: (N.others.take k).map fun j => ((N.pr j).mt : Int))) ∧ Below w.heap.size w wr ∧ Gk.Lies wr ienc a (N.others.map fun (j : Nat) => (j : Int)) ∧ ∀ b off, a = some ⟨b, off, none⟩ → v.ownBlock ≠ some b) (fun _ i _ => N.others.length - (intOf i).toNat)
  case atStart => exact ⟨0, by omega, rfl, hr2, hb2w, hl, hne2⟩
  case round =>
    clear hr2 hb2w hl hne2
    obtain ⟨k, hk, rfl, hv, hbel, hl, hne⟩ := hrel
    by_cases hlt : k < N.others.length
    · have HLI := hide (And.intro hl hne)
      obtain ⟨b, off, rfl, hblt, hc⟩ := hl.at ienc_len k (by rw [List.length_map]; exact hlt)
      have c0 := hc 0 _ rfl
      rw [Nat.mul_one, Nat.add_zero, List.getElem_map] at c0
      have hmem := others_lt (List.getElem_mem hlt)
      have HT := hide (show ((N.s.es.length : Int) :: (N.others.take (k + 1)).map fun j => ((N.pr j).mt : Int)) = ((N.s.es.length : Int) :: (N.others.take k).map fun j => ((N.pr j).mt : Int)) ++ [((N.pr N.others[k]).mt : Int)] by
        rw [List.take_succ_eq_append_getElem hlt, List.map_append]; rfl)
      have HML := hide (show ((N.s.es.length : Int) :: (N.others.take k).map fun j => ((N.pr j).mt : Int)).length = k + 1 by rw [List.length_cons, List.length_map, List.length_take]; omega)
      generalize N.others[k] = j at *
      have c9 := (HC.out wr hbel).c 9
      have hp := ((HC.out wr hbel).pc hmem.1).2.2
      rw [Nd.pr_at hmem.1] at hp
      have g1 : (0 : Int) ≤ (j : Int) := by omega
      have g2 : (j : Int) < (N.ps.length : Int) := by have := hmem.1; omega
      have i1 : (0 : Int) ≤ (k : Int) := by omega
      have i2 : (k : Int) < (N.others.length : Int) := by omega
      generalize ((N.s.es.length : Int) :: (N.others.take k).map fun j => ((N.pr j).mt : Int)) = T at *
      have HMT := hide (show ((N.pr j).mt : Int) = (N.pr j).mt from rfl)
      generalize (N.pr j).mt = mt at *
      clear hc HMT
      go_wp2_with (at_builtin; refine Gk.wpList_push (enc := ienc) (k := 1) rfl (.tmp 24) (.tmp 33) 41 rfl IntT (.int .i64 0) 8 Tryz.underlying41 Rl.int_info rfl (by decide) ienc_len ienc_one w.heap.size _ T rfl (Gk.own_below (by rw [HML.out]; exact hv) (below_alloc1 wr _)) wr.heap.size (mt : Int) rfl (heap_alloc_new wr _) ?c1 ?c2 ?c3 ?_)
      case c1 => have := HML.out; omega
      case c2 => have := HML.out; omega
      case c3 => have := hbel.size; simp; omega
      intro v' w3 hv3 hg3 hat3
      have hb3 : Below w.heap.size w w3 := (hbel.alloc hbel.size _).grown hg3 (by have := hbel.size; simp; omega) (fun k hk => (hv.lt k hk).1)
      have hl3 : Gk.Lies w3 ienc (some ⟨b, off, none⟩) (N.others.map fun (j : Nat) => (j : Int)) := by
        refine HLI.out.1.later (fun b' off' e hlt' => ?_) (Nat.le_trans (by simp) hg3.size)
        rw [hg3.block b' (by simp; omega) fun e' => HLI.out.2 b' off' e e'.symm, heap_alloc_old _ _ (by omega)]
      have hne3 : ∀ b' off', (some ⟨b, off, none⟩ : Option Addr) = some ⟨b', off', none⟩ → v'.ownBlock ≠ some b' := fun b' off' e e' => by
        rcases hat3 b' e' with h1 | h1
        · exact HLI.out.2 b' off' e h1
        · cases e; first | omega | (simp at h1; omega)
      clear hv hbel hg3 hat3 hl hne HLI
      go_wp2
      go_roundw
      case rel => exact ⟨k + 1, by omega, by go_num, by rw [HT.out]; rw [HML.out] at hv3; exact hv3, hb3, hl3, hne3⟩
      case measure => simp [intOf]; omega
    · obtain rfl : k = N.others.length := by omega
      rw [List.take_length] at hv
      obtain ⟨av, cv, rfl⟩ := Gk.own_slice hv
      have hmm : N.matches.length = N.others.length + 1 := by unfold Nd.matches; rw [List.length_cons, List.length_map]
      have hlm : Gk.Lies wr ienc av N.matches := Row.lies (n := N.matches.length) (cap := cv) (e := IntT) (k := 1) (by rw [hmm]; unfold Row; rw [hmm]; exact Gk.own_mono hv (Nat.zero_le _))
      have HAG := hide (fun W (hb : Below wr.heap.size wr W) => Rl.Agreed_ok bl ⟨0, 0, N.s.es⟩ v av cv N.matches (by unfold Nd.matches; simp) (by omega) N.s.t N.cm hcm W (HLh.out W (hbel.trans (hb.mono hbel.size))) (by show 0 + N.s.es.length ≤ _; omega) (hlm.below hb))
      have HT := hide (fun W (hb : Below wr.heap.size wr W) => Ba.Term_any W (HC.out W (hbel.trans (hb.mono hbel.size))).bal)
      have HCW := hide (fun W (hb : Below wr.heap.size wr W) => (HC.out W (hbel.trans (hb.mono hbel.size))).c)
      have HBW := hide hbel
      have e2 := HCW.out wr (Below.refl _ _) 2
      have e3 := HCW.out wr (Below.refl _ _) 3
      have e7 := HCW.out wr (Below.refl _ _) 7
      rw [hmm] at HAG
      clear hv hbel hl hne hlm hmm
      go_upto_region 7 with fail
      go_region_law (first | (go_simp; go_at_call 42; refine (HT.out _ (by first | exact Below.refl _ _ | exact (Below.refl _ _).drew | exact (Below.refl _ _).drew.drew)).mono ?_; rintro e w4 ⟨rfl, rfl⟩) | (go_simp; go_at_call 121; refine (HAG.out _ (by first | exact Below.refl _ _ | exact (Below.refl _ _).drew | exact (Below.refl _ _).drew.drew | exact (Below.refl _ _).drew.drew.drew)).mono ?_; rintro e w5 ⟨rfl, hb5⟩; have hb5' : Below wr.heap.size wr w5 := (by first | exact hb5 | exact (Below.refl _ _).drew.trans hb5 | exact (Below.refl _ _).drew.drew.trans hb5 | exact (Below.refl _ _).drew.drew.drew.trans hb5); have q7 := HCW.out w5 hb5' 7; have z7 := (HC.out w5 (HBW.out.trans (hb5'.mono HBW.out.size))).fz 7))
      all_goals
        have hbw5 := HBW.out.trans (hb5'.mono HBW.out.size)
        have hset := (HC.out w5 hbw5).set 7 (.int .i64 (agr N.s.lo N.matches N.s.t N.cm)) N.commit rfl rfl rfl rfl rfl
        rw [HNO.out w5 hbw5] at hset
        have HF := hide hset
        have HB := hide hbw5
        clear hset hbw5 hb5 hb5'
        go_wp2
        exact bodyPost_end (v := .tuple #[]) (by simp [results, Tryz.results75]) rfl ⟨rfl, _, HF.out.1.pack, (Tu.of_below HB.out).trans HF.out.2⟩
end
end Go.Proofs.YtmpahgklcabihaaGreat.Rf

namespace Go.Proofs.YtmpahgklcabihaaGreat.Rf
open Go.RowKit Go.Joins Go.Proofs.YtmpahgklcabihaaGreat.Gk
open Go.Proofs.YtmpahgklcabihaaGreat.Dk (St Bs)
open Go.Proofs.YtmpahgklcabihaaGreat.Rl (En Lo LH ER ptr blk own Tn eenc eenc_len agr nmb mcode May1)
open Go.Proofs.YtmpahgklcabihaaGreat.Ba (Bl BB Tu Es trn cst mgd)

theorem app_ok {n : Int} {s : Bl} {d : ByteArray} (hs : s.Ok n) (h : May1 s.lo ⟨s.t, d⟩) : (⟨s.t, s.v, s.es ++ [⟨s.t, d⟩]⟩ : Bl).Ok n := by
  have e : (Ba.Rc.en ⟨s.t, d⟩).do s = ⟨s.t, s.v, s.es ++ [⟨s.t, d⟩]⟩ := rfl
  rw [← e]
  refine hs.do ⟨h.t1, h.t2, h.d⟩ ⟨Int.le_refl _, ?_⟩
  rw [← Ba.lt_tm]; exact h.st
/-- a node may be asked -/
structure Nd.Ok (N : Nd) : Prop where
  idn : N.id < N.ps.length
  nn : N.ps.length ≤ 16
  bal : N.s.Ok N.ps.length
  many : N.s.es.length ≤ 900000
  ls : N.ls.length ≤ 800000
  cm : 0 ≤ N.cm
  nx : N.role = 2 → Nx N
section
variable {nb bd : Nat} {N : Nd} {X : Nat → Prop}
set_option maxRecDepth 100000 in
set_option maxHeartbeats 4000000 in
theorem extend_any (d : ByteArray) (w : World) (h : ND w nb bd N X) (hok : N.Ok) (hx : Nx N) :
    Calls Tryz.prog 41 #[ptr nb, .string d] w fun e w' => e = .returned (.tuple #[.int .i64 (N.extend d).1, .int .i64 (N.extend d).2.1]) ∧ Goes w w' nb bd (N.extend d).2.2 X := by
  have hm := hok.many
  have HA := hide (append_any d w h hok.bal (by omega))
  have HE : N.extend d = if (N.app d).2.1 = 0 then ((N.app d).1, 0, if N.ps.length = 1 then (N.app d).2.2.sendAll.commit else (N.app d).2.2.sendAll) else (0, (N.app d).2.1, (N.app d).2.2) := rfl
  have HM := mgd_one N.S N.s d
  rw [HE]
  clear HE h
  by_cases hc : (N.app d).2.1 = 0
  · rw [if_pos hc]
    obtain ⟨M, hM⟩ : ∃ M, (N.app d).2.2 = M := ⟨_, rfl⟩
    have hMe : M.s = ⟨N.s.t, N.s.v, N.s.es ++ [⟨N.s.t, d⟩]⟩ ∧ M.s.Ok N.ps.length := by
      rcases HM with ⟨_, _, h3, h4⟩ | ⟨h1, _⟩
      · have e : M.s = ⟨N.s.t, N.s.v, N.s.es ++ [⟨N.s.t, d⟩]⟩ := by rw [← hM]; exact h3
        exact ⟨e, by rw [e]; exact app_ok hok.bal h4⟩
      · exact absurd hc h1
    have hps : M.ps = N.ps := by rw [← hM]; rfl
    have hls : M.ls = N.ls := by rw [← hM]; rfl
    have hcm : M.cm = N.cm := by rw [← hM]; rfl
    have hml : M.s.es.length = N.s.es.length + 1 := by rw [hMe.1]; simp
    rw [hc, hM] at HA
    rw [hM]
    generalize (N.app d).1 = nv at *
    have HS := hide (fun W X1 (hN : ND W nb bd M X1) => sendAll_any W hN (by rw [hps]; exact hok.nn) ⟨by rw [hps]; exact hx.lo, by rw [hps, hml]; exact fun p hp => by have := hx.hi p hp; omega⟩ (hMe.2.es (by omega)) (by omega) (by have := hok.ls; rw [hls]; omega))
    obtain ⟨f1, f2⟩ := sendE_fold M.others M
    have HC := hide (fun W X1 (hN : ND W nb bd M.sendAll X1) => commit_any W hN (by unfold Nd.sendAll; rw [f1]; show M.ps.length ≤ 16; rw [hps]; exact hok.nn) (by unfold Nd.sendAll; rw [f1]; show M.s.es.length ≤ 1000000; omega) (by unfold Nd.sendAll; rw [f1]; show 0 ≤ M.cm; rw [hcm]; exact hok.cm))
    have HP := hide (show M.sendAll.ps = N.ps by unfold Nd.sendAll; rw [f1]; exact hps)
    clear f1 f2 hM HM hMe hls hcm hml hc hps
    by_cases h1 : N.ps.length = 1
    · rw [if_pos h1]
      have h1' : (N.ps.length : Int) = 1 := by omega
      go_enter Tryz.func41, Tryz.ntmps41
      go_wp2_with fail
      refine HA.out.mono ?_
      clear HA
      rintro e w1 ⟨rfl, X1, h1, ht1⟩
      go_wp2_with fail
      refine (HS.out w1 X1 h1).mono ?_
      clear HS h1
      rintro e w2 ⟨rfl, X2, h2, ht2⟩
      have H2 := hide h2
      obtain ⟨bb, bl, pb, v, lv, Y, hH, hX⟩ := h2
      have c9 : w2.cell? ⟨nb, 9, none⟩ = some (.slice (some ⟨pb, 0, none⟩) M.sendAll.ps.length M.sendAll.ps.length) := hH.c 9
      rw [HP.out] at c9
      have hT := ht1.trans ht2
      clear hH hX ht1 ht2
      go_wp2_with fail
      refine (HC.out w2 X2 H2.out).mono ?_
      rintro e w3 ⟨rfl, X3, h3, ht3⟩
      go_wp2
      go_ret2
      exact ⟨rfl, X3, h3, hT.trans ht3⟩
    · rw [if_neg h1]
      have h1' : ¬ (N.ps.length : Int) = 1 := by omega
      go_enter Tryz.func41, Tryz.ntmps41
      go_wp2_with fail
      refine HA.out.mono ?_
      clear HA
      rintro e w1 ⟨rfl, X1, h1, ht1⟩
      go_wp2_with fail
      refine (HS.out w1 X1 h1).mono ?_
      clear HS h1
      rintro e w2 ⟨rfl, X2, h2, ht2⟩
      have H2 := hide h2
      obtain ⟨bb, bl, pb, v, lv, Y, hH, hX⟩ := h2
      have c9 : w2.cell? ⟨nb, 9, none⟩ = some (.slice (some ⟨pb, 0, none⟩) M.sendAll.ps.length M.sendAll.ps.length) := hH.c 9
      rw [HP.out] at c9
      have hT := ht1.trans ht2
      clear hH hX ht1 ht2
      go_wp2
      go_ret2
      exact ⟨rfl, X2, H2.out, hT⟩
  · rw [if_neg hc]
    generalize (N.app d).2.1 = c at *
    go_enter Tryz.func41, Tryz.ntmps41
    go_wp2_with fail
    refine HA.out.mono ?_
    rintro e w1 ⟨rfl, X1, h1, ht1⟩
    go_wp2
    go_ret2
    exact ⟨rfl, X1, h1, ht1⟩

set_option maxRecDepth 100000 in
set_option maxHeartbeats 2000000 in
theorem Propose_no (d : ByteArray) (w : World) (h : ND w nb bd N X) (hr : ¬ N.role = 2) :
    Calls Tryz.prog 16 #[ptr nb, .string d] w fun e w' => e = .returned (.tuple #[.int .i64 0, .int .i64 190]) ∧ w' = w := by
  obtain ⟨bb, bl, pb, v, lv, Y, hH, hX⟩ := h
  have c4 := hH.c 4
  clear hH
  go_enter Tryz.func16, Tryz.ntmps16
  go_wp2
  go_ret2
  exact ⟨rfl, rfl⟩
set_option maxRecDepth 100000 in
set_option maxHeartbeats 2000000 in
theorem Propose_yes (d : ByteArray) (w : World) (h : ND w nb bd N X) (hok : N.Ok) (hr : N.role = 2) :
    Calls Tryz.prog 16 #[ptr nb, .string d] w fun e w' => e = .returned (.tuple #[.int .i64 (N.extend d).1, .int .i64 (N.extend d).2.1]) ∧ Goes w w' nb bd (N.extend d).2.2 X := by
  have HE := hide (extend_any d w h hok (hok.nx hr))
  obtain ⟨bb, bl, pb, v, lv, Y, hH, hX⟩ := h
  have c4 : w.cell? ⟨nb, 4, none⟩ = some (.int .i64 N.role) := hH.c 4
  clear hH
  rw [hr] at c4
  go_enter Tryz.func16, Tryz.ntmps16
  go_wp2_with fail
  refine HE.out.mono ?_
  rintro e w1 ⟨rfl, hG⟩
  go_wp2
  go_ret2
  exact ⟨rfl, hG⟩
end
end Go.Proofs.YtmpahgklcabihaaGreat.Rf

namespace Go.Proofs.YtmpahgklcabihaaGreat.Rf
open Go.RowKit Go.Joins Go.Proofs.YtmpahgklcabihaaGreat.Gk
open Go.Proofs.YtmpahgklcabihaaGreat.Dk (St Bs)
open Go.Proofs.YtmpahgklcabihaaGreat.Rl (En Lo LH ER ptr blk own Tn eenc eenc_len agr nmb mcode May1)
open Go.Proofs.YtmpahgklcabihaaGreat.Ba (Bl BB Tu Es trn cst mgd)

theorem mrg_zero (es : List En) (p : Nat) (fs : List En) : ((⟨0, 0, es⟩ : Lo).mrg p fs).1 = ⟨0, 0, ((⟨0, 0, es⟩ : Lo).mrg p fs).1.es⟩ := by
  unfold Lo.mrg Rl.mI; split <;> rfl
theorem mgd_any (S : St) (s : Bl) (p : Nat) (fs : List En) :
    ((mgd S s p fs).2.1 = 0 ∧ (mgd S s p fs).2.2.2.es = (s.lo.mrg p fs).1.es ∧ mcode (s.lo.tm p) (nmb (p + 1) fs) = 0) ∨ ((mgd S s p fs).2.1 ≠ 0 ∧ (mgd S s p fs).2.2.2.es = s.es) := by
  unfold mgd
  split
  · rename_i h; exact Or.inr ⟨h, rfl⟩
  · rename_i hc
    split
    · exact Or.inl ⟨rfl, rfl, by simpa using hc⟩
    · rename_i h; exact Or.inr ⟨by simpa using h, rfl⟩
section
variable {nb bd : Nat} {N : Nd} {X : Nat → Prop}
set_option maxRecDepth 100000 in
set_option maxHeartbeats 4000000 in
theorem merge_any (p : Nat) (a : Option Addr) (cap : Nat) (fs : List En) (w : World) (h : ND w nb bd N X) (hok : N.Ok) (hp : p ≤ N.s.es.length) (hl : Gk.Lies w eenc a fs) (hfl : fs.length ≤ 60) (hf : ∀ e ∈ fs, e.t ≤ N.s.t) (hx : fs ≠ [] → ∀ b off, a = some ⟨b, off, none⟩ → ¬ X b) :
    Calls Tryz.prog 292 #[ptr nb, .int .i64 p, .int .i64 (N.s.lo.tm p), .slice a fs.length cap] w fun e w' => e = .returned (.tuple #[.int .i64 (if (mgd N.S N.s p fs).2.1 = 0 then (mgd N.S N.s p fs).1 else 0), .int .i64 (mgd N.S N.s p fs).2.1]) ∧ Goes w w' nb bd (N.put (mgd N.S N.s p fs).2.2.1 (mgd N.S N.s p fs).2.2.2) X := by
  have hm := hok.many
  obtain ⟨bb, bl, pb, v, lv, Y, hH, rfl⟩ := h
  have c2 := hH.c 2
  have HA := hide (Ba.Merge_any (bb := bb) (bd := bd) p a cap fs w hH.bal hok.bal (by omega) hp hl hfl hf (fun hne b off e hb => hx hne b off e (Or.inl hb)))
  have HM := mgd_any N.S N.s p fs
  have HH := hide hH
  generalize mgd N.S N.s p fs = M at *
  obtain ⟨n, c, S', s'⟩ := M
  dsimp only at HA HM ⊢
  have htm : N.s.lo.tm p = (⟨0, 0, N.s.es⟩ : Lo).tm (0 + p) := by rw [Nat.zero_add]
  obtain ⟨tm, htm2⟩ : ∃ tm, N.s.lo.tm p = tm := ⟨_, rfl⟩
  rw [htm2] at HA HM ⊢
  rw [htm2] at htm
  clear htm2
  rcases HM with ⟨rfl, hes, hc⟩ | ⟨hc, hes⟩
  · rw [if_pos rfl]
    have HES := hide hes
    have HLX := hide (And.intro hl hx)
    have HMg := hide (fun W1 (v1 : Value) (hL : LH W1 bl ⟨0, 0, N.s.es⟩ v1) (hl1 : Gk.Lies W1 eenc a fs) (ho : fs ≠ [] → ∀ b off, a = some ⟨b, off, none⟩ → ¬ own W1 bl b) => callsIn_wide.1 (Rl.merge_in bl ⟨0, 0, N.s.es⟩ v1 p tm a cap fs W1 hL (by show 0 + N.s.es.length ≤ _; omega) hp htm.symm hl1 (by omega) ho (by show mcode tm (nmb (0 + p + 1) fs) = 0; rw [Nat.zero_add]; exact hc)))
    rw [show ((0 + p : Nat) : Int) = (p : Int) by omega, show (0 + p + fs.length : Nat) = p + fs.length by omega] at HMg
    clear hes hl hx hH htm hc
    go_enter Tryz.func292, Tryz.ntmps292
    go_wp2_with fail
    refine HA.out.mono ?_
    clear HA
    rintro e w1 ⟨rfl, Y1, hB1, ht1⟩
    obtain ⟨hH1, hT1⟩ := HH.out.turnB hB1 ht1
    have d3 := hH1.c 3
    have hl1 : Gk.Lies w1 eenc a fs := by
      rcases Classical.em (fs = []) with h0 | h0
      · exact Or.inl h0
      · exact HLX.out.1.later (fun b off e hb => (ht1.stay hb fun hy => HLX.out.2 h0 b off e (Or.inl hy)).1) ht1.size
    have hno : fs ≠ [] → ∀ b off, a = some ⟨b, off, none⟩ → ¬ own w1 bl b := fun hne b off e ho => by
      have hbl : b < w.heap.size := by
        rcases HLX.out.1 with h | ⟨b', off', e', hb', _⟩
        · exact absurd h hne
        · rw [e] at e'; cases e'; exact hb'
      have eo := Rl.own_same (bl := bl) (ht1.stay HH.out.log.lt (HH.out.yl bl (Or.inl rfl))).1
      rw [eo] at ho
      exact HLX.out.2 hne b off e (Or.inr (Or.inr (Or.inr (Or.inl ho))))
    have HM1 := hide (HMg.out w1 v hH1.log hl1 hno)
    have HH1 := hide (And.intro hH1 hT1)
    clear hH1 hT1 hl1 hno hB1 ht1 HMg HH c2
    go_wp2_with fail
    refine HM1.out.mono ?_
    clear HM1
    rintro e w2 ⟨rfl, ⟨v2, hL2⟩, hT2⟩
    rw [mrg_zero] at hL2
    obtain ⟨hH2, hT3⟩ := HH1.out.1.turnL hL2 hT2
    have HF := hide (And.intro hH2 (HH1.out.2.trans hT3))
    clear hH2 hT3 hL2 hT2
    go_wp2
    go_ret2
    exact ⟨rfl, _, ⟨bb, bl, pb, v2, lv, Y1, by rw [show (N.put S' s').s.es = ((⟨0, 0, N.s.es⟩ : Lo).mrg p fs).1.es from HES.out]; exact HF.out.1, rfl⟩, HF.out.2⟩
  · rw [if_neg hc]
    have HES := hide hes
    clear hes hl hx hH htm
    go_enter Tryz.func292, Tryz.ntmps292
    go_wp2_with fail
    refine HA.out.mono ?_
    clear HA
    rintro e w1 ⟨rfl, Y1, hB1, ht1⟩
    obtain ⟨hH1, hT1⟩ := HH.out.turnB hB1 ht1
    have HF := hide (And.intro hH1 hT1)
    clear hH1 hT1 hB1 ht1 HH c2
    go_wp2
    go_ret2
    exact ⟨rfl, _, ⟨bb, bl, pb, v, lv, Y1, by rw [show (N.put S' s').s.es = N.s.es from HES.out]; exact HF.out.1, rfl⟩, HF.out.2⟩
end
end Go.Proofs.YtmpahgklcabihaaGreat.Rf

namespace Go.Proofs.YtmpahgklcabihaaGreat.Rf
open Go.RowKit Go.Joins Go.Proofs.YtmpahgklcabihaaGreat.Gk
open Go.Proofs.YtmpahgklcabihaaGreat.Dk (St Bs)
open Go.Proofs.YtmpahgklcabihaaGreat.Rl (En Lo LH ER ptr blk own Tn eenc eenc_len agr nmb mcode May1)
open Go.Proofs.YtmpahgklcabihaaGreat.Ba (Bl BB Tu Es trn cst mgd)

section
variable {nb bd : Nat} {N : Nd} {X : Nat → Prop}
set_option maxRecDepth 100000 in
set_option maxHeartbeats 2000000 in
theorem catchUp_any (t : Int) (w : World) (h : ND w nb bd N X) :
    Calls Tryz.prog 48 #[ptr nb, .int .i64 t] w fun e w' => e = .returned (.int .i64 (N.catchUp t).1) ∧ Goes w w' nb bd (N.catchUp t).2 X := by
  have HND := hide h
  obtain ⟨bb, bl, pb, v, lv, Y, hH, hX⟩ := h
  have c2 := hH.c 2
  have HT := hide (Ba.Term_any w hH.bal)
  have HU := hide (Ba.Turn_any t w hH.bal)
  have HH := hide hH
  have HX := hide hX
  clear hH hX
  unfold Nd.catchUp
  have hes : (trn N.S N.s t).2.2.es = N.s.es := by
    unfold trn; split
    · rfl
    · split
      · rfl
      · unfold Ba.stn Ba.pick0; dsimp only; split <;> rfl
  by_cases h1 : t ≤ N.s.t
  · rw [if_pos h1]
    go_enter Tryz.func48, Tryz.ntmps48
    go_wp2_with fail
    refine HT.out.mono ?_
    rintro e w1 ⟨rfl, rfl⟩
    go_wp2
    go_ret
    exact ⟨rfl, X, HND.out, Tu.refl _ _⟩
  · rw [if_neg h1]
    generalize trn N.S N.s t = R at *
    obtain ⟨c, S', s'⟩ := R
    dsimp only at HU hes ⊢
    by_cases hc : c = 0
    · rw [if_pos hc]
      subst hc
      go_enter Tryz.func48, Tryz.ntmps48
      go_wp2_with fail
      refine HT.out.mono ?_
      rintro e w1 ⟨rfl, rfl⟩
      go_wp2_with fail
      refine HU.out.mono ?_
      rintro e w2 ⟨rfl, Y2, hB2, ht2⟩
      obtain ⟨hH2, hT2⟩ := HH.out.turnB hB2 ht2
      have z4 := hH2.fz 4
      have z5 := hH2.fz 5
      have c4 := hH2.c 4
      have c5 := hH2.c 5
      obtain ⟨hH3, hT3⟩ := hH2.set 4 (.int .i64 0) { N.put S' s' with role := 0 } rfl rfl rfl rfl rfl
      obtain ⟨hH4, hT4⟩ := hH3.set 5 (.int .i64 (-1)) { N.put S' s' with role := 0, ldr := -1 } rfl rfl rfl rfl rfl
      have HF := hide (And.intro hH4 ((hT2.trans hT3).trans hT4))
      clear hH2 hT2 hH3 hT3 hH4 hT4 hB2 ht2
      go_wp2
      go_ret
      rw [HX.out]
      exact ⟨rfl, _, ⟨bb, bl, pb, v, lv, Y2, by rw [show ({ N.put S' s' with role := 0, ldr := -1 } : Nd).s.es = N.s.es from hes]; exact HF.out.1, rfl⟩, HF.out.2⟩
    · rw [if_neg hc]
      have hc' : ¬ (c : Int) = 0 := by omega
      go_enter Tryz.func48, Tryz.ntmps48
      go_wp2_with fail
      refine HT.out.mono ?_
      rintro e w1 ⟨rfl, rfl⟩
      go_wp2_with fail
      refine HU.out.mono ?_
      rintro e w2 ⟨rfl, Y2, hB2, ht2⟩
      obtain ⟨hH2, hT2⟩ := HH.out.turnB hB2 ht2
      have HF := hide (And.intro hH2 hT2)
      clear hH2 hT2 hB2 ht2
      go_wp2
      go_ret
      rw [HX.out]
      exact ⟨rfl, _, ⟨bb, bl, pb, v, lv, Y2, by rw [show (N.put S' s').s.es = N.s.es from hes]; exact HF.out.1, rfl⟩, HF.out.2⟩

set_option maxRecDepth 100000 in
set_option maxHeartbeats 2000000 in
theorem State_any (w : World) (h : ND w nb bd N X) :
    Calls Tryz.prog 17 #[ptr nb] w fun e w' => e = .returned (.tuple #[.int .i64 N.role, .int .i64 N.s.t, .int .i64 N.ldr, .int .i64 N.cm]) ∧ Below w.heap.size w w' := by
  obtain ⟨bb, bl, pb, v, lv, Y, hH, hX⟩ := h
  have HC := hide (fun W (hb : Below w.heap.size w W) => (hH.below hb).1)
  have HT := hide (fun W (hb : Below w.heap.size w W) => Ba.Term_any W (hH.below hb).1.bal)
  have c2 := hH.c 2
  have c4 := hH.c 4
  have c5 := hH.c 5
  have c7 := hH.c 7
  clear hH hX
  go_enter Tryz.func17, Tryz.ntmps17
  go_wp2
  go_quiet (first | (go_at_call 42; exact Calls.quiet_of_same (HT.out _ (below_drewN (Below.refl _ _) _))))
  go_wp2
  exact bodyPost_ret (v := .tuple #[.int .i64 N.role, .int .i64 N.s.t, .int .i64 N.ldr, .int .i64 N.cm]) (by simp [results, Tryz.results17, go_sem]) rfl ⟨rfl, below_drewN (Below.refl _ _) _⟩

set_option maxRecDepth 100000 in
set_option maxHeartbeats 2000000 in
theorem Letters_any (w : World) (h : ND w nb bd N X) :
    Calls Tryz.prog 20 #[ptr nb] w fun e w' => ∃ a cap, e = .returned (.slice a N.ls.length cap) ∧ Gk.Lies w' lenc a N.ls ∧ (∀ b off, a = some ⟨b, off, none⟩ → X b ∧ b < w'.heap.size) ∧ ∃ X', ND w' nb bd { N with ls := [] } X' ∧ Tu X X' w w' ∧ ∀ b off, a = some ⟨b, off, none⟩ → ¬ X' b := by
  obtain ⟨bb, bl, pb, v, lv, Y, hH, rfl⟩ := h
  obtain ⟨av, cv, rfl⟩ := hH.row.slice
  have c10 := hH.c 10
  have z10 := hH.fz 10
  obtain ⟨hH2, hT2⟩ := hH.setR (w1 := w) (lv' := .slice none 0 0) (ls' := []) (Row.nil w LtrT) (grown_refl w _) (fun g hg => by simp [Value.ownBlock] at hg)
  have hl : Gk.Lies (w.setCell ⟨nb, 10, none⟩ (.slice none 0 0)) lenc av N.ls := (hH.row.stay fun g hg => Below.heap_setCell w ⟨nb, 10, none⟩ _ g (hH.rn hg)).lies
  have hx : ∀ b off, av = some ⟨b, off, none⟩ → no w nb bl pb (.slice av N.ls.length cv) Y b ∧ b < w.heap.size := fun b off e => ⟨Or.inr (Or.inr (Or.inr (Or.inr (by rw [e]; rfl)))), hH.rlt (by rw [e]; rfl)⟩
  have hnx : ∀ b off, av = some ⟨b, off, none⟩ → ¬ no (w.setCell ⟨nb, 10, none⟩ (.slice none 0 0)) nb bl pb (.slice none 0 0) Y b := fun b off e => by
    have hg : (Value.slice av N.ls.length cv).ownBlock = some b := by rw [e]; rfl
    have eo := Rl.own_same (bl := bl) (Below.heap_setCell w ⟨nb, 10, none⟩ (.slice none 0 0) bl fun e => hH.nl (Or.inl e.symm))
    rintro (h | h | h | h | h)
    · exact hH.yr b hg h
    · exact hH.rn hg h
    · exact hH.rp hg h
    · rw [eo] at h; exact hH.rl hg h
    · simp [Value.ownBlock] at h
  have HF := hide (And.intro hH2 hT2)
  have HL := hide hl
  have HX := hide hx
  have HNX := hide hnx
  clear hH hH2 hT2 hl hx hnx
  go_enter Tryz.func20, Tryz.ntmps20
  go_wp2
  go_ret
  exact ⟨av, cv, rfl, HL.out, fun b off e => ⟨(HX.out b off e).1, by simpa using (HX.out b off e).2⟩, _, HF.out.1.pack, HF.out.2, HNX.out⟩
end
end Go.Proofs.YtmpahgklcabihaaGreat.Rf

namespace Go.Proofs.YtmpahgklcabihaaGreat.Rf
open Go.RowKit Go.Joins Go.Proofs.YtmpahgklcabihaaGreat.Gk
open Go.Proofs.YtmpahgklcabihaaGreat.Dk (St Bs)
open Go.Proofs.YtmpahgklcabihaaGreat.Rl (En Lo LH ER ptr blk own Tn eenc eenc_len agr nmb mcode May1)
open Go.Proofs.YtmpahgklcabihaaGreat.Ba (Bl BB Tu Es trn cst mgd)

theorem rc_set : ∀ (ps : List Pr) (i j : Nat) (hi : i < ps.length) (_ : j < 3) (p' : Pr) (v : Value), penc p' = (penc ps[i]).set j v → (rc penc ps).set (i * 3 + j) v = rc penc (ps.set i p')
  | [], _, _, hi, _, _, _, _ => by simp at hi
  | p :: r, 0, j, _, hj, p', v, hp => by
    rw [rc_cons, Nat.zero_mul, Nat.zero_add, List.set_append, if_pos (by rw [penc_len]; exact hj), List.set_cons_zero, rc_cons, hp]; rfl
  | p :: r, i + 1, j, hi, hj, p', v, hp => by
    rw [rc_cons, List.set_append, if_neg (by rw [penc_len]; omega), penc_len, show (i + 1) * 3 + j - 3 = i * 3 + j by omega, rc_set r i j (by simpa using hi) hj p' v hp, List.set_cons_succ, rc_cons]
theorem rc_setA (ps : List Pr) (i j : Nat) (hi : i < ps.length) (hj : j < 3) (p' : Pr) (v : Value) (hp : penc p' = (penc ps[i]).set j v) : (rc penc ps).toArray.setIfInBounds (i * 3 + j) v = (rc penc (ps.set i p')).toArray := by
  rw [List.setIfInBounds_toArray, rc_set ps i j hi hj p' v hp]
/-- the first ones begun with -/
def psK (N : Nd) (k : Nat) : List Pr := ((N.ps.take k).map fun p => ⟨p.hv, N.s.es.length + 1, 0⟩) ++ N.ps.drop k
theorem psK_len (N : Nd) (k : Nat) (hk : k ≤ N.ps.length) : (psK N k).length = N.ps.length := by
  unfold psK; rw [List.length_append, List.length_map, List.length_take, List.length_drop]; omega
theorem psK_at (N : Nd) (k : Nat) (hk : k < N.ps.length) : (psK N k)[k]'(by rw [psK_len N k (by omega)]; exact hk) = N.ps[k] := by
  unfold psK
  rw [List.getElem_append_right (by rw [List.length_map, List.length_take]; omega)]
  simp only [List.length_map, List.length_take, List.getElem_drop]
  congr 1; omega
theorem psK_next (N : Nd) (k : Nat) (hk : k < N.ps.length) : (psK N k).set k ⟨N.ps[k].hv, N.s.es.length + 1, 0⟩ = psK N (k + 1) := by
  unfold psK
  rw [List.set_append, if_neg (by rw [List.length_map, List.length_take]; omega), List.length_map, List.length_take, Nat.min_eq_left (by omega), Nat.sub_self, List.drop_eq_getElem_cons hk, List.set_cons_zero, List.take_succ_eq_append_getElem hk, List.map_append, List.append_assoc]
  rfl
theorem psK_all (N : Nd) : psK N N.ps.length = N.begun.ps := by
  unfold psK; rw [List.take_length, List.drop_length, List.append_nil]; rfl
section
variable {nb bd : Nat} {N : Nd} {X : Nat → Prop}
set_option maxRecDepth 100000 in
set_option maxHeartbeats 4000000 in
theorem lead_any (w : World) (h : ND w nb bd N X) (hok : N.Ok) :
    Calls Tryz.prog 128 #[ptr nb] w fun e w' => e = .returned (.int .i64 N.lead.1) ∧ Goes w w' nb bd N.lead.2 X := by
  have hm := hok.many
  have hnn := hok.nn
  have hokB : N.begun.Ok := by
    refine ⟨?_, ?_, ?_, hok.many, hok.ls, hok.cm, fun _ => ⟨?_, ?_⟩⟩
    · show N.id < (N.ps.map _).length; rw [List.length_map]; exact hok.idn
    · show (N.ps.map _).length ≤ 16; rw [List.length_map]; exact hok.nn
    · show N.s.Ok ((N.ps.map _).length : Int); rw [List.length_map]; exact hok.bal
    · intro p hp
      obtain ⟨q, _, rfl⟩ := List.mem_map.1 hp
      show 1 ≤ N.s.es.length + 1; omega
    · intro p hp
      obtain ⟨q, _, rfl⟩ := List.mem_map.1 hp
      exact Nat.le_refl _
  have HE := hide (fun W X1 (hN : ND W nb bd N.begun X1) => extend_any ⟨#[]⟩ W hN hokB (hokB.nx rfl))
  unfold Nd.lead
  obtain ⟨bb, bl, pb, v, lv, Y, hH, rfl⟩ := h
  have c0 := hH.c 0
  have c4 := hH.c 4
  have c5 := hH.c 5
  have z4 := hH.fz 4
  have z5 := hH.fz 5
  have c3 := hH.c 3
  obtain ⟨hH1, hT1⟩ := hH.set 4 (.int .i64 2) { N with role := 2 } rfl rfl rfl rfl rfl
  obtain ⟨hH2, hT2⟩ := hH1.set 5 (.int .i64 N.id) { N with role := 2, ldr := N.id } rfl rfl rfl rfl rfl
  have H2 := hide hH2
  have HT2 := hide (hT1.trans hT2)
  clear hH hH1 hT1 hH2 hT2
  go_enter Tryz.func128, Tryz.ntmps128
  go_upto_region 2 with fail
  obtain ⟨W, hW⟩ : ∃ W, W = (w.setCell ⟨nb, 4, none⟩ (.int .i64 2)).setCell ⟨nb, 5, none⟩ (.int .i64 N.id) := ⟨_, rfl⟩
  rw [← hW] at H2 HT2 ⊢
  clear hW c0 c4 c5 z4 z5 c3
  have e3 := H2.out.c 3
  have HL := hide (Rl.Last_any bl ⟨0, 0, N.s.es⟩ v W H2.out.log (by show 0 + N.s.es.length ≤ _; omega))
  rw [show (⟨0, 0, N.s.es⟩ : Lo).last = N.s.es.length by show 0 + N.s.es.length = _; omega] at HL
  go_wp2_with fail
  refine HL.out.mono ?_
  clear HL
  rintro e w1 ⟨rfl, q, rfl⟩
  have hb1 := below_drewN (Below.refl W.heap.size W) q
  obtain ⟨hH1, hno1⟩ := H2.out.below hb1
  have hT1 := HT2.out.trans (Tu.of_below hb1)
  rw [← hno1] at hT1
  generalize W.drewN q = w1 at *
  have hs0 : psK N 0 = N.ps := by unfold psK; simp
  have ew : IntKind.i64.wrap ((N.s.es.length : Int) + 1) = ((N.s.es.length + 1 : Nat) : Int) := by rw [Ba.wrap_in (by omega) (by omega)]; omega
  have d9 := hH1.c 9
  clear H2 HT2 e3 hb1 hno1
  go_wp2
  go_loopw [31] (fun i wr => ∃ k : Nat, k ≤ N.ps.length ∧ i = .int .i64 k ∧ NH wr nb bd bb bl pb v lv { N with role := 2, ldr := N.id, ps := psK N k } N.s.es Y ∧ Tu (no w nb bl pb lv Y) (no wr nb bl pb lv Y) w wr) (fun i _ => N.ps.length - (intOf i).toNat)
  case atStart => exact ⟨0, by omega, rfl, by rw [hs0]; exact hH1, hT1⟩
  case round =>
    clear hH1 hT1 hs0 d9
    obtain ⟨k, hk, rfl, hH, hT⟩ := hrel
    have hlen := psK_len N k hk
    by_cases hlt : k < N.ps.length
    · have hat := psK_at N k hlt
      have c9 := hH.c 9
      have hp := hH.pc (i := k) (by show k < (psK N k).length; omega)
      dsimp only at hp c9
      obtain ⟨_, p1, p2⟩ := hp
      have z1 := hH.pfz (k * 3 + 1)
      have z2 := hH.pfz (k * 3 + 2)
      rw [show (ncells { N with role := 2, ldr := N.id, ps := psK N k } bb bl pb lv)[9]? = some (.slice (some ⟨pb, 0, none⟩) N.ps.length N.ps.length) by show some (Value.slice (some ⟨pb, 0, none⟩) (psK N k).length (psK N k).length) = _; rw [hlen]] at c9
      obtain ⟨hHa, hTa⟩ := hH.setP (k * 3 + 1) (.int .i64 ((N.s.es.length : Int) + 1)) ((psK N k).set k ⟨(psK N k)[k].hv, N.s.es.length + 1, (psK N k)[k].mt⟩) (rc_setA (psK N k) k 1 (by omega) (by decide) _ _ rfl) (by rw [List.length_set])
      obtain ⟨hHb, hTb⟩ := hHa.setP (k * 3 + 2) (.int .i64 0) (psK N (k + 1)) (by
        rw [rc_setA ((psK N k).set k ⟨(psK N k)[k].hv, N.s.es.length + 1, (psK N k)[k].mt⟩) k 2 (by rw [List.length_set]; omega) (by decide) ⟨N.ps[k].hv, N.s.es.length + 1, 0⟩ (.int .i64 0) (by rw [List.getElem_set_self, hat]; rfl), List.set_set, psK_next N k hlt]) (by rw [psK_len N (k + 1) (by omega), List.length_set, hlen])
      have HF : Hid (NH ((wr.setCell ⟨pb, k * 3 + 1, none⟩ (.int .i64 ((N.s.es.length : Int) + 1))).setCell ⟨pb, k * 3 + 2, none⟩ (.int .i64 0)) nb bd bb bl pb v lv { N with role := 2, ldr := N.id, ps := psK N (k + 1) } N.s.es Y ∧ Tu (no w nb bl pb lv Y) (no ((wr.setCell ⟨pb, k * 3 + 1, none⟩ (.int .i64 ((N.s.es.length : Int) + 1))).setCell ⟨pb, k * 3 + 2, none⟩ (.int .i64 0)) nb bl pb lv Y) w ((wr.setCell ⟨pb, k * 3 + 1, none⟩ (.int .i64 ((N.s.es.length : Int) + 1))).setCell ⟨pb, k * 3 + 2, none⟩ (.int .i64 0))) := hide (And.intro hHb ((hT.trans hTa).trans hTb))
      have HLT := hide hlt
      have g1 : (0 : Int) ≤ (k : Int) := by omega
      have g2 : (k : Int) < (N.ps.length : Int) := by omega
      clear hH hT hHa hTa hHb hTb
      go_upto_region 6 with fail
      go_region_law (fail)
      all_goals
        go_wp2
        go_roundw
        case rel =>
          have := HLT.out
          have hD := HF.out.1.below (Below.refl _ _).drew
          first
            | exact ⟨k + 1, by omega, by go_num, HF.out.1, HF.out.2⟩
            | exact ⟨k + 1, by omega, by go_num, hD.1, by rw [hD.2]; exact HF.out.2.trans (Tu.of_below (Below.refl _ _).drew)⟩
        case measure =>
          have := HLT.out
          simp [intOf]; omega
    · obtain rfl : k = N.ps.length := by omega
      rw [psK_all] at hH
      have HF := hide (HE.out wr _ hH.pack)
      clear hH HE
      go_wp2_with fail
      refine HF.out.mono ?_
      rintro e w2 ⟨rfl, X2, h2, ht2⟩
      go_wp2
      go_ret
      exact ⟨rfl, X2, h2, hT.trans ht2⟩

theorem votes_next (N : Nd) (k : Nat) (hk : k < N.ps.length) : ((N.ps.take (k + 1)).countP (·.hv) : Int) = ((N.ps.take k).countP (·.hv) : Int) + b2i N.ps[k].hv := by
  rw [List.take_succ_eq_append_getElem hk, List.countP_append]
  cases h : N.ps[k].hv <;> simp [h, b2i]
set_option maxRecDepth 100000 in
set_option maxHeartbeats 4000000 in
theorem chosen_any (w : World) (h : ND w nb bd N X) (hok : N.Ok) :
    Calls Tryz.prog 83 #[ptr nb] w fun e w' => e = .returned (.int .i64 N.chosen.1) ∧ Goes w w' nb bd N.chosen.2 X := by
  have HL := hide (fun W (hb : Below w.heap.size w W) => lead_any W (h.below hb) hok)
  have HND := hide (fun W (hb : Below w.heap.size w W) => h.below hb)
  have hnn := hok.nn
  obtain ⟨bb, bl, pb, v, lv, Y, hH, rfl⟩ := h
  have HC := hide (fun W (hb : Below w.heap.size w W) => (hH.below hb).1)
  have c9 : w.cell? ⟨nb, 9, none⟩ = some (.slice (some ⟨pb, 0, none⟩) N.ps.length N.ps.length) := hH.c 9
  unfold Nd.chosen
  obtain ⟨V, hV⟩ : ∃ V, N.votes = V := ⟨_, rfl⟩
  rw [hV]
  have hV' := hide (show (N.ps.take N.ps.length).countP (·.hv) = V by rw [List.take_length]; exact hV)
  have hVl : V ≤ 16 := by rw [← hV]; exact Nat.le_trans List.countP_le_length hnn
  clear hH hV
  by_cases hch : 2 * V ≤ N.ps.length
  · rw [if_pos hch]
    go_enter Tryz.func83, Tryz.ntmps83
    go_wp2
    go_loopw [3, 11] (fun v i wr => ∃ k : Nat, k ≤ N.ps.length ∧ i = .int .i64 k ∧ v = .int .i64 ((N.ps.take k).countP (·.hv) : Int) ∧ Below w.heap.size w wr) (fun _ i _ => N.ps.length - (intOf i).toNat)
    case atStart => exact ⟨0, by omega, rfl, by simp, Below.refl _ _⟩
    case round =>
      obtain ⟨k, hk, rfl, rfl, hbel⟩ := hrel
      by_cases hlt : k < N.ps.length
      · have hvn := hide (votes_next N k hlt)
        have hcl : (N.ps.take k).countP (·.hv) ≤ 16 := Nat.le_trans List.countP_le_length (by rw [List.length_take]; omega)
        obtain ⟨p0, p1, p2⟩ := (HC.out wr hbel).pc hlt
        generalize N.ps[k] = p at *
        generalize (N.ps.take k).countP (·.hv) = q at *
        obtain ⟨hv, nx, mt⟩ := p
        dsimp only at p0 p1 p2 hvn
        have g1 : (0 : Int) ≤ (k : Int) := by omega
        have g2 : (k : Int) < (N.ps.length : Int) := by omega
        have ew : IntKind.i64.wrap ((q : Int) + b2i hv) = (q : Int) + b2i hv := by have := b2i_rng hv; rw [Ba.wrap_in (by omega) (by omega)]
        have hb2 : Below w.heap.size w (wr.alloc (.cells #[.bool hv, .int .i64 nx, .int .i64 mt] PeerT)) := hbel.alloc hbel.size _
        have HO := hide (oneIf_any hv)
        go_wp2_with fail
        refine (HO.out _).mono ?_
        rintro e w2 ⟨rfl, rfl⟩
        go_wp2
        go_roundw
        case rel => exact ⟨k + 1, by omega, by go_num, by rw [hvn.out], hb2⟩
        case measure => simp [intOf]; omega
      · obtain rfl : k = N.ps.length := by omega
        rw [hV'.out]
        have c9r : wr.cell? ⟨nb, 9, none⟩ = some (.slice (some ⟨pb, 0, none⟩) N.ps.length N.ps.length) := (HC.out wr hbel).c 9
        have ew : IntKind.i64.wrap (2 * (V : Int)) = 2 * (V : Int) := by rw [Ba.wrap_in (by omega) (by omega)]
        have HF := hide (HL.out wr hbel)
        have HN := hide (HND.out wr hbel)
        have HB := hide hbel
        have hch2 : 2 * (V : Int) ≤ (N.ps.length : Int) := by omega
        clear hbel hlt
        go_wp2
        go_ret
        exact ⟨rfl, _, HN.out, Tu.of_below HB.out⟩
  · rw [if_neg hch]
    go_enter Tryz.func83, Tryz.ntmps83
    go_wp2
    go_loopw [3, 11] (fun v i wr => ∃ k : Nat, k ≤ N.ps.length ∧ i = .int .i64 k ∧ v = .int .i64 ((N.ps.take k).countP (·.hv) : Int) ∧ Below w.heap.size w wr) (fun _ i _ => N.ps.length - (intOf i).toNat)
    case atStart => exact ⟨0, by omega, rfl, by simp, Below.refl _ _⟩
    case round =>
      obtain ⟨k, hk, rfl, rfl, hbel⟩ := hrel
      by_cases hlt : k < N.ps.length
      · have hvn := hide (votes_next N k hlt)
        have hcl : (N.ps.take k).countP (·.hv) ≤ 16 := Nat.le_trans List.countP_le_length (by rw [List.length_take]; omega)
        obtain ⟨p0, p1, p2⟩ := (HC.out wr hbel).pc hlt
        generalize N.ps[k] = p at *
        generalize (N.ps.take k).countP (·.hv) = q at *
        obtain ⟨hv, nx, mt⟩ := p
        dsimp only at p0 p1 p2 hvn
        have g1 : (0 : Int) ≤ (k : Int) := by omega
        have g2 : (k : Int) < (N.ps.length : Int) := by omega
        have ew : IntKind.i64.wrap ((q : Int) + b2i hv) = (q : Int) + b2i hv := by have := b2i_rng hv; rw [Ba.wrap_in (by omega) (by omega)]
        have hb2 : Below w.heap.size w (wr.alloc (.cells #[.bool hv, .int .i64 nx, .int .i64 mt] PeerT)) := hbel.alloc hbel.size _
        have HO := hide (oneIf_any hv)
        go_wp2_with fail
        refine (HO.out _).mono ?_
        rintro e w2 ⟨rfl, rfl⟩
        go_wp2
        go_roundw
        case rel => exact ⟨k + 1, by omega, by go_num, by rw [hvn.out], hb2⟩
        case measure => simp [intOf]; omega
      · obtain rfl : k = N.ps.length := by omega
        rw [hV'.out]
        have c9r : wr.cell? ⟨nb, 9, none⟩ = some (.slice (some ⟨pb, 0, none⟩) N.ps.length N.ps.length) := (HC.out wr hbel).c 9
        have ew : IntKind.i64.wrap (2 * (V : Int)) = 2 * (V : Int) := by rw [Ba.wrap_in (by omega) (by omega)]
        have HF := hide (HL.out wr hbel)
        have HN := hide (HND.out wr hbel)
        have HB := hide hbel
        have hch2 : ¬ 2 * (V : Int) ≤ (N.ps.length : Int) := by omega
        clear hbel hlt
        go_wp2_with fail
        refine HF.out.mono ?_
        rintro e w2 ⟨rfl, X2, h2, ht2⟩
        go_wp2
        go_ret
        exact ⟨rfl, X2, h2, (Tu.of_below HB.out).trans ht2⟩
end
end Go.Proofs.YtmpahgklcabihaaGreat.Rf

namespace Go.Proofs.YtmpahgklcabihaaGreat.Rf
open Go.RowKit Go.Joins Go.Proofs.YtmpahgklcabihaaGreat.Gk
open Go.Proofs.YtmpahgklcabihaaGreat.Dk (St Bs)
open Go.Proofs.YtmpahgklcabihaaGreat.Rl (En Lo LH ER ptr blk own Tn eenc eenc_len agr nmb mcode May1)
open Go.Proofs.YtmpahgklcabihaaGreat.Ba (Bl BB Tu Es trn cst mgd)

theorem stn_ok {n : Int} {S : St} {s : Bl} {t v : Int} (hs : s.Ok n) (hm : (Ba.Rc.st t v).may) (ho : (Ba.Rc.st t v).ok n s) : (Ba.stn S s t v).2.2.Ok n ∧ (Ba.stn S s t v).2.2.es = s.es := by
  unfold Ba.stn Ba.pick0
  dsimp only
  split
  · exact ⟨hs.do hm ho, rfl⟩
  · exact ⟨hs, rfl⟩
theorem trn_ok {n : Int} {S : St} {s : Bl} (t : Int) (hs : s.Ok n) (hn : 1 ≤ n) : (trn S s t).2.2.Ok n ∧ (trn S s t).2.2.es = s.es := by
  unfold trn
  split
  · exact ⟨hs, rfl⟩
  · split
    · exact ⟨hs, rfl⟩
    · exact stn_ok hs ⟨by omega, by omega, by decide, by decide⟩ ⟨by omega, Or.inl (by omega)⟩
theorem cst_ok {n : Int} {S : St} {s : Bl} (x : Int) (hs : s.Ok n) (hn : n ≤ 16) : (cst n S s x).2.2.Ok n ∧ (cst n S s x).2.2.es = s.es := by
  have := hs.t0
  have := hs.t1
  unfold cst
  split
  · exact ⟨hs, rfl⟩
  · split
    · exact ⟨hs, rfl⟩
    · split
      · exact ⟨hs, rfl⟩
      · split
        · exact ⟨hs, rfl⟩
        · rename_i h5
          have h5' : s.v = -1 := by simpa using h5
          exact stn_ok hs ⟨by omega, by omega, by omega, by omega⟩ ⟨by omega, Or.inr ⟨rfl, Or.inl h5'⟩⟩
/-- the first ones asked -/
def vK (id : Nat) (ps : List Pr) (k : Nat) : List Pr := (voted id ps).take k ++ ps.drop k
theorem voted_len (id : Nat) (ps : List Pr) : (voted id ps).length = ps.length := by unfold voted; rw [List.length_mapIdx]
theorem vK_len (id : Nat) (ps : List Pr) (k : Nat) (hk : k ≤ ps.length) : (vK id ps k).length = ps.length := by
  unfold vK; rw [List.length_append, List.length_take, List.length_drop, voted_len]; omega
theorem vK_at (id : Nat) (ps : List Pr) (k : Nat) (hk : k < ps.length) : (vK id ps k)[k]'(by rw [vK_len id ps k (by omega)]; exact hk) = ps[k] := by
  unfold vK
  rw [List.getElem_append_right (by rw [List.length_take, voted_len]; omega)]
  simp only [List.length_take, List.getElem_drop, voted_len]
  congr 1; omega
theorem vK_next (id : Nat) (ps : List Pr) (k : Nat) (hk : k < ps.length) : (vK id ps k).set k ⟨decide (k = id), ps[k].nx, ps[k].mt⟩ = vK id ps (k + 1) := by
  unfold vK
  rw [List.set_append, if_neg (by rw [List.length_take, voted_len]; omega), List.length_take, voted_len, Nat.min_eq_left (by omega), Nat.sub_self, List.drop_eq_getElem_cons hk, List.set_cons_zero, List.take_succ_eq_append_getElem (by rw [voted_len]; exact hk), List.append_assoc]
  unfold voted
  rw [List.getElem_mapIdx]; rfl
theorem vK_all (id : Nat) (ps : List Pr) : vK id ps ps.length = voted id ps := by
  unfold vK; rw [← voted_len id ps, List.take_length, voted_len, List.drop_length, List.append_nil]

/-- a node's first and third cell, and what a ballot's call leaves -/
structure SN (nb bb : Nat) (i : Int) (Y : Nat → Prop) (W : World) : Prop where
  c0 : W.cell? ⟨nb, 0, none⟩ = some (.int .i64 i)
  c2 : W.cell? ⟨nb, 2, none⟩ = some (ptr bb)
  lt : nb < W.heap.size
  ny : ¬ Y nb
theorem SN.tu {nb bb : Nat} {i : Int} {Y Y' : Nat → Prop} {a b : World} (h : SN nb bb i Y a) (ht : Tu Y Y' a b) : SN nb bb i Y b := by
  have hb := (ht.stay h.lt h.ny).1
  exact ⟨(World.cell?_of_block (a := ⟨nb, 0, none⟩) hb).trans h.c0, (World.cell?_of_block (a := ⟨nb, 2, none⟩) hb).trans h.c2, Nat.lt_of_lt_of_le h.lt ht.size, h.ny⟩
theorem SN.drew {nb bb : Nat} {i : Int} {Y : Nat → Prop} {a : World} (h : SN nb bb i Y a) : SN nb bb i Y a.drew := h.tu (Tu.of_below (Below.refl _ _).drew)
abbrev SNp (nb bb : Nat) (i : Int) (Y : Nat → Prop) (W : World) : Prop := (W.cell? ⟨nb, 0, none⟩ = some (.int .i64 i) ∧ W.cell? ⟨nb, 2, none⟩ = some (ptr bb)) ∧ SN nb bb i Y W
theorem SNp.of {nb bb : Nat} {i : Int} {Y : Nat → Prop} {W : World} (h : SN nb bb i Y W) : SNp nb bb i Y W := ⟨⟨h.c0, h.c2⟩, h⟩

/-- what is sent keeps all else -/
theorem sent_fold (l : Lt) : ∀ (js : List Nat) (N : Nd), js.foldl (fun K j => K.sent j l) N = { N with ls := (js.foldl (fun K j => K.sent j l) N).ls } ∧ (js.foldl (fun K j => K.sent j l) N).ls.length = N.ls.length + js.length
  | [], _ => ⟨rfl, rfl⟩
  | j :: js, N => by
    obtain ⟨h1, h2⟩ := sent_fold l js (N.sent j l)
    rw [List.foldl_cons]
    refine ⟨h1.trans rfl, ?_⟩
    rw [h2, List.length_cons]
    show (N.ls ++ [_]).length + js.length = _
    rw [List.length_append, List.length_singleton]; omega
def Nd.ask2 (M : Nd) : Int × Nd :=
  if (cst M.ps.length M.S M.s M.id).1 ≠ 0 then ((cst M.ps.length M.S M.s M.id).1, M.put (cst M.ps.length M.S M.s M.id).2.1 (cst M.ps.length M.S M.s M.id).2.2)
  else (M.put (cst M.ps.length M.S M.s M.id).2.1 (cst M.ps.length M.S M.s M.id).2.2).asks.chosen
theorem ask_two (N : Nd) : N.ask = if (trn N.S N.s (N.s.t + 1)).1 ≠ 0 then (((trn N.S N.s (N.s.t + 1)).1 : Int), N.put (trn N.S N.s (N.s.t + 1)).2.1 (trn N.S N.s (N.s.t + 1)).2.2)
  else (N.put (trn N.S N.s (N.s.t + 1)).2.1 (trn N.S N.s (N.s.t + 1)).2.2).ask2 := rfl
section
variable {nb bd : Nat} {N : Nd} {X : Nat → Prop}
set_option maxRecDepth 100000 in
set_option maxHeartbeats 8000000 in
theorem ask_any (w : World) (h : ND w nb bd N X) (hok : N.Ok) (hls : N.ls.length ≤ 700000) :
    Calls Tryz.prog 44 #[ptr nb] w fun e w' => e = .returned (.int .i64 N.ask.1) ∧ Goes w w' nb bd N.ask.2 X := by
  have hnn := hok.nn
  have hid := hok.idn
  have hm := hok.many
  obtain ⟨bb, bl, pb, v, lv, Y, hH, rfl⟩ := h
  have HT := hide (fun W (hb : Below w.heap.size w W) => Ba.Term_any W (hH.bal.below hb))
  have HU := hide (fun W (hb : Below w.heap.size w W) => show Calls Tryz.prog 78 #[ptr bb, .int .i64 (N.s.t + 1)] W fun e w' => e = .returned (.int .i64 (trn N.S N.s (N.s.t + 1)).1) ∧ ∃ Y', BB w' bb bd N.ps.length (trn N.S N.s (N.s.t + 1)).2.1 (trn N.S N.s (N.s.t + 1)).2.2 Y' ∧ Tu Y Y' w w' by
    refine (Ba.Turn_any (N.s.t + 1) W (hH.bal.below hb)).mono ?_
    rintro e w' ⟨rfl, Y', hB, ht⟩
    exact ⟨rfl, Y', hB, (Tu.of_below hb).trans ht⟩)
  have HS0 := hide (SN.mk (nb := nb) (bb := bb) (i := N.id) (Y := Y) (W := w) (hH.c 0) (hH.c 2) hH.nlt hH.yn)
  have hS := SNp.of HS0.out
  have HH := hide hH
  have ew : IntKind.i64.wrap (N.s.t + 1) = N.s.t + 1 := by have := hok.bal.t0; have := hok.bal.t1; rw [Ba.wrap_in (by omega) (by omega)]
  obtain ⟨ho1, he1⟩ := trn_ok (S := N.S) (N.s.t + 1) hok.bal (by omega)
  rw [ask_two]
  clear hH
  generalize trn N.S N.s (N.s.t + 1) = R1 at *
  obtain ⟨c1, S1, s1⟩ := R1
  dsimp only at HU ho1 he1 ⊢
  by_cases hc1 : c1 = 0
  · subst hc1
    rw [if_neg (by simp)]
    obtain ⟨M, hM⟩ : ∃ M, N.put S1 s1 = M := ⟨_, rfl⟩
    have mps : M.ps = N.ps := by rw [← hM]; rfl
    have mid : M.id = N.id := by rw [← hM]; rfl
    have mls : M.ls = N.ls := by rw [← hM]; rfl
    have mcm : M.cm = N.cm := by rw [← hM]; rfl
    have ms : M.s = s1 := by rw [← hM]; rfl
    have mS : M.S = S1 := by rw [← hM]; rfl
    rw [hM]
    unfold Nd.ask2
    have HCst := hide (fun W Y1 (hB : BB W bb bd M.ps.length M.S M.s Y1) => Ba.Cast_any (M.id : Int) W hB (by rw [ms, mps]; exact ho1) (by rw [mps]; omega))
    obtain ⟨ho2, he2⟩ := cst_ok (S := M.S) (s := M.s) (M.id : Int) (by rw [ms]; exact ho1) (n := N.ps.length) (by omega)
    rw [mps] at HCst ⊢
    generalize cst N.ps.length M.S M.s M.id = R2 at *
    obtain ⟨c2, S2, s2⟩ := R2
    dsimp only at HCst ho2 he2 ⊢
    by_cases hc2 : c2 = 0
    · subst hc2
      rw [if_neg (by simp)]
      have he3 : (M.put S2 s2).s.es = N.s.es := he2.trans (by rw [ms]; exact he1)
      obtain ⟨M2, hM2⟩ : ∃ M2, M.put S2 s2 = M2 := ⟨_, rfl⟩
      have q1 : M2.ps = N.ps := by rw [← hM2]; exact mps
      have q2 : M2.id = N.id := by rw [← hM2]; exact mid
      have q3 : M2.ls = N.ls := by rw [← hM2]; exact mls
      have q4 : M2.cm = N.cm := by rw [← hM2]; exact mcm
      have q5 : M2.s.Ok N.ps.length := by rw [← hM2]; exact ho2
      rw [hM2] at he3 ⊢
      have HQ := hide (And.intro q1 (And.intro q2 (And.intro q3 (And.intro q4 q5))))
      have HE3 := hide he3
      have HM2 := hide hM2
      have HMs := hide (And.intro mps (And.intro mid (And.intro mS ms)))
      have HM := hide hM
      clear q1 q2 q3 q4 q5 he3 hM2 mps mid mS ms mls mcm hM he2 he1 ho2
      go_enter Tryz.func44, Tryz.ntmps44
      go_upto_region 1 with fail
      go_region_held3 (SNp nb bb N.id Y) (first | with_reducible exact SNp.of (SN.drew (And.right (by assumption))) | with_reducible exact SNp.of (SN.tu HS0.out (by assumption)) | with_reducible assumption)
        (first | (go_at_call 42; refine (HT.out _ (by first | exact Below.refl _ _ | exact (Below.refl _ _).drew | exact (Below.refl _ _).drew.drew)).mono ?_; rintro e w2 ⟨rfl, rfl⟩) | (go_at_call 78; refine (HU.out _ (by first | exact Below.refl _ _ | exact (Below.refl _ _).drew | exact (Below.refl _ _).drew.drew)).mono ?_; rintro e w3 ⟨rfl, Y1, hB1, ht1⟩))
      all_goals
        obtain ⟨hH1, hT1⟩ := HH.out.turnB hB1 ht1
        rw [HM.out] at hH1
        have HS1 := hide (SN.mk (nb := nb) (bb := bb) (i := N.id) (Y := Y1) (W := w3) (by rw [hH1.c 0]; show some (Value.int .i64 (M.id : Int)) = _; rw [HMs.out.2.1]) (hH1.c 2) hH1.nlt hH1.yn)
        have HCs := hide (fun W (hb : Below w3.heap.size w3 W) => show Calls Tryz.prog 79 #[ptr bb, .int .i64 (N.id : Int)] W fun e w' => e = .returned (.int .i64 0) ∧ ∃ Y', BB w' bb bd N.ps.length S2 s2 Y' ∧ Tu Y1 Y' w3 w' by
          have hc := HCst.out W Y1 (by rw [HMs.out.2.2.1, HMs.out.2.2.2]; exact hB1.below hb)
          rw [HMs.out.2.1] at hc
          refine hc.mono ?_
          rintro e w' ⟨rfl, Y', hB, ht⟩
          exact ⟨rfl, Y', hB, (Tu.of_below hb).trans ht⟩)
        have HH1 := hide hH1
        have HT1 := hide hT1
        have hS1 := SNp.of HS1.out
        clear HH hH1 hT1 hB1 ht1 HCst HU HT
        go_upto_region 4 with fail
        go_region_held3 (SNp nb bb N.id Y1) (first | with_reducible exact SNp.of (SN.drew (And.right (by assumption))) | with_reducible exact SNp.of (SN.tu HS1.out (by assumption)) | with_reducible assumption)
          (first | (go_at_call 79; refine (HCs.out _ (by first | exact Below.refl _ _ | exact (Below.refl _ _).drew | exact (Below.refl _ _).drew.drew)).mono ?_; rintro e w4 ⟨rfl, Y2, hB2, ht2⟩))
        all_goals
          obtain ⟨hH2, hT2⟩ := HH1.out.turnB (by rw [HMs.out.1]; exact hB2) ht2
          have hT12 := HT1.out.trans hT2
          rw [HM2.out] at hH2
          clear hB2 ht2 HS1 HT1 HH1 HCs
          have z4 := hH2.fz 4
          have z5 := hH2.fz 5
          have c4 := hH2.c 4
          have c5 := hH2.c 5
          obtain ⟨hH3, hT3⟩ := hH2.set 4 (.int .i64 1) { M2 with role := 1 } rfl rfl rfl rfl rfl
          obtain ⟨hH4, hT4⟩ := hH3.set 5 (.int .i64 (-1)) { M2 with role := 1, ldr := -1 } rfl rfl rfl rfl rfl
          have HF := hide (And.intro hH4 ((hT12.trans hT3).trans hT4))
          clear hH2 hT2 hT12 hH3 hT3 hH4 hT4
          go_upto_region 8 with fail
          obtain ⟨W, hW⟩ : ∃ W, W = (w4.setCell ⟨nb, 4, none⟩ (.int .i64 1)).setCell ⟨nb, 5, none⟩ (.int .i64 (-1)) := ⟨_, rfl⟩
          rw [← hW] at HF ⊢
          clear hW z4 z5 c4 c5
          have d9 : W.cell? ⟨nb, 9, none⟩ = some (.slice (some ⟨pb, 0, none⟩) M2.ps.length M2.ps.length) := HF.out.1.c 9
          have v0 : vK M2.id M2.ps 0 = M2.ps := by unfold vK; simp
          rw [← HE3.out] at HF
          go_wp2
          go_loopw [47] (fun i wr => ∃ k : Nat, k ≤ M2.ps.length ∧ i = .int .i64 k ∧ NH wr nb bd bb bl pb v lv { M2 with role := 1, ldr := -1, ps := vK M2.id M2.ps k } M2.s.es Y2 ∧ Tu (no w nb bl pb lv Y) (no wr nb bl pb lv Y2) w wr) (fun i _ => M2.ps.length - (intOf i).toNat)
          case atStart => exact ⟨0, by omega, rfl, by rw [v0]; exact HF.out.1, HF.out.2⟩
          case round =>
            clear HF v0 d9
            obtain ⟨k, hk, rfl, hH, hT⟩ := hrel
            have hlen := vK_len M2.id M2.ps k hk
            have hl16 : M2.ps.length ≤ 16 := by rw [HQ.out.1]; exact hnn
            by_cases hlt : k < M2.ps.length
            · have hat := vK_at M2.id M2.ps k hlt
              have c9 : wr.cell? ⟨nb, 9, none⟩ = some (.slice (some ⟨pb, 0, none⟩) (vK M2.id M2.ps k).length (vK M2.id M2.ps k).length) := hH.c 9
              have c0 : wr.cell? ⟨nb, 0, none⟩ = some (.int .i64 (M2.id : Int)) := hH.c 0
              have hp := hH.pc (i := k) (by show k < (vK M2.id M2.ps k).length; omega)
              dsimp only at hp
              obtain ⟨p0, _, _⟩ := hp
              have z0 := hH.pfz (k * 3)
              rw [hlen] at c9
              have eb : ((k : Int) == (M2.id : Int)) = decide (k = M2.id) := by
                by_cases h : k = M2.id
                · simp [h]
                · simp [h]; omega
              obtain ⟨hHa, hTa⟩ := hH.setP (k * 3) (.bool ((k : Int) == (M2.id : Int))) (vK M2.id M2.ps (k + 1)) (by
                have h0 := rc_setA (vK M2.id M2.ps k) k 0 (by omega) (by decide) ⟨decide (k = M2.id), M2.ps[k].nx, M2.ps[k].mt⟩ (.bool ((k : Int) == (M2.id : Int))) (by rw [eb, hat]; rfl)
                rw [vK_next M2.id M2.ps k hlt] at h0
                exact h0) (by rw [vK_len M2.id M2.ps (k + 1) (by omega)]; exact hlen.symm)
              have HFa : Hid (NH (wr.setCell ⟨pb, k * 3, none⟩ (.bool ((k : Int) == (M2.id : Int)))) nb bd bb bl pb v lv { M2 with role := 1, ldr := -1, ps := vK M2.id M2.ps (k + 1) } M2.s.es Y2 ∧ Tu (no w nb bl pb lv Y) (no (wr.setCell ⟨pb, k * 3, none⟩ (.bool ((k : Int) == (M2.id : Int)))) nb bl pb lv Y2) w (wr.setCell ⟨pb, k * 3, none⟩ (.bool ((k : Int) == (M2.id : Int))))) := hide (And.intro hHa (hT.trans hTa))
              have HLT := hide hlt
              have g1 : (0 : Int) ≤ (k : Int) := by omega
              have g2 : (k : Int) < (M2.ps.length : Int) := by omega
              clear hH hT hHa hTa hat eb
              obtain ⟨iz, hiz⟩ : ∃ z : Int, (M2.id : Int) = z := ⟨_, rfl⟩
              rw [hiz] at c0 HFa
              clear hiz
              go_upto_region 11 with fail
              go_region_law (fail)
              all_goals
                go_wp2
                go_roundw
                case rel =>
                  have := HLT.out
                  have hD := HFa.out.1.below (Below.refl _ _).drew
                  first
                    | exact ⟨k + 1, by omega, by go_num, HFa.out.1, HFa.out.2⟩
                    | exact ⟨k + 1, by omega, by go_num, hD.1, by rw [hD.2]; exact HFa.out.2.trans (Tu.of_below (Below.refl _ _).drew)⟩
                case measure =>
                  have := HLT.out
                  simp [intOf]; omega
            · obtain rfl : k = M2.ps.length := by omega
              rw [vK_all] at hH
              have HA : M2.asks = ({ M2 with role := 1, ldr := -1, ps := voted M2.id M2.ps } : Nd).others.foldl (fun K j => K.sent j (.ask M2.s.t M2.s.es.length (M2.s.lo.tm M2.s.es.length))) { M2 with role := 1, ldr := -1, ps := voted M2.id M2.ps } := rfl
              obtain ⟨M3, hM3⟩ : ∃ M3 : Nd, { M2 with role := 1, ldr := -1, ps := voted M2.id M2.ps } = M3 := ⟨_, rfl⟩
              have m1 : M3.ps.length = N.ps.length := by rw [← hM3]; show (voted M2.id M2.ps).length = _; rw [voted_len, HQ.out.1]
              have m2 : M3.ls = N.ls := by rw [← hM3]; exact HQ.out.2.2.1
              have m3 : M3.s = M2.s := by rw [← hM3]
              have m4 : M3.id = N.id := by rw [← hM3]; exact HQ.out.2.1
              have m5 : M3.cm = N.cm := by rw [← hM3]; exact HQ.out.2.2.2.1
              have m6 : M3.role = 1 := by rw [← hM3]
              have hm2 : M2.s.es.length ≤ 900000 := by rw [HE3.out]; exact hm
              rw [hM3] at hH HA
              have HL := hide (Rl.Last_any bl ⟨0, 0, M2.s.es⟩ v wr hH.log (by show 0 + M2.s.es.length ≤ _; omega))
              rw [show (⟨0, 0, M2.s.es⟩ : Lo).last = M2.s.es.length by show 0 + M2.s.es.length = _; omega] at HL
              have e3 := hH.c 3
              have HND := hide (show ND wr nb bd M3 (no wr nb bl pb lv Y2) from ⟨bb, bl, pb, v, lv, Y2, by rw [m3]; exact hH, rfl⟩)
              have HT0 := hide hT
              obtain ⟨f1, f2⟩ := sent_fold (.ask M2.s.t M2.s.es.length (M2.s.lo.tm M2.s.es.length)) M3.others M3
              rw [← HA] at f1 f2
              have hol : M3.others.length ≤ 16 := Nat.le_trans (oth_len M3 M3.ps.length) (by omega)
              have hAok : M2.asks.Ok := by
                rw [f1]
                exact ⟨by show M3.id < M3.ps.length; omega, by show M3.ps.length ≤ 16; omega, by show M3.s.Ok (M3.ps.length : Int); rw [m3, m1]; exact HQ.out.2.2.2.2, by show M3.s.es.length ≤ _; rw [m3]; exact hm2, by show M2.asks.ls.length ≤ _; rw [f2, m2]; omega, by show 0 ≤ M3.cm; rw [m5]; exact hok.cm, fun h => by have h' : M3.role = 2 := h; omega⟩
              have HCh := hide (fun W X1 (hN : ND W nb bd M2.asks X1) => chosen_any W hN hAok)
              have HMM := hide (And.intro m1 (And.intro m2 m3))
              have HAA := hide HA
              obtain ⟨tm, htm⟩ : ∃ tm, (⟨0, 0, M2.s.es⟩ : Lo).tm M2.s.es.length = tm := ⟨_, rfl⟩
              have HTM := hide htm
              rw [htm] at HL
              clear hH hT m1 m2 m3 m4 m5 m6 hM3 HA f1 f2 hAok htm hlen
              go_wp2_with fail
              refine HL.out.mono ?_
              clear HL
              rintro e w5 ⟨rfl, q, rfl⟩
              have hb5 := below_drewN (Below.refl wr.heap.size wr) q
              generalize wr.drewN q = w5 at *
              have HND5 := hide (HND.out.below hb5)
              clear e3
              go_wp2_with fail
              refine (others_any w5 HND5.out (by rw [HMM.out.1]; exact hnn)).mono ?_
              rintro e w6 ⟨a, cap, rfl, hl, hnw, hb6⟩
              have HND6 := hide (HND5.out.below hb6)
              have hT6 := hide (HT0.out.trans (Tu.of_below (hb5.trans (hb6.mono hb5.size))))
              have HNX : ∀ b off, a = some ⟨b, off, none⟩ → ¬ no wr nb bl pb lv Y2 b := fun b off e hX => by have := HND5.out.lt hX; have := hnw b off e; omega
              clear HND HND5 hb5 hb6 hnw HT0
              go_wp2
              go_loopw [75] (fun i wz => ∃ k : Nat, k ≤ M3.others.length ∧ i = .int .i64 k ∧ ∃ X', ND wz nb bd ((M3.others.take k).foldl (fun K j => K.sent j (.ask M2.s.t M2.s.es.length (M2.s.lo.tm M2.s.es.length))) M3) X' ∧ Tu (no wr nb bl pb lv Y2) X' w6 wz) (fun i _ => M3.others.length - (intOf i).toNat)
              case atStart => exact ⟨0, by omega, rfl, _, HND6.out, Tu.refl _ _⟩
              case round =>
                clear HND6
                obtain ⟨k, hk, rfl, X', hN', ht'⟩ := hrel
                by_cases hlt : k < M3.others.length
                · have hlr : Gk.Lies wr ienc a (M3.others.map fun (j : Nat) => (j : Int)) := hl.later (fun b off e hbl => (ht'.stay hbl (HNX b off e)).1) ht'.size
                  obtain ⟨b, off, rfl, hblt, hc⟩ := hlr.at ienc_len k (by rw [List.length_map]; exact hlt)
                  have c0 := hc 0 _ rfl
                  rw [Nat.mul_one, Nat.add_zero, List.getElem_map] at c0
                  have HT := hide (show (M3.others.take (k + 1)).foldl (fun K j => K.sent j (.ask M2.s.t M2.s.es.length (M2.s.lo.tm M2.s.es.length))) M3 = ((M3.others.take k).foldl (fun K j => K.sent j (.ask M2.s.t M2.s.es.length (M2.s.lo.tm M2.s.es.length))) M3).sent M3.others[k] (.ask M2.s.t M2.s.es.length (M2.s.lo.tm M2.s.es.length)) by
                    rw [List.take_succ_eq_append_getElem hlt, List.foldl_append]; rfl)
                  obtain ⟨f1, f2⟩ := sent_fold (.ask M2.s.t M2.s.es.length (M2.s.lo.tm M2.s.es.length)) (M3.others.take k) M3
                  rw [List.length_take, HMM.out.2.1] at f2
                  generalize M3.others[k] = j at *
                  generalize (M3.others.take k).foldl (fun K j => K.sent j (.ask M2.s.t M2.s.es.length (M2.s.lo.tm M2.s.es.length))) M3 = M4 at *
                  have p2 : M4.s = M2.s := by rw [f1]; exact HMM.out.2.2
                  have HHd := hide (header_any wr hN')
                  rw [p2] at HHd
                  have HSn := hide (fun W (hb : Below wr.heap.size wr W) => send_any j (.ask M2.s.t M2.s.es.length (M2.s.lo.tm M2.s.es.length)) _ W (hN'.below hb) (.ask _ _ _) trivial (by omega))
                  rw [show M2.s.lo.tm M2.s.es.length = tm from HTM.out] at HSn HT
                  have i1 : (0 : Int) ≤ (k : Int) := by omega
                  have i2 : (k : Int) < (M3.others.length : Int) := by omega
                  clear hc hlr hN' f1 f2 p2
                  go_wp2_with fail
                  refine HHd.out.mono ?_
                  rintro e w7 ⟨rfl, hb7⟩
                  go_wp2_with fail
                  refine (HSn.out _ hb7).mono ?_
                  rintro e w8 ⟨rfl, X8, h8, ht8⟩
                  go_wp2
                  go_roundw
                  case rel => exact ⟨k + 1, by omega, by go_num, X8, by rw [show M2.s.lo.tm M2.s.es.length = tm from HTM.out, HT.out]; exact h8, ht'.trans ((Tu.of_below hb7).trans ht8)⟩
                  case measure => simp [intOf]; omega
                · obtain rfl : k = M3.others.length := by omega
                  rw [List.take_length, ← HAA.out] at hN'
                  go_wp2_with fail
                  refine (HCh.out wr X' hN').mono ?_
                  rintro e w9 ⟨rfl, X9, h9, ht9⟩
                  go_wp2
                  go_ret
                  exact ⟨rfl, X9, h9, (hT6.out.trans ht').trans ht9⟩
    · rw [if_pos hc2]
      have hc2' : ¬ (c2 : Int) = 0 := by omega
      go_enter Tryz.func44, Tryz.ntmps44
      go_upto_region 1 with fail
      go_region_held3 (SNp nb bb N.id Y) (first | with_reducible exact SNp.of (SN.drew (And.right (by assumption))) | with_reducible exact SNp.of (SN.tu HS0.out (by assumption)) | with_reducible assumption)
        (first | (go_at_call 42; refine (HT.out _ (by first | exact Below.refl _ _ | exact (Below.refl _ _).drew | exact (Below.refl _ _).drew.drew)).mono ?_; rintro e w2 ⟨rfl, rfl⟩) | (go_at_call 78; refine (HU.out _ (by first | exact Below.refl _ _ | exact (Below.refl _ _).drew | exact (Below.refl _ _).drew.drew)).mono ?_; rintro e w3 ⟨rfl, Y1, hB1, ht1⟩))
      all_goals
        obtain ⟨hH1, hT1⟩ := HH.out.turnB hB1 ht1
        rw [hM] at hH1
        have HS1 := hide (SN.mk (nb := nb) (bb := bb) (i := N.id) (Y := Y1) (W := w3) (by rw [hH1.c 0]; show some (Value.int .i64 (M.id : Int)) = _; rw [mid]) (hH1.c 2) hH1.nlt hH1.yn)
        have HCs := hide (fun W (hb : Below w3.heap.size w3 W) => show Calls Tryz.prog 79 #[ptr bb, .int .i64 (N.id : Int)] W fun e w' => e = .returned (.int .i64 c2) ∧ ∃ Y', BB w' bb bd N.ps.length S2 s2 Y' ∧ Tu Y1 Y' w3 w' by
          have hc := HCst.out W Y1 (by rw [mS, ms]; exact hB1.below hb)
          rw [mid] at hc
          refine hc.mono ?_
          rintro e w' ⟨rfl, Y', hB, ht⟩
          exact ⟨rfl, Y', hB, (Tu.of_below hb).trans ht⟩)
        have HH1 := hide hH1
        have HT1 := hide hT1
        have hS1 := SNp.of HS1.out
        clear HH hH1 hT1 hB1 ht1 HCst HU HT
        go_upto_region 4 with fail
        go_region_held3 (SNp nb bb N.id Y1) (first | with_reducible exact SNp.of (SN.drew (And.right (by assumption))) | with_reducible exact SNp.of (SN.tu HS1.out (by assumption)) | with_reducible assumption)
          (first | (go_at_call 79; refine (HCs.out _ (by first | exact Below.refl _ _ | exact (Below.refl _ _).drew | exact (Below.refl _ _).drew.drew)).mono ?_; rintro e w4 ⟨rfl, Y2, hB2, ht2⟩))
        all_goals
          obtain ⟨hH2, hT2⟩ := HH1.out.turnB (by rw [mps]; exact hB2) ht2
          have hT12 := HT1.out.trans hT2
          have HF := hide (And.intro hH2 hT12)
          clear hH2 hT2 hT12 hB2 ht2
          go_wp2
          go_ret
          exact ⟨rfl, _, ⟨bb, bl, pb, v, lv, Y2, by rw [show (M.put S2 s2).s.es = N.s.es from he2.trans (by rw [ms]; exact he1)]; exact HF.out.1, rfl⟩, HF.out.2⟩
  · rw [if_pos hc1]
    have hc1' : ¬ (c1 : Int) = 0 := by omega
    go_enter Tryz.func44, Tryz.ntmps44
    go_upto_region 1 with fail
    go_region_held3 (SNp nb bb N.id Y) (first | with_reducible exact SNp.of (SN.drew (And.right (by assumption))) | with_reducible exact SNp.of (SN.tu HS0.out (by assumption)) | with_reducible assumption)
      (first | (go_at_call 42; refine (HT.out _ (by first | exact Below.refl _ _ | exact (Below.refl _ _).drew | exact (Below.refl _ _).drew.drew)).mono ?_; rintro e w2 ⟨rfl, rfl⟩) | (go_at_call 78; refine (HU.out _ (by first | exact Below.refl _ _ | exact (Below.refl _ _).drew | exact (Below.refl _ _).drew.drew)).mono ?_; rintro e w3 ⟨rfl, Y1, hB1, ht1⟩))
    all_goals
      obtain ⟨hH1, hT1⟩ := HH.out.turnB hB1 ht1
      have HF := hide (And.intro hH1 hT1)
      clear hH1 hT1 hB1 ht1
      go_wp2
      go_ret
      exact ⟨rfl, _, ⟨bb, bl, pb, v, lv, Y1, by rw [show (N.put S1 s1).s.es = N.s.es from he1]; exact HF.out.1, rfl⟩, HF.out.2⟩
end
end Go.Proofs.YtmpahgklcabihaaGreat.Rf

namespace Go.Proofs.YtmpahgklcabihaaGreat.Rf
open Go.RowKit Go.Joins Go.Proofs.YtmpahgklcabihaaGreat.Gk
open Go.Proofs.YtmpahgklcabihaaGreat.Dk (St Bs)
open Go.Proofs.YtmpahgklcabihaaGreat.Rl (En Lo LH ER ptr blk own Tn eenc eenc_len agr nmb mcode May1)
open Go.Proofs.YtmpahgklcabihaaGreat.Ba (Bl BB Tu Es trn cst mgd)

theorem run_min (x y : Int) : ∀ (W : World) (ts : Array TypeId) (t : TypeId), (Builtin.min_ ts t #[.int .i64 x, .int .i64 y]).run Tryz.prog W = .ok (.int .i64 (min x y)) W := fun W ts t => by
  by_cases h : x ≤ y
  · rw [Rl.min_first ts t .i64 .i64 x y h, Int.min_eq_left h]
  · rw [Rl.min_second ts t .i64 .i64 x y (by omega), Int.min_eq_right (by omega)]
theorem run_max (x y : Int) : ∀ (W : World) (ts : Array TypeId) (t : TypeId), (Builtin.max_ ts t #[.int .i64 x, .int .i64 y]).run Tryz.prog W = .ok (.int .i64 (max x y)) W := fun W ts t => by
  by_cases h : x ≤ y
  · rw [Rl.max_second ts t .i64 .i64 x y h, Int.max_eq_right h]
  · rw [Rl.max_first ts t .i64 .i64 x y (by omega), Int.max_eq_left (by omega)]
def Nd.answered (N : Nd) (j : Nat) (t : Int) (g : Bool) (n : Nat) : Int × Nd :=
  if t ≠ N.s.t ∨ N.role ≠ 2 then (0, N)
  else if g = true then
    if n ≤ N.s.es.length then (0, ({ N with ps := N.ps.set j ⟨(N.pr j).hv, max (N.pr j).mt n + 1, max (N.pr j).mt n⟩ } : Nd).commit) else (0, N)
  else (0, ({ N with ps := N.ps.set j ⟨(N.pr j).hv, max 1 (min ((N.pr j).nx - 1) (n + 1)), (N.pr j).mt⟩ } : Nd).sendE j)
section
variable {nb bd : Nat} {N : Nd} {X : Nat → Prop}
set_option maxRecDepth 100000 in
set_option maxHeartbeats 8000000 in
theorem answered_any (j : Nat) (hj : j < N.ps.length) (t : Int) (g : Bool) (n : Nat) (hn : n ≤ 1073741824) (w : World) (h : ND w nb bd N X) (hok : N.Ok) (hmt : (N.pr j).mt ≤ 1000000) :
    Calls Tryz.prog 296 #[.agg #[.int .i64 t, .bool g, .int .i64 n], ptr nb, .int .i64 j] w fun e w' => e = .returned (.int .i64 (N.answered j t g n).1) ∧ Goes w w' nb bd (N.answered j t g n).2 X := by
  have hnn := hok.nn
  have hm := hok.many
  have hls := hok.ls
  obtain ⟨W, hW⟩ : ∃ W, W = w.alloc (.cells #[.int .i64 t, .bool g, .int .i64 n] AnsT) := ⟨_, rfl⟩
  have hb0 : Below w.heap.size w W := by rw [hW]; exact (Below.refl _ _).alloc (Nat.le_refl _) _
  have hx : W.heap[w.heap.size]? = some (.cells #[.int .i64 t, .bool g, .int .i64 n] AnsT (0, 0)) := by rw [hW]; exact heap_alloc_new w _
  have x0 := cell_of_block hx 0
  have x1 := cell_of_block hx 1
  have x2 := cell_of_block hx 2
  have hxz : w.heap.size < W.heap.size := (Array.getElem?_eq_some_iff.1 hx).1
  have HND := hide (h.below hb0)
  have HB0 := hide hb0
  obtain ⟨bb, bl, pb, v, lv, Y, hH, hX⟩ := h.below hb0
  have c2 := hH.c 2
  have c4 : W.cell? ⟨nb, 4, none⟩ = some (.int .i64 N.role) := hH.c 4
  have HT := hide (fun W' (hb : Below W.heap.size W W') => Ba.Term_any W' (hH.bal.below hb))
  have HC := hide (fun W' (hb : Below W.heap.size W W') => (hH.below hb).1)
  have HNO := hide (fun W' (hb : Below W.heap.size W W') => (hH.below hb).2)
  have HX := hide hX
  have hD := fun n => below_drewN (Below.refl W.heap.size W) n
  have y1 : ∀ m, (W.drewN m).cell? ⟨w.heap.size, 1, none⟩ = some (.bool g) := fun m => ((hD m).cell (p := ⟨w.heap.size, 1, none⟩) hxz).trans x1
  have y2 : ∀ m, (W.drewN m).cell? ⟨w.heap.size, 2, none⟩ = some (.int .i64 n) := fun m => ((hD m).cell (p := ⟨w.heap.size, 2, none⟩) hxz).trans x2
  have HD := hide hD
  unfold Nd.answered
  clear h hb0 hx hH hX hD
  by_cases h1 : t = N.s.t
  · have e1 : (t != N.s.t) = false := by simp [h1]
    by_cases h2 : N.role = 2
    · have e2 : (N.role != 2) = false := by simp [h2]
      rw [if_neg (by omega)]
      have hnx := hok.nx h2
      have hn1 := hnx.lo _ (Nd.pr_mem hj)
      have hn2 := hnx.hi _ (Nd.pr_mem hj)
      clear h1 h2
      have g1 : (0 : Int) ≤ (j : Int) := by omega
      have g2 : (j : Int) < (N.ps.length : Int) := by omega
      have hpj := Nd.pr_at hj
      have d9 : ∀ m, (W.drewN m).cell? ⟨nb, 9, none⟩ = some (.slice (some ⟨pb, 0, none⟩) N.ps.length N.ps.length) := fun m => (HC.out _ (HD.out m)).c 9
      have p1 : ∀ m, (W.drewN m).cell? ⟨pb, j * 3 + 1, none⟩ = some (.int .i64 ((N.pr j).nx : Int)) := fun m => by rw [← hpj]; exact ((HC.out _ (HD.out m)).pc hj).2.1
      have p2 : ∀ m, (W.drewN m).cell? ⟨pb, j * 3 + 2, none⟩ = some (.int .i64 ((N.pr j).mt : Int)) := fun m => by rw [← hpj]; exact ((HC.out _ (HD.out m)).pc hj).2.2
      have z1 : ∀ m, (W.drewN m).frozen? ⟨pb, j * 3 + 1, none⟩ = false := fun m => (HC.out _ (HD.out m)).pfz (j * 3 + 1)
      have z2 : ∀ m, (W.drewN m).frozen? ⟨pb, j * 3 + 2, none⟩ = false := fun m => (HC.out _ (HD.out m)).pfz (j * 3 + 2)
      cases g with
      | false =>
        rw [if_neg (by simp)]
        obtain ⟨nn, hnn2⟩ : ∃ nn, max 1 (min ((N.pr j).nx - 1) (n + 1)) = nn := ⟨_, rfl⟩
        rw [hnn2]
        have ew1 : IntKind.i64.wrap (((N.pr j).nx : Int) - 1) = ((N.pr j).nx : Int) - 1 := by rw [Ba.wrap_in (by omega) (by omega)]
        have ew2 : IntKind.i64.wrap ((n : Int) + 1) = (n : Int) + 1 := by rw [Ba.wrap_in (by omega) (by omega)]
        have hmin := run_min (((N.pr j).nx : Int) - 1) ((n : Int) + 1)
        obtain ⟨zi, hzi⟩ : ∃ zi, min (((N.pr j).nx : Int) - 1) ((n : Int) + 1) = zi := ⟨_, rfl⟩
        rw [hzi] at hmin
        have hmax := run_max 1 zi
        rw [show max 1 zi = (nn : Int) by omega] at hmax
        have HS := hide (fun W' (hb : Below W.heap.size W W') => (HC.out W' hb).setP (j * 3 + 1) (.int .i64 (nn : Int)) (N.ps.set j ⟨(N.pr j).hv, nn, (N.pr j).mt⟩) (rc_setA N.ps j 1 hj (by decide) ⟨(N.pr j).hv, nn, (N.pr j).mt⟩ (.int .i64 (nn : Int)) (by rw [hpj]; rfl)) (by rw [List.length_set]))
        obtain ⟨M, hM⟩ : ∃ M : Nd, { N with ps := N.ps.set j ⟨(N.pr j).hv, nn, (N.pr j).mt⟩ } = M := ⟨_, rfl⟩
        have m1 : M.s = N.s := by rw [← hM]
        have m2 : M.ps.length = N.ps.length := by rw [← hM]; exact List.length_set
        have m3 : M.ls = N.ls := by rw [← hM]
        have m4 : Nx M := by
          have e1 : M.ps = N.ps.set j ⟨(N.pr j).hv, nn, (N.pr j).mt⟩ := by rw [← hM]
          refine ⟨fun p hp => ?_, fun p hp => ?_⟩
          · rw [e1] at hp
            rcases List.mem_or_eq_of_mem_set hp with h | rfl
            · exact hnx.lo p h
            · show 1 ≤ nn; omega
          · rw [e1] at hp; rw [m1]
            rcases List.mem_or_eq_of_mem_set hp with h | rfl
            · exact hnx.hi p h
            · show nn ≤ _; omega
        rw [hM] at HS ⊢
        have HSn := hide (fun W1 X1 (hN : ND W1 nb bd M X1) => sendEntries_any j W1 hN (by omega) m4 (by rw [m1]; exact hok.bal.es (by omega)) (by rw [m1]; omega) (by rw [m3]; omega))
        have HM1 := hide m1
        clear hM m1 m2 m3 m4 hzi hnn2 hnx hpj hn1 hn2
        go_enter Tryz.func296, Tryz.ntmps296
        go_upto_region 1 with fail
        rw [← hW]
        clear hW
        go_quiet (first | (go_at_call 42; exact Calls.quiet_of_same (HT.out _ (below_drewN (Below.refl _ _) _))))
        go_upto_region 5 with fail
        go_region_law (fail)
        all_goals
          have hs := HS.out _ (HD.out (nq + 1))
          have ht := hs.2
          rw [HNO.out _ (HD.out (nq + 1))] at ht
          have HF := hide (And.intro hs.1 ht)
          clear hs ht
          go_wp2_with fail
          refine (HSn.out _ _ ⟨bb, bl, pb, v, lv, Y, by rw [HM1.out]; exact HF.out.1, rfl⟩).mono ?_
          rintro e w2 ⟨rfl, X2, h2, ht2⟩
          go_wp2
          go_ret
          rw [HX.out]
          exact ⟨rfl, X2, h2, (Tu.of_below HB0.out).trans ((Tu.of_below (HD.out _)).trans (HF.out.2.trans ht2))⟩
      | true =>
        rw [if_pos rfl]
        have d3 : ∀ m, (W.drewN m).cell? ⟨nb, 3, none⟩ = some (ptr bl) := fun m => (HC.out _ (HD.out m)).c 3
        have HL := hide (fun m => show Calls Tryz.prog 80 #[ptr bl] (W.drewN m) fun e w' => e = .returned (.tuple #[.int .i64 (N.s.es.length : Int), .int .i64 (N.s.lo.tm N.s.es.length)]) ∧ ∃ q, w' = W.drewN q by
          refine (Rl.Last_any bl ⟨0, 0, N.s.es⟩ v (W.drewN m) (HC.out _ (HD.out m)).log (by show 0 + N.s.es.length ≤ _; omega)).mono ?_
          rw [show (⟨0, 0, N.s.es⟩ : Lo).last = N.s.es.length by show 0 + N.s.es.length = _; omega]
          rintro e w' ⟨rfl, q, rfl⟩
          exact ⟨rfl, m + q, by rw [World.drewN_drewN]⟩)
        by_cases hle : n ≤ N.s.es.length
        · rw [if_pos hle]
          have hle' : (n : Int) ≤ (N.s.es.length : Int) := by omega
          obtain ⟨mm, hmm⟩ : ∃ mm, max (N.pr j).mt n = mm := ⟨_, rfl⟩
          rw [hmm]
          have hmax := run_max ((N.pr j).mt : Int) (n : Int)
          rw [show max ((N.pr j).mt : Int) (n : Int) = (mm : Int) by omega] at hmax
          have ew : IntKind.i64.wrap ((mm : Int) + 1) = (mm : Int) + 1 := by rw [Ba.wrap_in (by omega) (by omega)]
          have HS := hide (fun W' (hb : Below W.heap.size W W') => (HC.out W' hb).setP (j * 3 + 2) (.int .i64 (mm : Int)) (N.ps.set j ⟨(N.pr j).hv, (N.pr j).nx, mm⟩) (rc_setA N.ps j 2 hj (by decide) ⟨(N.pr j).hv, (N.pr j).nx, mm⟩ (.int .i64 (mm : Int)) (by rw [hpj]; rfl)) (by rw [List.length_set]))
          have HS2 := hide (fun W' (hb : Below W.heap.size W W') => (HS.out W' hb).1.setP (j * 3 + 1) (.int .i64 ((mm : Int) + 1)) (N.ps.set j ⟨(N.pr j).hv, mm + 1, mm⟩) (by
            have h0 := rc_setA (N.ps.set j ⟨(N.pr j).hv, (N.pr j).nx, mm⟩) j 1 (by rw [List.length_set]; exact hj) (by decide) ⟨(N.pr j).hv, mm + 1, mm⟩ (.int .i64 ((mm : Int) + 1)) (by rw [List.getElem_set_self]; rfl)
            rw [List.set_set] at h0
            exact h0) (by rw [List.length_set, List.length_set]))
          obtain ⟨M, hM⟩ : ∃ M : Nd, { N with ps := N.ps.set j ⟨(N.pr j).hv, mm + 1, mm⟩ } = M := ⟨_, rfl⟩
          have hH2 := hide (fun W' (hb : Below W.heap.size W W') => show NH ((W'.setCell ⟨pb, j * 3 + 2, none⟩ (.int .i64 (mm : Int))).setCell ⟨pb, j * 3 + 1, none⟩ (.int .i64 ((mm : Int) + 1))) nb bd bb bl pb v lv M N.s.es Y from hM ▸ (HS2.out W' hb).1)
          have m1 : M.s = N.s := by rw [← hM]
          have m2 : M.ps.length = N.ps.length := by rw [← hM]; exact List.length_set
          have m3 : M.cm = N.cm := by rw [← hM]
          rw [hM]
          have HCm := hide (fun W1 X1 (hN : ND W1 nb bd M X1) => commit_any W1 hN (by omega) (by rw [m1]; omega) (by rw [m3]; exact hok.cm))
          have HM1 := hide m1
          clear hM m1 m2 m3 hmm hnx hpj hn1 hn2
          go_enter Tryz.func296, Tryz.ntmps296
          go_upto_region 1 with fail
          rw [← hW]
          clear hW
          go_quiet (first | (go_at_call 42; exact Calls.quiet_of_same (HT.out _ (below_drewN (Below.refl _ _) _))))
          go_wp2_with fail
          refine (HL.out _).mono ?_
          rintro e w1 ⟨rfl, q, rfl⟩
          go_upto_region 10 with fail
          go_region_law (fail)
          all_goals
            have hs := (HS.out _ (HD.out (q + 1))).2
            have hs2 := (HS2.out _ (HD.out (q + 1))).2
            rw [HNO.out _ (HD.out (q + 1))] at hs
            have HF := hide (And.intro (hH2.out _ (HD.out (q + 1))) (hs.trans hs2))
            clear hs hs2
            go_wp2_with fail
            refine (HCm.out _ _ ⟨bb, bl, pb, v, lv, Y, by rw [HM1.out]; exact HF.out.1, rfl⟩).mono ?_
            rintro e w2 ⟨rfl, X2, h2, ht2⟩
            go_wp2
            go_ret
            rw [HX.out]
            exact ⟨rfl, X2, h2, (Tu.of_below HB0.out).trans ((Tu.of_below (HD.out _)).trans (HF.out.2.trans ht2))⟩
        · rw [if_neg hle]
          have hle' : ¬ (n : Int) ≤ (N.s.es.length : Int) := by omega
          go_enter Tryz.func296, Tryz.ntmps296
          go_upto_region 1 with fail
          rw [← hW]
          clear hW
          go_quiet (first | (go_at_call 42; exact Calls.quiet_of_same (HT.out _ (below_drewN (Below.refl _ _) _))))
          go_wp2_with fail
          refine (HL.out _).mono ?_
          rintro e w1 ⟨rfl, q, rfl⟩
          go_wp2
          go_ret
          exact ⟨rfl, X, HND.out.below (HD.out _), (Tu.of_below HB0.out).trans (Tu.of_below (HD.out _))⟩
    · have e2 : (N.role != 2) = true := by simp [h2]
      rw [if_pos (Or.inr h2)]
      clear h1 h2
      go_enter Tryz.func296, Tryz.ntmps296
      go_upto_region 1 with fail
      rw [← hW]
      clear hW
      go_quiet (first | (go_at_call 42; exact Calls.quiet_of_same (HT.out _ (below_drewN (Below.refl _ _) _))))
      go_wp2
      go_ret
      exact ⟨rfl, X, HND.out.below (HD.out _), (Tu.of_below HB0.out).trans (Tu.of_below (HD.out _))⟩
  · have e1 : (t != N.s.t) = true := by simp [h1]
    rw [if_pos (Or.inl h1)]
    go_enter Tryz.func296, Tryz.ntmps296
    go_upto_region 1 with fail
    rw [← hW]
    clear hW
    go_quiet (first | (go_at_call 42; exact Calls.quiet_of_same (HT.out _ (below_drewN (Below.refl _ _) _))))
    go_wp2
    go_ret
    exact ⟨rfl, X, HND.out.below (HD.out _), (Tu.of_below HB0.out).trans (Tu.of_below (HD.out _))⟩
end
end Go.Proofs.YtmpahgklcabihaaGreat.Rf

namespace Go.Proofs.YtmpahgklcabihaaGreat.Rf
open Go.RowKit Go.Joins Go.Proofs.YtmpahgklcabihaaGreat.Gk
open Go.Proofs.YtmpahgklcabihaaGreat.Dk (St Bs)
open Go.Proofs.YtmpahgklcabihaaGreat.Rl (En Lo LH ER ptr blk own Tn eenc eenc_len agr nmb mcode May1)
open Go.Proofs.YtmpahgklcabihaaGreat.Ba (Bl BB Tu Es trn cst mgd)

section
variable {nb bd : Nat} {N : Nd} {X : Nat → Prop}
set_option maxRecDepth 100000 in
set_option maxHeartbeats 8000000 in
theorem heard_ok (j : Nat) (t c : Int) (p : Nat) (a : Option Addr) (cap : Nat) (fs : List En) (w : World) (h : ND w nb bd N X) (hok : N.Ok) (ht : ¬ t < N.s.t) (hp : p ≤ N.s.es.length) (hl : Gk.Lies w eenc a fs) (hfl : fs.length ≤ 60) (hf : ∀ e ∈ fs, e.t ≤ N.s.t) (hx : fs ≠ [] → ∀ b off, a = some ⟨b, off, none⟩ → ¬ X b)
    (n : Int) (S' : St) (s' : Bl) (hM : mgd N.S N.s p fs = (n, 0, S', s')) :
    Calls Tryz.prog 290 #[.agg #[.int .i64 t, .int .i64 p, .int .i64 (N.s.lo.tm p), .int .i64 c, .slice a fs.length cap], ptr nb, .int .i64 j] w fun e w' => e = .returned (.int .i64 0) ∧ Goes w w' nb bd (({ N with S := S', s := s', role := 0, ldr := j, wt := 0, cm := max N.cm (min c n) } : Nd).sent j (.ans s'.t true n)) X := by
  have hls := hok.ls
  obtain ⟨tm, htm⟩ : ∃ tm, N.s.lo.tm p = tm := ⟨_, rfl⟩
  rw [htm]
  obtain ⟨W, hW⟩ : ∃ W, W = w.alloc (.cells #[.int .i64 t, .int .i64 p, .int .i64 tm, .int .i64 c, .slice a fs.length cap] EntsT) := ⟨_, rfl⟩
  have hb0 : Below w.heap.size w W := by rw [hW]; exact (Below.refl _ _).alloc (Nat.le_refl _) _
  have hxx : W.heap[w.heap.size]? = some (.cells #[.int .i64 t, .int .i64 p, .int .i64 tm, .int .i64 c, .slice a fs.length cap] EntsT (0, 0)) := by rw [hW]; exact heap_alloc_new w _
  have x0 := cell_of_block hxx 0
  have hxz : w.heap.size < W.heap.size := (Array.getElem?_eq_some_iff.1 hxx).1
  have hXn : ¬ X w.heap.size := fun hX => by have := h.lt hX; omega
  have HBX := hide (fun X' W' (ht : Tu X X' W W') => (show W'.heap[w.heap.size]? = some (.cells #[.int .i64 t, .int .i64 p, .int .i64 tm, .int .i64 c, .slice a fs.length cap] EntsT (0, 0)) from (ht.stay hxz hXn).1.trans hxx))
  have HLI := hide (fun X' W' (ht : Tu X X' W W') => (show Gk.Lies W' eenc a fs ∧ ∀ b off, a = some ⟨b, off, none⟩ → fs ≠ [] → ¬ X' b from
    ⟨by
      rcases Classical.em (fs = []) with h0 | h0
      · exact Or.inl h0
      · exact (hl.below hb0).later (fun b off e hb => (ht.stay hb (hx h0 b off e)).1) ht.size, fun b off e hne => by
      rcases hl with h0 | ⟨b', off', e', hb', _⟩
      · exact absurd h0 hne
      · rw [e] at e'; cases e'
        exact (ht.stay (Nat.lt_of_lt_of_le hb' hb0.size) (hx hne b off e)).2⟩))
  have HB0 := hide hb0
  obtain ⟨bb, bl, pb, v, lv, Y, hH, hX⟩ := h.below hb0
  have c2 := hH.c 2
  have HT := hide (fun W' (hb : Below W.heap.size W W') => Ba.Term_any W' (hH.bal.below hb))
  have HS := hide (fun W' (hb : Below W.heap.size W W') => by
    obtain ⟨h1, h2⟩ := hH.below hb
    obtain ⟨h3, t3⟩ := h1.set 4 (.int .i64 0) { N with role := 0 } rfl rfl rfl rfl rfl
    obtain ⟨h4, t4⟩ := h3.set 5 (.int .i64 j) { N with role := 0, ldr := j } rfl rfl rfl rfl rfl
    obtain ⟨h5, t5⟩ := h4.set 6 (.int .i64 0) { N with role := 0, ldr := j, wt := 0 } rfl rfl rfl rfl rfl
    rw [h2] at t3
    have ht := (Tu.of_below hb).trans ((t3.trans t4).trans t5)
    rw [← hX] at ht
    exact And.intro h5 ht)
  have hD := fun m => below_drewN (Below.refl W.heap.size W) m
  have d4 : ∀ m, (W.drewN m).cell? ⟨nb, 4, none⟩ = some (.int .i64 N.role) := fun m => (hH.below (hD m)).1.c 4
  have d5 : ∀ m, (W.drewN m).cell? ⟨nb, 5, none⟩ = some (.int .i64 N.ldr) := fun m => (hH.below (hD m)).1.c 5
  have d6 : ∀ m, (W.drewN m).cell? ⟨nb, 6, none⟩ = some (.int .i64 N.wt) := fun m => (hH.below (hD m)).1.c 6
  have f4 : ∀ m, (W.drewN m).frozen? ⟨nb, 4, none⟩ = false := fun m => (hH.below (hD m)).1.fz 4
  have f5 : ∀ m, (W.drewN m).frozen? ⟨nb, 5, none⟩ = false := fun m => (hH.below (hD m)).1.fz 5
  have f6 : ∀ m, (W.drewN m).frozen? ⟨nb, 6, none⟩ = false := fun m => (hH.below (hD m)).1.fz 6
  have hokM : ({ N with role := 0, ldr := j, wt := 0 } : Nd).Ok := ⟨hok.idn, hok.nn, hok.bal, hok.many, hok.ls, hok.cm, fun h => absurd (show (0 : Int) = 2 from h) (by decide)⟩
  have HMg := hide (fun W1 X1 (hN : ND W1 nb bd { N with role := 0, ldr := j, wt := 0 } X1) (hl1 : Gk.Lies W1 eenc a fs) (hx1 : fs ≠ [] → ∀ b off, a = some ⟨b, off, none⟩ → ¬ X1 b) => merge_any p a cap fs W1 hN hokM hp hl1 hfl hf hx1)
  dsimp only at HMg
  rw [hM] at HMg
  dsimp only at HMg
  rw [if_pos rfl, htm] at HMg
  have HD := hide hD
  have he2 : (decide (t < N.s.t)) = false := decide_eq_false ht
  clear h hb0 hxx hH hX hD hM htm hl hx
  go_enter Tryz.func290, Tryz.ntmps290
  go_upto_region 1 with fail
  rw [← hW]
  clear hW
  go_quiet (first | (go_at_call 42; exact Calls.quiet_of_same (HT.out _ (below_drewN (Below.refl _ _) _))))
  go_upto_region 5 with fail
  obtain ⟨W3, hW3⟩ : ∃ W3, W3 = (((W.drewN nq).setCell ⟨nb, 4, none⟩ (.int .i64 0)).setCell ⟨nb, 5, none⟩ (.int .i64 j)).setCell ⟨nb, 6, none⟩ (.int .i64 0) := ⟨_, rfl⟩
  rw [← hW3]
  have h3 := HS.out (W.drewN nq) (HD.out nq)
  rw [← hW3] at h3
  obtain ⟨h3, t3⟩ := h3
  have hx3 := HBX.out _ _ t3
  have a1 := cell_of_block hx3 1
  have a2 := cell_of_block hx3 2
  have a4 := cell_of_block hx3 4
  have hli := HLI.out _ _ t3
  have HM3 := hide (HMg.out W3 _ h3.pack hli.1)
  have HT3 := hide t3
  have HL3 := hide hli.2
  clear hW3 h3 t3 hx3 hli HMg HS d4 d5 d6 f4 f5 f6 c2 x0
  go_wp2_with fail
  refine (HM3.out (fun hne b off e => HL3.out b off e hne)).mono ?_
  rintro e w4 ⟨rfl, X4, h4, t4⟩
  have hT4 := HT3.out.trans t4
  have hx4 := HBX.out _ _ hT4
  have hxz4 : w.heap.size < w4.heap.size := (Array.getElem?_eq_some_iff.1 hx4).1
  have b3 := cell_of_block hx4 3
  obtain ⟨K, hK⟩ : ∃ K, ({ N with role := 0, ldr := j, wt := 0 } : Nd).put S' s' = K := ⟨_, rfl⟩
  rw [hK] at h4
  have k1 : K.cm = N.cm := by rw [← hK]; rfl
  have k2 : K.ls = N.ls := by rw [← hK]; rfl
  have k3 : K.s = s' := by rw [← hK]; rfl
  have hKF : ({ N with S := S', s := s', role := 0, ldr := j, wt := 0, cm := max N.cm (min c n) } : Nd) = { K with cm := max N.cm (min c n) } := by rw [← hK]; rfl
  obtain ⟨bb4, bl4, pb4, v4, lv4, Y4, hH4, hX4⟩ := h4
  obtain ⟨mn, hmn⟩ : ∃ mn, min c n = mn := ⟨_, rfl⟩
  obtain ⟨mx, hmx⟩ : ∃ mx, max N.cm mn = mx := ⟨_, rfl⟩
  rw [hmn, hmx] at hKF
  have hmin := run_min c n
  rw [hmn] at hmin
  have hmax := run_max N.cm mn
  rw [hmx] at hmax
  have c7 : w4.cell? ⟨nb, 7, none⟩ = some (.int .i64 N.cm) := by rw [← k1]; exact hH4.c 7
  have z7 := hH4.fz 7
  have HS7 := hide (fun W' (hb : Below w4.heap.size w4 W') => by
    obtain ⟨h1, h2⟩ := hH4.below hb
    obtain ⟨h3, t3⟩ := h1.set 7 (.int .i64 mx) { K with cm := mx } rfl rfl rfl rfl rfl
    rw [h2, ← hX4] at t3
    exact And.intro (show ND (W'.setCell ⟨nb, 7, none⟩ (.int .i64 mx)) nb bd { K with cm := mx } _ from ⟨bb4, bl4, pb4, v4, lv4, Y4, h3, rfl⟩) ((hT4.trans (Tu.of_below hb)).trans t3))
  have EQ := hide (show ({ N with S := S', s := s', role := 0, ldr := j, wt := 0, cm := max N.cm (min c n) } : Nd).sent j (.ans s'.t true n) = ({ K with cm := mx } : Nd).sent j (.ans K.s.t true n) by rw [hmn, hmx, hKF, k3])
  have HK2 := hide k2
  clear hH4 hX4 hT4 hx4 hxz4 hK k1 k2 k3 hKF hmn hmx t4 HM3 HT3 HL3 a1 a2 a4
  go_upto_region 9 with fail
  go_region_law (fail)
  all_goals
    first
      | (obtain ⟨hN5, ht5⟩ := HS7.out w4.drew (Below.refl _ _).drew
         go_wp2_with fail
         refine (header_any _ hN5).mono ?_
         rintro e w6 ⟨rfl, hb6⟩
         have HN6 := hide (hN5.below hb6)
         have HT6 := hide (ht5.trans (Tu.of_below hb6))
         clear hN5 ht5 hb6
         go_wp2_with fail
         refine (send_any j (.ans K.s.t true n) _ w6 HN6.out (.ans _ _ _) trivial (by show K.ls.length ≤ _; rw [HK2.out]; omega)).mono ?_
         rintro e w7 ⟨rfl, X7, h7, t7⟩
         go_wp2
         go_ret
         rw [EQ.out]
         exact ⟨rfl, X7, h7, (Tu.of_below HB0.out).trans (HT6.out.trans t7)⟩)
      | (obtain ⟨hN5, ht5⟩ := HS7.out w4 (Below.refl _ _)
         go_wp2_with fail
         refine (header_any _ hN5).mono ?_
         rintro e w6 ⟨rfl, hb6⟩
         have HN6 := hide (hN5.below hb6)
         have HT6 := hide (ht5.trans (Tu.of_below hb6))
         clear hN5 ht5 hb6
         go_wp2_with fail
         refine (send_any j (.ans K.s.t true n) _ w6 HN6.out (.ans _ _ _) trivial (by show K.ls.length ≤ _; rw [HK2.out]; omega)).mono ?_
         rintro e w7 ⟨rfl, X7, h7, t7⟩
         go_wp2
         go_ret
         rw [EQ.out]
         exact ⟨rfl, X7, h7, (Tu.of_below HB0.out).trans (HT6.out.trans t7)⟩)
end
end Go.Proofs.YtmpahgklcabihaaGreat.Rf

namespace Go.Proofs.YtmpahgklcabihaaGreat.Rf
open Go.RowKit Go.Joins Go.Proofs.YtmpahgklcabihaaGreat.Gk
open Go.Proofs.YtmpahgklcabihaaGreat.Dk (St Bs)
open Go.Proofs.YtmpahgklcabihaaGreat.Rl (En Lo LH ER ptr blk own Tn eenc eenc_len agr nmb mcode May1)
open Go.Proofs.YtmpahgklcabihaaGreat.Ba (Bl BB Tu Es trn cst mgd)

def Nd.may (N : Nd) (j : Nat) (t l lt : Int) : Bool := decide (t = N.s.t) && N.s.lo.beh l lt && (decide (N.s.v = -1) || decide (N.s.v = j))
section
variable {nb bd : Nat} {N : Nd} {X : Nat → Prop}
set_option maxRecDepth 100000 in
set_option maxHeartbeats 4000000 in
theorem mayVote_any (j : Nat) (t l lt : Int) (w : World) (h : ND w nb bd N X) (hm : N.s.es.length ≤ 1000000) :
    Calls Tryz.prog 285 #[ptr nb, .int .i64 j, .agg #[.int .i64 t, .int .i64 l, .int .i64 lt]] w fun e w' => e = .returned (.bool (N.may j t l lt)) ∧ Below w.heap.size w w' := by
  obtain ⟨bb, bl, pb, v, lv, Y, hH, rfl⟩ := h
  obtain ⟨W, hW⟩ : ∃ W, W = w.alloc (.cells #[.int .i64 t, .int .i64 l, .int .i64 lt] AskT) := ⟨_, rfl⟩
  have hb0 : Below w.heap.size w W := by rw [hW]; exact (Below.refl _ _).alloc (Nat.le_refl _) _
  have hx : W.heap[w.heap.size]? = some (.cells #[.int .i64 t, .int .i64 l, .int .i64 lt] AskT (0, 0)) := by rw [hW]; exact heap_alloc_new w _
  have x0 := cell_of_block hx 0
  have x1 := cell_of_block hx 1
  have x2 := cell_of_block hx 2
  have hW1 := (hH.below hb0).1
  have c2 := hW1.c 2
  have c3 := hW1.c 3
  have HV := hide (Ba.Vote_any W hW1.bal)
  have HT := hide (fun W' (hb : Below W.heap.size W W') => Ba.Term_any W' (hW1.bal.below hb))
  have HB := hide (fun W' (hb : Below W.heap.size W W') => Rl.Behind_any bl ⟨0, 0, N.s.es⟩ v l lt W' (hW1.log.below hb) (by show 0 + N.s.es.length ≤ _; omega))
  have HB0 := hide hb0
  unfold Nd.may
  obtain ⟨B, hB⟩ : ∃ B, N.s.lo.beh l lt = B := ⟨_, rfl⟩
  rw [show (⟨0, 0, N.s.es⟩ : Lo).beh l lt = B from hB] at HB
  rw [hB]
  clear hH hW1 hx hb0 hB
  generalize N.s.v = vv at *
  generalize N.s.t = tt at *
  by_cases h1 : t = tt
  · subst h1
    have e1 : (t == t) = true := by simp
    cases B with
    | false =>
      rw [show (decide (t = t) && false && (decide (vv = -1) || decide (vv = (j : Int)))) = false by simp]
      go_enter Tryz.func285, Tryz.ntmps285
      go_upto_region 1 with fail
      rw [← hW]
      clear hW
      go_wp2_with fail
      refine HV.out.mono ?_
      rintro e w1 ⟨rfl, rfl⟩
      go_upto_region 2 with fail
      go_quiet (first | (go_at_call 42; exact Calls.quiet_of_same (HT.out _ (below_drewN (Below.refl _ _) _))) | (go_at_call 287; exact Calls.quiet_of (HB.out _ (below_drewN (Below.refl _ _) _))))
      go_wp2
      go_ret
      exact ⟨rfl, HB0.out.trans ((below_drewN (Below.refl _ _) _).mono HB0.out.size)⟩
    | true =>
      by_cases h2 : vv = -1
      · have e2 : (vv == -1) = true := by simp [h2]
        rw [show (decide (t = t) && true && (decide (vv = -1) || decide (vv = (j : Int)))) = true by simp [h2]]
        go_enter Tryz.func285, Tryz.ntmps285
        go_upto_region 1 with fail
        rw [← hW]
        clear hW
        go_wp2_with fail
        refine HV.out.mono ?_
        rintro e w1 ⟨rfl, rfl⟩
        go_upto_region 2 with fail
        go_quiet (first | (go_at_call 42; exact Calls.quiet_of_same (HT.out _ (below_drewN (Below.refl _ _) _))) | (go_at_call 287; exact Calls.quiet_of (HB.out _ (below_drewN (Below.refl _ _) _))))
        go_wp2
        go_ret
        exact ⟨rfl, HB0.out.trans ((below_drewN (Below.refl _ _) _).mono HB0.out.size)⟩
      · have e2 : (vv == -1) = false := by simp [h2]
        by_cases h3 : vv = (j : Int)
        · have e3 : (vv == (j : Int)) = true := by simp [h3]
          rw [show (decide (t = t) && true && (decide (vv = -1) || decide (vv = (j : Int)))) = true by simp [h3]]
          go_enter Tryz.func285, Tryz.ntmps285
          go_upto_region 1 with fail
          rw [← hW]
          clear hW
          go_wp2_with fail
          refine HV.out.mono ?_
          rintro e w1 ⟨rfl, rfl⟩
          go_upto_region 2 with fail
          go_quiet (first | (go_at_call 42; exact Calls.quiet_of_same (HT.out _ (below_drewN (Below.refl _ _) _))) | (go_at_call 287; exact Calls.quiet_of (HB.out _ (below_drewN (Below.refl _ _) _))))
          go_wp2
          go_ret
          exact ⟨rfl, HB0.out.trans ((below_drewN (Below.refl _ _) _).mono HB0.out.size)⟩
        · have e3 : (vv == (j : Int)) = false := by simp [h3]
          rw [show (decide (t = t) && true && (decide (vv = -1) || decide (vv = (j : Int)))) = false by simp [h2, h3]]
          go_enter Tryz.func285, Tryz.ntmps285
          go_upto_region 1 with fail
          rw [← hW]
          clear hW
          go_wp2_with fail
          refine HV.out.mono ?_
          rintro e w1 ⟨rfl, rfl⟩
          go_upto_region 2 with fail
          go_quiet (first | (go_at_call 42; exact Calls.quiet_of_same (HT.out _ (below_drewN (Below.refl _ _) _))) | (go_at_call 287; exact Calls.quiet_of (HB.out _ (below_drewN (Below.refl _ _) _))))
          go_wp2
          go_ret
          exact ⟨rfl, HB0.out.trans ((below_drewN (Below.refl _ _) _).mono HB0.out.size)⟩
  · have e1 : (t == tt) = false := by simp [h1]
    rw [show (decide (t = tt) && B && (decide (vv = -1) || decide (vv = (j : Int)))) = false by simp [h1]]
    go_enter Tryz.func285, Tryz.ntmps285
    go_upto_region 1 with fail
    rw [← hW]
    clear hW
    go_wp2_with fail
    refine HV.out.mono ?_
    rintro e w1 ⟨rfl, rfl⟩
    go_upto_region 2 with fail
    go_quiet (first | (go_at_call 42; exact Calls.quiet_of_same (HT.out _ (below_drewN (Below.refl _ _) _))) | (go_at_call 287; exact Calls.quiet_of (HB.out _ (below_drewN (Below.refl _ _) _))))
    go_wp2
    go_ret
    exact ⟨rfl, HB0.out.trans ((below_drewN (Below.refl _ _) _).mono HB0.out.size)⟩
end
end Go.Proofs.YtmpahgklcabihaaGreat.Rf

namespace Go.Proofs.YtmpahgklcabihaaGreat.Rf
open Go.RowKit Go.Joins Go.Proofs.YtmpahgklcabihaaGreat.Gk
open Go.Proofs.YtmpahgklcabihaaGreat.Dk (St Bs)
open Go.Proofs.YtmpahgklcabihaaGreat.Rl (En Lo LH ER ptr blk own Tn eenc eenc_len agr nmb mcode May1)
open Go.Proofs.YtmpahgklcabihaaGreat.Ba (Bl BB Tu Es trn cst mgd)

def Nd.asked (N : Nd) (j : Nat) (t l lt : Int) : Int × Nd :=
  if N.may j t l lt = true then
    if (cst N.ps.length N.S N.s j).1 = 0 then (0, ({ N.put (cst N.ps.length N.S N.s j).2.1 (cst N.ps.length N.S N.s j).2.2 with wt := 0 } : Nd).sent j (.vote (cst N.ps.length N.S N.s j).2.2.t true))
    else ((cst N.ps.length N.S N.s j).1, N.put (cst N.ps.length N.S N.s j).2.1 (cst N.ps.length N.S N.s j).2.2)
  else (0, N.sent j (.vote N.s.t false))
section
variable {nb bd : Nat} {N : Nd} {X : Nat → Prop}
set_option maxRecDepth 100000 in
set_option maxHeartbeats 4000000 in
theorem asked_any (j : Nat) (t l lt : Int) (w : World) (h : ND w nb bd N X) (hok : N.Ok) :
    Calls Tryz.prog 283 #[.agg #[.int .i64 t, .int .i64 l, .int .i64 lt], ptr nb, .int .i64 j] w fun e w' => e = .returned (.int .i64 (N.asked j t l lt).1) ∧ Goes w w' nb bd (N.asked j t l lt).2 X := by
  have hls := hok.ls
  obtain ⟨W, hW⟩ : ∃ W, W = w.alloc (.cells #[.int .i64 t, .int .i64 l, .int .i64 lt] AskT) := ⟨_, rfl⟩
  have hb0 : Below w.heap.size w W := by rw [hW]; exact (Below.refl _ _).alloc (Nat.le_refl _) _
  have hx : W.heap[w.heap.size]? = some (.cells #[.int .i64 t, .int .i64 l, .int .i64 lt] AskT (0, 0)) := by rw [hW]; exact heap_alloc_new w _
  have x0 := cell_of_block hx 0
  have x1 := cell_of_block hx 1
  have x2 := cell_of_block hx 2
  have h0 := h.below hb0
  have HM := hide (mayVote_any j t l lt W h0 (by have := hok.many; omega))
  have HN0 := hide h0
  have HB0 := hide hb0
  have hldv : ∀ (p : Nat) (W : World), W.cell? ⟨p, 0, none⟩ = some (.int .i64 t) → True := fun _ _ _ => trivial
  unfold Nd.asked
  clear h h0 hb0 hx hldv
  generalize N.may j t l lt = B at *
  cases B with
  | false =>
    rw [if_neg (by simp)]
    go_enter Tryz.func283, Tryz.ntmps283
    go_upto_region 1 with fail
    rw [← hW]
    clear hW
    go_wp2_with fail
    refine HM.out.mono ?_
    rintro e w1 ⟨rfl, hb1⟩
    have HN1 := hide (HN0.out.below hb1)
    go_wp2_with fail
    refine (header_any w1 HN1.out).mono ?_
    rintro e w2 ⟨rfl, hb2⟩
    have HN2 := hide (HN1.out.below hb2)
    have hb12 := HB0.out.trans ((hb1.trans (hb2.mono hb1.size)).mono HB0.out.size)
    go_wp2_with fail
    refine (send_any j (.vote N.s.t false) _ w2 HN2.out (.vote _ _) trivial (by omega)).mono ?_
    rintro e w3 ⟨rfl, X3, h3, ht3⟩
    go_wp2
    go_ret
    exact ⟨rfl, X3, h3, (Tu.of_below hb12).trans ht3⟩
  | true =>
    rw [if_pos rfl]
    have HC := hide (fun W1 Y1 bb (hB : BB W1 bb bd N.ps.length N.S N.s Y1) => Ba.Cast_any (j : Int) W1 hB hok.bal (by have := hok.nn; omega))
    have hes : (cst N.ps.length N.S N.s j).2.2.es = N.s.es := (cst_ok (S := N.S) (s := N.s) (j : Int) hok.bal (by have := hok.nn; omega)).2
    generalize cst N.ps.length N.S N.s j = R at *
    obtain ⟨c, S', s'⟩ := R
    dsimp only at HC hes ⊢
    have HES := hide hes
    clear hes
    by_cases hc : c = 0
    · subst hc
      rw [if_pos rfl]
      obtain ⟨M, hM⟩ : ∃ M, ({ N.put S' s' with wt := 0 } : Nd) = M := ⟨_, rfl⟩
      have hMs : M.s = s' := by rw [← hM]; rfl
      have hMl : M.ls = N.ls := by rw [← hM]; rfl
      rw [hM, ← hMs]
      have HMM := hide (And.intro hM (And.intro hMs hMl))
      clear hM hMs hMl
      go_enter Tryz.func283, Tryz.ntmps283
      go_upto_region 1 with fail
      rw [← hW]
      clear hW
      go_wp2_with fail
      refine HM.out.mono ?_
      rintro e w1 ⟨rfl, hb1⟩
      have hN1 := HN0.out.below hb1
      have HB1 := hide (HB0.out.trans (hb1.mono HB0.out.size))
      obtain ⟨bb, bl, pb, v, lv, Y, hH, hX⟩ := hN1
      have c2 := hH.c 2
      have HH := hide hH
      have HX := hide hX
      clear hH hX hb1 x0 x1 x2
      go_wp2_with fail
      refine (HC.out w1 Y bb HH.out.bal).mono ?_
      rintro e w2 ⟨rfl, Y2, hB2, ht2⟩
      obtain ⟨hH2, hT2⟩ := HH.out.turnB hB2 ht2
      have c6 := hH2.c 6
      have z6 := hH2.fz 6
      obtain ⟨hH3, hT3⟩ := hH2.set 6 (.int .i64 0) M (by rw [← HMM.out.1]; rfl) (by rw [← HMM.out.1]) (by rw [← HMM.out.1]) (by rw [← HMM.out.1]) (by rw [← HMM.out.1])
      have HN3 := hide (show ND (w2.setCell ⟨nb, 6, none⟩ (.int .i64 0)) nb bd M _ from ⟨bb, bl, pb, v, lv, Y2, by rw [HMM.out.2.1, HES.out]; exact hH3, rfl⟩)
      have HT3 := hide (hT2.trans hT3)
      clear hH2 hT2 hH3 hT3 hB2 ht2 HH HC c2
      go_upto_region 7 with fail
      obtain ⟨W3, hW3⟩ : ∃ W3, W3 = w2.setCell ⟨nb, 6, none⟩ (.int .i64 0) := ⟨_, rfl⟩
      rw [← hW3] at HN3 HT3 ⊢
      clear hW3 c6 z6
      go_wp2_with fail
      refine (header_any W3 HN3.out).mono ?_
      rintro e w4 ⟨rfl, hb4⟩
      have HN4 := hide (HN3.out.below hb4)
      go_wp2_with fail
      refine (send_any j (.vote M.s.t true) _ w4 HN4.out (.vote _ _) trivial (by rw [HMM.out.2.2]; omega)).mono ?_
      rintro e w5 ⟨rfl, X5, h5, ht5⟩
      go_wp2
      go_ret
      refine ⟨rfl, X5, h5, ?_⟩
      rw [HX.out]
      exact (Tu.of_below HB1.out).trans (HT3.out.trans ((Tu.of_below hb4).trans ht5))
    · rw [if_neg hc]
      have hc' : ¬ (c : Int) = 0 := by omega
      go_enter Tryz.func283, Tryz.ntmps283
      go_upto_region 1 with fail
      rw [← hW]
      clear hW
      go_wp2_with fail
      refine HM.out.mono ?_
      rintro e w1 ⟨rfl, hb1⟩
      have hN1 := HN0.out.below hb1
      have HB1 := hide (HB0.out.trans (hb1.mono HB0.out.size))
      obtain ⟨bb, bl, pb, v, lv, Y, hH, hX⟩ := hN1
      have c2 := hH.c 2
      have HH := hide hH
      have HX := hide hX
      clear hH hX hb1 x0 x1 x2
      go_wp2_with fail
      refine (HC.out w1 Y bb HH.out.bal).mono ?_
      rintro e w2 ⟨rfl, Y2, hB2, ht2⟩
      obtain ⟨hH2, hT2⟩ := HH.out.turnB hB2 ht2
      have HF := hide (And.intro hH2 hT2)
      clear hH2 hT2 hB2 ht2
      go_wp2
      go_ret
      rw [HX.out]
      exact ⟨rfl, _, ⟨bb, bl, pb, v, lv, Y2, by rw [show (N.put S' s').s.es = N.s.es from HES.out]; exact HF.out.1, rfl⟩, (Tu.of_below HB1.out).trans HF.out.2⟩
end
end Go.Proofs.YtmpahgklcabihaaGreat.Rf

namespace Go.Proofs.YtmpahgklcabihaaGreat.Rf
open Go.RowKit Go.Joins Go.Proofs.YtmpahgklcabihaaGreat.Gk
open Go.Proofs.YtmpahgklcabihaaGreat.Dk (St Bs)
open Go.Proofs.YtmpahgklcabihaaGreat.Rl (En Lo LH ER ptr blk own Tn eenc eenc_len agr nmb mcode May1)
open Go.Proofs.YtmpahgklcabihaaGreat.Ba (Bl BB Tu Es trn cst mgd)

def Nd.told (N : Nd) (j : Nat) (t : Int) (g : Bool) : Int × Nd :=
  if t ≠ N.s.t ∨ N.role ≠ 1 then (0, N)
  else if g = true then ({ N with ps := N.ps.set j ⟨true, (N.pr j).nx, (N.pr j).mt⟩ } : Nd).chosen
  else (0, { N with wt := -(N.pat + N.ps.length) })
section
variable {nb bd : Nat} {N : Nd} {X : Nat → Prop}
set_option maxRecDepth 100000 in
set_option maxHeartbeats 4000000 in
theorem told_any (j : Nat) (hj : j < N.ps.length) (t : Int) (g : Bool) (w : World) (h : ND w nb bd N X) (hok : N.Ok) (hp : 0 ≤ N.pat ∧ N.pat ≤ 1000) :
    Calls Tryz.prog 294 #[.agg #[.int .i64 t, .bool g], ptr nb, .int .i64 j] w fun e w' => e = .returned (.int .i64 (N.told j t g).1) ∧ Goes w w' nb bd (N.told j t g).2 X := by
  have hnn := hok.nn
  obtain ⟨W, hW⟩ : ∃ W, W = w.alloc (.cells #[.int .i64 t, .bool g] VoteT) := ⟨_, rfl⟩
  have hb0 : Below w.heap.size w W := by rw [hW]; exact (Below.refl _ _).alloc (Nat.le_refl _) _
  have hx : W.heap[w.heap.size]? = some (.cells #[.int .i64 t, .bool g] VoteT (0, 0)) := by rw [hW]; exact heap_alloc_new w _
  have x0 := cell_of_block hx 0
  have x1 := cell_of_block hx 1
  have hxz : w.heap.size < W.heap.size := (Array.getElem?_eq_some_iff.1 hx).1
  have HND := hide (h.below hb0)
  have HB0 := hide hb0
  obtain ⟨bb, bl, pb, v, lv, Y, hH, hX⟩ := h.below hb0
  have c2 := hH.c 2
  have c4 : W.cell? ⟨nb, 4, none⟩ = some (.int .i64 N.role) := hH.c 4
  have HT := hide (fun W' (hb : Below W.heap.size W W') => Ba.Term_any W' (hH.bal.below hb))
  have HC := hide (fun W' (hb : Below W.heap.size W W') => (hH.below hb).1)
  have HNO := hide (fun W' (hb : Below W.heap.size W W') => (hH.below hb).2)
  have HX := hide hX
  have HXC := hide (fun W' (hb : Below W.heap.size W W') => (hb.cell (p := ⟨w.heap.size, 1, none⟩) hxz).trans x1)
  unfold Nd.told
  clear h hb0 hx hH hX
  by_cases h1 : t = N.s.t
  · have e1 : (t != N.s.t) = false := by simp [h1]
    by_cases h2 : N.role = 1
    · have e2 : (N.role != 1) = false := by simp [h2]
      rw [if_neg (by omega)]
      have HR := hide h2
      clear h1 h2
      cases g with
      | false =>
        rw [if_neg (by simp)]
        have ew1 : IntKind.i64.wrap (N.pat + (N.ps.length : Int)) = N.pat + (N.ps.length : Int) := by rw [Ba.wrap_in (by omega) (by omega)]
        have ew2 : IntKind.i64.wrap (-(N.pat + (N.ps.length : Int))) = -(N.pat + (N.ps.length : Int)) := by rw [Ba.wrap_in (by omega) (by omega)]
        have HS := hide (fun W' (hb : Below W.heap.size W W') => (HC.out W' hb).set 6 (.int .i64 (-(N.pat + (N.ps.length : Int)))) { N with wt := -(N.pat + (N.ps.length : Int)) } rfl rfl rfl rfl rfl)
        have hD := fun n => below_drewN (Below.refl W.heap.size W) n
        have d1 : ∀ n, (W.drewN n).cell? ⟨nb, 1, none⟩ = some (.int .i64 N.pat) := fun n => (HC.out _ (hD n)).c 1
        have d6 : ∀ n, (W.drewN n).cell? ⟨nb, 6, none⟩ = some (.int .i64 N.wt) := fun n => (HC.out _ (hD n)).c 6
        have d9 : ∀ n, (W.drewN n).cell? ⟨nb, 9, none⟩ = some (.slice (some ⟨pb, 0, none⟩) N.ps.length N.ps.length) := fun n => (HC.out _ (hD n)).c 9
        have z6 : ∀ n, (W.drewN n).frozen? ⟨nb, 6, none⟩ = false := fun n => (HC.out _ (hD n)).fz 6
        have y1 : ∀ n, (W.drewN n).cell? ⟨w.heap.size, 1, none⟩ = some (.bool false) := fun n => HXC.out _ (hD n)
        have HD := hide hD
        clear hD
        go_enter Tryz.func294, Tryz.ntmps294
        go_upto_region 1 with fail
        rw [← hW]
        clear hW
        go_quiet (first | (go_at_call 42; exact Calls.quiet_of_same (HT.out _ (below_drewN (Below.refl _ _) _))))
        go_upto_region 4 with fail
        go_region_law (fail)
        all_goals
          go_wp2
          go_ret
          rw [HX.out]
          have h0 := HD.out nq
          first
            | (refine ⟨rfl, _, (HS.out _ h0).1.pack, ?_⟩
               have ht := (HS.out _ h0).2
               rw [HNO.out _ h0] at ht
               exact (Tu.of_below HB0.out).trans ((Tu.of_below h0).trans ht))
            | (refine ⟨rfl, _, (HS.out _ h0.drew).1.pack, ?_⟩
               have ht := (HS.out _ h0.drew).2
               rw [HNO.out _ h0.drew] at ht
               exact (Tu.of_below HB0.out).trans ((Tu.of_below h0.drew).trans ht))
            | (have h2 := (HS.out _ h0).1.below (Below.refl _ _).drew
               refine ⟨rfl, _, h2.1.pack, ?_⟩
               rw [h2.2]
               have ht := (HS.out _ h0).2
               rw [HNO.out _ h0] at ht
               exact ((Tu.of_below HB0.out).trans ((Tu.of_below h0).trans ht)).trans (Tu.of_below (Below.refl _ _).drew))
            | (have h2 := (HS.out _ h0.drew).1.below (Below.refl _ _).drew
               refine ⟨rfl, _, h2.1.pack, ?_⟩
               rw [h2.2]
               have ht := (HS.out _ h0.drew).2
               rw [HNO.out _ h0.drew] at ht
               exact ((Tu.of_below HB0.out).trans ((Tu.of_below h0.drew).trans ht)).trans (Tu.of_below (Below.refl _ _).drew))
      | true =>
        rw [if_pos rfl]
        have hpj := Nd.pr_at hj
        have g1 : (0 : Int) ≤ (j : Int) := by omega
        have g2 : (j : Int) < (N.ps.length : Int) := by omega
        have HS := hide (fun n => (HC.out (W.drewN n) (below_drewN (Below.refl _ _) n)).setP (j * 3) (.bool true) (N.ps.set j ⟨true, (N.pr j).nx, (N.pr j).mt⟩) (rc_setA N.ps j 0 hj (by decide) ⟨true, (N.pr j).nx, (N.pr j).mt⟩ (.bool true) (by rw [hpj]; rfl)) (by rw [List.length_set]))
        have hokM : ({ N with ps := N.ps.set j ⟨true, (N.pr j).nx, (N.pr j).mt⟩ } : Nd).Ok := ⟨by show N.id < (N.ps.set j _).length; rw [List.length_set]; exact hok.idn, by show (N.ps.set j _).length ≤ 16; rw [List.length_set]; exact hnn, by show N.s.Ok ((N.ps.set j _).length : Int); rw [List.length_set]; exact hok.bal, hok.many, hok.ls, hok.cm, fun h => absurd h (by show ¬ N.role = 2; have := HR.out; omega)⟩
        have HCh := hide (fun W1 X1 (hN : ND W1 nb bd { N with ps := N.ps.set j ⟨true, (N.pr j).nx, (N.pr j).mt⟩ } X1) => chosen_any W1 hN hokM)
        have hMs : ({ N with ps := N.ps.set j ⟨true, (N.pr j).nx, (N.pr j).mt⟩ } : Nd).s.es = N.s.es := rfl
        generalize ({ N with ps := N.ps.set j ⟨true, (N.pr j).nx, (N.pr j).mt⟩ } : Nd) = M at *
        have hD := fun n => below_drewN (Below.refl W.heap.size W) n
        have d9 : ∀ n, (W.drewN n).cell? ⟨nb, 9, none⟩ = some (.slice (some ⟨pb, 0, none⟩) N.ps.length N.ps.length) := fun n => (HC.out _ (hD n)).c 9
        have p0 : ∀ n, (W.drewN n).cell? ⟨pb, j * 3, none⟩ = some (.bool N.ps[j].hv) := fun n => ((HC.out _ (hD n)).pc hj).1
        have z0 : ∀ n, (W.drewN n).frozen? ⟨pb, j * 3, none⟩ = false := fun n => (HC.out _ (hD n)).pfz (j * 3)
        have y1 : ∀ n, (W.drewN n).cell? ⟨w.heap.size, 1, none⟩ = some (.bool true) := fun n => HXC.out _ (hD n)
        have HD := hide hD
        have HMs := hide hMs
        clear hD hpj hokM hMs
        go_enter Tryz.func294, Tryz.ntmps294
        go_upto_region 1 with fail
        rw [← hW]
        clear hW
        go_quiet (first | (go_at_call 42; exact Calls.quiet_of_same (HT.out _ (below_drewN (Below.refl _ _) _))))
        go_wp2_with fail
        have hs := HS.out
        have h3 := fun n => HNO.out _ (HD.out n)
        refine (HCh.out _ _ ⟨bb, bl, pb, v, lv, Y, by rw [HMs.out]; exact (hs nq).1, rfl⟩).mono ?_
        rintro e w2 ⟨rfl, X2, h2, ht2⟩
        have ht := (hs nq).2.trans ht2
        rw [h3] at ht
        have HT2 := hide ((Tu.of_below HB0.out).trans ((Tu.of_below (HD.out _)).trans ht))
        clear ht ht2 hs h3
        go_wp2
        go_ret
        rw [HX.out]
        exact ⟨rfl, X2, h2, HT2.out⟩
    · have e2 : (N.role != 1) = true := by simp [h2]
      rw [if_pos (Or.inr h2)]
      clear h1 h2
      go_enter Tryz.func294, Tryz.ntmps294
      go_upto_region 1 with fail
      rw [← hW]
      clear hW
      go_quiet (first | (go_at_call 42; exact Calls.quiet_of_same (HT.out _ (below_drewN (Below.refl _ _) _))))
      go_wp2
      go_ret
      exact ⟨rfl, X, HND.out.below (below_drewN (Below.refl _ _) _), (Tu.of_below HB0.out).trans (Tu.of_below (below_drewN (Below.refl _ _) _))⟩
  · have e1 : (t != N.s.t) = true := by simp [h1]
    rw [if_pos (Or.inl h1)]
    go_enter Tryz.func294, Tryz.ntmps294
    go_upto_region 1 with fail
    rw [← hW]
    clear hW
    go_quiet (first | (go_at_call 42; exact Calls.quiet_of_same (HT.out _ (below_drewN (Below.refl _ _) _))))
    go_wp2
    go_ret
    exact ⟨rfl, X, HND.out.below (below_drewN (Below.refl _ _) _), (Tu.of_below HB0.out).trans (Tu.of_below (below_drewN (Below.refl _ _) _))⟩
end
end Go.Proofs.YtmpahgklcabihaaGreat.Rf

namespace Go.Proofs.YtmpahgklcabihaaGreat.Rf
open Go.RowKit Go.Joins Go.Proofs.YtmpahgklcabihaaGreat.Gk
open Go.Proofs.YtmpahgklcabihaaGreat.Dk (St Bs)
open Go.Proofs.YtmpahgklcabihaaGreat.Rl (En Lo LH ER ptr blk own Tn eenc eenc_len agr nmb mcode May1)
open Go.Proofs.YtmpahgklcabihaaGreat.Ba (Bl BB Tu Es trn cst mgd)

section
variable {nb bd : Nat} {N : Nd} {X : Nat → Prop}
set_option maxRecDepth 100000 in
set_option maxHeartbeats 4000000 in
theorem Tick_any (w : World) (h : ND w nb bd N X) (hok : N.Ok) (hls : N.ls.length ≤ 700000) (hw : -4000 ≤ N.wt ∧ N.wt ≤ 4000) (hp : 0 ≤ N.pat ∧ N.pat ≤ 1000) :
    Calls Tryz.prog 18 #[ptr nb] w fun e w' => e = .returned (.int .i64 N.tick.1) ∧ Goes w w' nb bd N.tick.2 X := by
  have hid := hok.idn
  have hnn := hok.nn
  unfold Nd.tick
  by_cases hr : N.role = 2
  · rw [if_pos hr]
    have HS := hide (sendAll_any w h hok.nn (hok.nx hr) (hok.bal.es (by have := hok.many; omega)) (by have := hok.many; omega) (by omega))
    obtain ⟨bb, bl, pb, v, lv, Y, hH, rfl⟩ := h
    have c4 : w.cell? ⟨nb, 4, none⟩ = some (.int .i64 N.role) := hH.c 4
    rw [hr] at c4
    clear hH hr
    go_enter Tryz.func18, Tryz.ntmps18
    go_wp2_with fail
    refine HS.out.mono ?_
    rintro e w1 ⟨rfl, hG⟩
    go_wp2
    go_ret
    exact ⟨rfl, hG⟩
  · rw [if_neg hr]
    obtain ⟨bb, bl, pb, v, lv, Y, hH, rfl⟩ := h
    have c4 := hH.c 4
    have c6 := hH.c 6
    have z6 := hH.fz 6
    have ew : IntKind.i64.wrap (N.wt + 1) = N.wt + 1 := by rw [Ba.wrap_in (by omega) (by omega)]
    have ew2 : IntKind.i64.wrap (N.pat + (N.id : Int)) = N.pat + (N.id : Int) := by rw [Ba.wrap_in (by omega) (by omega)]
    obtain ⟨hH1, hT1⟩ := hH.set 6 (.int .i64 (N.wt + 1)) { N with wt := N.wt + 1 } rfl rfl rfl rfl rfl
    have d0 : (w.setCell ⟨nb, 6, none⟩ (.int .i64 (N.wt + 1))).cell? ⟨nb, 0, none⟩ = some (.int .i64 (N.id : Int)) := hH1.c 0
    have d1 : (w.setCell ⟨nb, 6, none⟩ (.int .i64 (N.wt + 1))).cell? ⟨nb, 1, none⟩ = some (.int .i64 N.pat) := hH1.c 1
    have d6 : (w.setCell ⟨nb, 6, none⟩ (.int .i64 (N.wt + 1))).cell? ⟨nb, 6, none⟩ = some (.int .i64 (N.wt + 1)) := hH1.c 6
    by_cases hlt : N.wt + 1 < N.pat + (N.id : Int)
    · rw [if_pos hlt]
      have HF := hide (And.intro hH1 hT1)
      clear hH hH1 hT1
      go_enter Tryz.func18, Tryz.ntmps18
      go_upto_region 5 with fail
      obtain ⟨W, hW⟩ : ∃ W, W = w.setCell ⟨nb, 6, none⟩ (.int .i64 (N.wt + 1)) := ⟨_, rfl⟩
      rw [← hW] at HF d0 d1 d6 ⊢
      clear hW c4 c6 z6
      go_quiet (fail)
      go_wp2
      go_ret
      have hb := below_drewN (Below.refl W.heap.size W)
      refine ⟨rfl, _, (HF.out.1.below (hb _)).1.pack, ?_⟩
      rw [(HF.out.1.below (hb _)).2]
      exact HF.out.2.trans (Tu.of_below (hb _))
    · rw [if_neg hlt]
      have z6' : (w.setCell ⟨nb, 6, none⟩ (.int .i64 (N.wt + 1))).frozen? ⟨nb, 6, none⟩ = false := hH1.fz 6
      have hok0 : ({ N with wt := 0 } : Nd).Ok := ⟨hok.idn, hok.nn, hok.bal, hok.many, hok.ls, hok.cm, fun h => ⟨(hok.nx h).lo, (hok.nx h).hi⟩⟩
      have HAs := hide (fun W X1 (hN : ND W nb bd { N with wt := 0 } X1) => ask_any W hN hok0 hls)
      obtain ⟨A, hA⟩ : ∃ A, ({ N with wt := 0 } : Nd).ask = A := ⟨_, rfl⟩
      rw [hA] at HAs ⊢
      have HF := hide (And.intro hH1 hT1)
      clear hH hH1 hT1 hA
      go_enter Tryz.func18, Tryz.ntmps18
      go_upto_region 5 with fail
      obtain ⟨W, hW⟩ : ∃ W, W = w.setCell ⟨nb, 6, none⟩ (.int .i64 (N.wt + 1)) := ⟨_, rfl⟩
      rw [← hW] at HF d0 d1 d6 z6' ⊢
      clear hW c4 c6 z6
      go_quiet (fail)
      have hS := hide (fun n => (HF.out.1.below (below_drewN (Below.refl W.heap.size W) n)).1.set 6 (.int .i64 0) { N with wt := 0 } rfl rfl rfl rfl rfl)
      have hE := hide (fun n => (HF.out.1.below (below_drewN (Below.refl W.heap.size W) n)).2)
      have hTW := hide (fun n => Tu.of_below (D := no W nb bl pb lv Y) (below_drewN (Below.refl W.heap.size W) n))
      go_wp2_with fail
      refine (HAs.out _ _ (hS.out _).1.pack).mono ?_
      rintro e w2 ⟨rfl, X2, h2, ht2⟩
      have hT := (hS.out _).2.trans ht2
      rw [hE.out] at hT
      have HT2 := hide ((HF.out.2.trans (hTW.out _)).trans hT)
      clear hT ht2
      go_wp2
      go_ret
      exact ⟨rfl, X2, h2, HT2.out⟩
end
end Go.Proofs.YtmpahgklcabihaaGreat.Rf

namespace Go.Proofs.YtmpahgklcabihaaGreat.Rf
open Go.RowKit Go.Joins Go.Proofs.YtmpahgklcabihaaGreat.Gk
open Go.Proofs.YtmpahgklcabihaaGreat.Dk (St Bs)
open Go.Proofs.YtmpahgklcabihaaGreat.Rl (En Lo LH ER ptr blk own Tn eenc eenc_len agr nmb mcode May1)
open Go.Proofs.YtmpahgklcabihaaGreat.Ba (Bl BB Tu Es trn cst mgd)

section
variable {nb bd : Nat} {N : Nd} {X : Nat → Prop}
theorem ofTerm_any (t : Int) (w : World) : Calls Tryz.prog 281 #[.agg #[.int .i64 t]] w fun e w' => e = .returned (.int .i64 t) ∧ Below w.heap.size w w' := by
  go_enter Tryz.func281, Tryz.ntmps281
  go_wp2
  go_ret
  exact ⟨rfl, (Below.refl _ _).alloc (Nat.le_refl _) _⟩
set_option maxRecDepth 100000 in
set_option maxHeartbeats 4000000 in
theorem hearAsk (j : Nat) (hj : j < N.ps.length) (hne : j ≠ N.id) (t l lt : Int) (hfit : Lt.fit (.ask t l lt)) (w : World) (h : ND w nb bd N X) (hC : (N.catchUp t).1 = 0) (r : Int) (N' : Nd)
    (HB : ∀ W X1, ND W nb bd (N.catchUp t).2 X1 → Calls Tryz.prog 283 #[.agg #[.int .i64 t, .int .i64 l, .int .i64 lt], ptr nb, .int .i64 j] W fun e w' => e = .returned (.int .i64 r) ∧ Goes W w' nb bd N' X1) :
    Calls Tryz.prog 23 #[ptr nb, .int .i64 j, .string (Lt.text (.ask t l lt))] w fun e w' => e = .returned (.int .i64 r) ∧ Goes w w' nb bd N' X := by
  have HI := hide (letterIn_any (Lt.text (.ask t l lt)) w (by have := text_size (Lt.fit.few hfit); omega))
  rw [text_is hfit] at HI
  have HO := hide (fun W (hb : Below w.heap.size w W) => isOther_any (j : Int) W (h.below hb))
  rw [decide_eq_true (by omega)] at HO
  have HN := hide (fun W (hb : Below w.heap.size w W) => h.below hb)
  have HCa := hide (fun W (hb : Below w.heap.size w W) => catchUp_any t W (h.below hb))
  rw [hC] at HCa
  have HBB := hide HB
  clear h hC HB
  go_enter Tryz.func23, Tryz.ntmps23
  go_wp2_with fail
  refine HI.out.mono ?_
  clear HI
  rintro e w1 hTI
  generalize hx : (some (.ask t l lt) : Option Lt) = x at hTI
  cases hTI with
  | no u hr hb => rw [hr] at hx; cases hx
  | yes x1 u hr hv hn hb1 =>
    rw [hr] at hx
    cases hx
    cases hv
    have HO1 := hide (HO.out w1 hb1)
    have HCF := HCa
    have HB1 := hide hb1
    clear HO HCa HN hn
    go_wp2_with fail
    refine HO1.out.mono ?_
    rintro e w2 ⟨rfl, rfl⟩
    go_wp2_with fail
    refine (ofTerm_any t w2).mono ?_
    rintro e w3 ⟨rfl, hb3⟩
    have HB3 := hide hb3
    have HC3 := hide (HCF.out w3 (HB1.out.trans (hb3.mono HB1.out.size)))
    clear hb3
    go_wp2_with fail
    refine HC3.out.mono ?_
    rintro e w4 ⟨rfl, X4, h4, t4⟩
    have HT4 := hide t4
    clear t4 HC3
    go_wp2_with fail
    refine (HBB.out w4 X4 h4).mono ?_
    rintro e w5 ⟨rfl, X5, h5, t5⟩
    go_wp2
    go_ret
    exact ⟨rfl, X5, h5, (Tu.of_below (HB1.out.trans (HB3.out.mono HB1.out.size))).trans (HT4.out.trans t5)⟩
set_option maxRecDepth 100000 in
set_option maxHeartbeats 4000000 in
theorem hearVote (j : Nat) (hj : j < N.ps.length) (hne : j ≠ N.id) (t : Int) (g : Bool) (hfit : Lt.fit (.vote t g)) (w : World) (h : ND w nb bd N X) (hC : (N.catchUp t).1 = 0) (r : Int) (N' : Nd)
    (HB : ∀ W X1, ND W nb bd (N.catchUp t).2 X1 → Calls Tryz.prog 294 #[.agg #[.int .i64 t, .bool g], ptr nb, .int .i64 j] W fun e w' => e = .returned (.int .i64 r) ∧ Goes W w' nb bd N' X1) :
    Calls Tryz.prog 23 #[ptr nb, .int .i64 j, .string (Lt.text (.vote t g))] w fun e w' => e = .returned (.int .i64 r) ∧ Goes w w' nb bd N' X := by
  have HI := hide (letterIn_any (Lt.text (.vote t g)) w (by have := text_size (Lt.fit.few hfit); omega))
  rw [text_is hfit] at HI
  have HO := hide (fun W (hb : Below w.heap.size w W) => isOther_any (j : Int) W (h.below hb))
  rw [decide_eq_true (by omega)] at HO
  have HN := hide (fun W (hb : Below w.heap.size w W) => h.below hb)
  have HCa := hide (fun W (hb : Below w.heap.size w W) => catchUp_any t W (h.below hb))
  rw [hC] at HCa
  have HBB := hide HB
  clear h hC HB
  go_enter Tryz.func23, Tryz.ntmps23
  go_wp2_with fail
  refine HI.out.mono ?_
  clear HI
  rintro e w1 hTI
  generalize hx : (some (.vote t g) : Option Lt) = x at hTI
  cases hTI with
  | no u hr hb => rw [hr] at hx; cases hx
  | yes x1 u hr hv hn hb1 =>
    rw [hr] at hx
    cases hx
    cases hv
    have HO1 := hide (HO.out w1 hb1)
    have HCF := HCa
    have HB1 := hide hb1
    clear HO HCa HN hn
    go_wp2_with fail
    refine HO1.out.mono ?_
    rintro e w2 ⟨rfl, rfl⟩
    go_wp2_with fail
    refine (ofTerm_any t w2).mono ?_
    rintro e w3 ⟨rfl, hb3⟩
    have HB3 := hide hb3
    have HC3 := hide (HCF.out w3 (HB1.out.trans (hb3.mono HB1.out.size)))
    clear hb3
    go_wp2_with fail
    refine HC3.out.mono ?_
    rintro e w4 ⟨rfl, X4, h4, t4⟩
    have HT4 := hide t4
    clear t4 HC3
    go_wp2_with fail
    refine (HBB.out w4 X4 h4).mono ?_
    rintro e w5 ⟨rfl, X5, h5, t5⟩
    go_wp2
    go_ret
    exact ⟨rfl, X5, h5, (Tu.of_below (HB1.out.trans (HB3.out.mono HB1.out.size))).trans (HT4.out.trans t5)⟩
set_option maxRecDepth 100000 in
set_option maxHeartbeats 4000000 in
theorem hearAns (j : Nat) (hj : j < N.ps.length) (hne : j ≠ N.id) (t : Int) (g : Bool) (n : Int) (hfit : Lt.fit (.ans t g n)) (w : World) (h : ND w nb bd N X) (hC : (N.catchUp t).1 = 0) (r : Int) (N' : Nd)
    (HB : ∀ W X1, ND W nb bd (N.catchUp t).2 X1 → Calls Tryz.prog 296 #[.agg #[.int .i64 t, .bool g, .int .i64 n], ptr nb, .int .i64 j] W fun e w' => e = .returned (.int .i64 r) ∧ Goes W w' nb bd N' X1) :
    Calls Tryz.prog 23 #[ptr nb, .int .i64 j, .string (Lt.text (.ans t g n))] w fun e w' => e = .returned (.int .i64 r) ∧ Goes w w' nb bd N' X := by
  have HI := hide (letterIn_any (Lt.text (.ans t g n)) w (by have := text_size (Lt.fit.few hfit); omega))
  rw [text_is hfit] at HI
  have HO := hide (fun W (hb : Below w.heap.size w W) => isOther_any (j : Int) W (h.below hb))
  rw [decide_eq_true (by omega)] at HO
  have HN := hide (fun W (hb : Below w.heap.size w W) => h.below hb)
  have HCa := hide (fun W (hb : Below w.heap.size w W) => catchUp_any t W (h.below hb))
  rw [hC] at HCa
  have HBB := hide HB
  clear h hC HB
  go_enter Tryz.func23, Tryz.ntmps23
  go_wp2_with fail
  refine HI.out.mono ?_
  clear HI
  rintro e w1 hTI
  generalize hx : (some (.ans t g n) : Option Lt) = x at hTI
  cases hTI with
  | no u hr hb => rw [hr] at hx; cases hx
  | yes x1 u hr hv hn hb1 =>
    rw [hr] at hx
    cases hx
    cases hv
    have HO1 := hide (HO.out w1 hb1)
    have HCF := HCa
    have HB1 := hide hb1
    clear HO HCa HN hn
    go_wp2_with fail
    refine HO1.out.mono ?_
    rintro e w2 ⟨rfl, rfl⟩
    go_wp2_with fail
    refine (ofTerm_any t w2).mono ?_
    rintro e w3 ⟨rfl, hb3⟩
    have HB3 := hide hb3
    have HC3 := hide (HCF.out w3 (HB1.out.trans (hb3.mono HB1.out.size)))
    clear hb3
    go_wp2_with fail
    refine HC3.out.mono ?_
    rintro e w4 ⟨rfl, X4, h4, t4⟩
    have HT4 := hide t4
    clear t4 HC3
    go_wp2_with fail
    refine (HBB.out w4 X4 h4).mono ?_
    rintro e w5 ⟨rfl, X5, h5, t5⟩
    go_wp2
    go_ret
    exact ⟨rfl, X5, h5, (Tu.of_below (HB1.out.trans (HB3.out.mono HB1.out.size))).trans (HT4.out.trans t5)⟩
set_option maxRecDepth 100000 in
set_option maxHeartbeats 4000000 in
theorem hearEnts (j : Nat) (hj : j < N.ps.length) (hne : j ≠ N.id) (t p pt c : Int) (es : List En) (hfit : Lt.fit (.ents t p pt c es)) (w : World) (h : ND w nb bd N X) (hC : (N.catchUp t).1 = 0) (r : Int) (N' : Nd)
    (HB : ∀ a cap W X1, ND W nb bd (N.catchUp t).2 X1 → Gk.Lies W eenc a es → (es ≠ [] → ∀ b off, a = some ⟨b, off, none⟩ → ¬ X1 b) → Calls Tryz.prog 290 #[.agg #[.int .i64 t, .int .i64 p, .int .i64 pt, .int .i64 c, .slice a es.length cap], ptr nb, .int .i64 j] W fun e w' => e = .returned (.int .i64 r) ∧ Goes W w' nb bd N' X1) :
    Calls Tryz.prog 23 #[ptr nb, .int .i64 j, .string (Lt.text (.ents t p pt c es))] w fun e w' => e = .returned (.int .i64 r) ∧ Goes w w' nb bd N' X := by
  have HI := hide (letterIn_any (Lt.text (.ents t p pt c es)) w (by have := text_size (Lt.fit.few hfit); omega))
  rw [text_is hfit] at HI
  have HO := hide (fun W (hb : Below w.heap.size w W) => isOther_any (j : Int) W (h.below hb))
  rw [decide_eq_true (by omega)] at HO
  have HCF := hide (fun W (hb : Below w.heap.size w W) => catchUp_any t W (h.below hb))
  rw [hC] at HCF
  have HBB := hide HB
  have HXL := hide (fun (b : Nat) (hb : w.heap.size ≤ b) => (show ¬ X b from fun hX => by have := h.lt hX; omega))
  clear h hC HB
  go_enter Tryz.func23, Tryz.ntmps23
  go_wp2_with fail
  refine HI.out.mono ?_
  clear HI
  rintro e w1 hTI
  generalize hx : (some (Lt.ents t p pt c es) : Option Lt) = x at hTI
  cases hTI with
  | no u hr hb => rw [hr] at hx; cases hx
  | yes x1 u hr hv hn hb1 =>
    rw [hr] at hx
    cases hx
    cases hv with
    | ents t p pt c es a cap hl =>
    have HO1 := hide (HO.out w1 hb1)
    have HB1 := hide hb1
    have hnb : ∀ b off, a = some ⟨b, off, none⟩ → w.heap.size ≤ b := fun b off e => hn b (by rw [e]; rfl)
    have HNL := hide (And.intro hnb hl)
    clear HO hn hnb hl
    go_wp2_with fail
    refine HO1.out.mono ?_
    rintro e w2 ⟨rfl, rfl⟩
    go_wp2_with fail
    refine (ofTerm_any t w2).mono ?_
    rintro e w3 ⟨rfl, hb3⟩
    have HB3 := hide hb3
    have HC3 := hide (HCF.out w3 (HB1.out.trans (hb3.mono HB1.out.size)))
    clear hb3
    go_wp2_with fail
    refine HC3.out.mono ?_
    rintro e w4 ⟨rfl, X4, h4, t4⟩
    have hl3 := HNL.out.2.below HB3.out
    have hl4 : Gk.Lies w4 eenc a es := hl3.later (fun b off e hb => (t4.stay hb (HXL.out b (HNL.out.1 b off e))).1) t4.size
    have hx4 : es ≠ [] → ∀ b off, a = some ⟨b, off, none⟩ → ¬ X4 b := fun hne b off e => by
      rcases hl3 with h0 | ⟨b', off', e', hb', _⟩
      · exact absurd h0 hne
      · rw [e] at e'; cases e'
        exact (t4.stay hb' (HXL.out b (HNL.out.1 b off e))).2
    have HF := hide (HBB.out a cap w4 X4 h4 hl4 hx4)
    have HT4 := hide t4
    clear t4 HC3 hl3 hl4 hx4
    go_wp2_with fail
    refine HF.out.mono ?_
    rintro e w5 ⟨rfl, X5, h5, t5⟩
    go_wp2
    go_ret
    exact ⟨rfl, X5, h5, (Tu.of_below (HB1.out.trans (HB3.out.mono HB1.out.size))).trans (HT4.out.trans t5)⟩
end
end Go.Proofs.YtmpahgklcabihaaGreat.Rf
