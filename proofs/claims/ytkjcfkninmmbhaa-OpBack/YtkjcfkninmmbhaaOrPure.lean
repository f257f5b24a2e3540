/- Layer 8: the document's reader and the program's come to the same: plain. -/
import Derived.Test.YtkjcfkninmmbhaaOpDec
namespace Go.Proofs.Ytkjcfkninmmbhaa.Oq
open Go.RowKit Go.Joins Go.Proofs.Ytkjcfkninmmbhaa.Gk

/-- a number as the document reads it: of those from 0 to MaxStamp alone -/
def Rd.rnum (S : Rd) : Int × Rd :=
  match S.rest with
  | [] => (0, ⟨[], true⟩)
  | f :: r => if f.text = false ∧ within f.n 0 1099511627776 = true then (f.n, ⟨r, S.wrong⟩) else (0, ⟨f :: r, true⟩)

theorem Rd.num_nil {S : Rd} (h : S.rest = []) : S.num = (0, ⟨[], true⟩) := by simp [Rd.num, Rd.next, h, zF]
theorem Rd.num_cons {S : Rd} {f : Fld} {r : List Fld} (h : S.rest = f :: r) : S.num = if f.text = false then (f.n, ⟨r, S.wrong⟩) else (0, ⟨f :: r, true⟩) := by
  simp only [Rd.num, Rd.next, h]; split <;> simp [zF]
theorem Rd.txt_nil {S : Rd} (h : S.rest = []) : S.txt = (⟨#[]⟩, ⟨[], true⟩) := by simp [Rd.txt, Rd.next, h, zF]
theorem Rd.txt_cons {S : Rd} {f : Fld} {r : List Fld} (h : S.rest = f :: r) : S.txt = if f.text = true then (f.s, ⟨r, S.wrong⟩) else (⟨#[]⟩, ⟨f :: r, true⟩) := by
  simp only [Rd.txt, Rd.next, h]; split <;> simp [zF]
theorem Rd.rnum_nil {S : Rd} (h : S.rest = []) : S.rnum = (0, ⟨[], true⟩) := by simp [Rd.rnum, h]
theorem Rd.rnum_cons {S : Rd} {f : Fld} {r : List Fld} (h : S.rest = f :: r) : S.rnum = if f.text = false ∧ within f.n 0 1099511627776 = true then (f.n, ⟨r, S.wrong⟩) else (0, ⟨f :: r, true⟩) := by simp only [Rd.rnum, h]

theorem Rd.num_ok {S : Rd} (h : S.num.2.wrong = false) : S.wrong = false ∧ ∃ f r, S.rest = f :: r ∧ f.text = false ∧ S.num = (f.n, ⟨r, false⟩) := by
  cases e : S.rest with
  | nil => rw [Rd.num_nil e] at h; cases h
  | cons f r =>
    rw [Rd.num_cons e] at h
    by_cases ht : f.text = false
    · rw [if_pos ht] at h
      simp only at h
      exact ⟨h, f, r, rfl, ht, by rw [Rd.num_cons e, if_pos ht, h]⟩
    · rw [if_neg ht] at h; cases h
theorem Rd.rnum_ok {S : Rd} (h : S.rnum.2.wrong = false) : S.wrong = false ∧ S.num = S.rnum := by
  cases e : S.rest with
  | nil => rw [Rd.rnum_nil e] at h; cases h
  | cons f r =>
    rw [Rd.rnum_cons e] at h
    by_cases ht : f.text = false ∧ within f.n 0 1099511627776 = true
    · rw [if_pos ht] at h
      simp only at h
      exact ⟨h, by rw [Rd.num_cons e, Rd.rnum_cons e, if_pos ht.1, if_pos ht]⟩
    · rw [if_neg ht] at h; cases h
theorem Rd.num_rnum {S : Rd} (h : S.num.2.wrong = false) (hg : within S.num.1 0 1099511627776 = true) : S.rnum = S.num := by
  obtain ⟨_, f, r, e, ht, hn⟩ := Rd.num_ok h
  rw [hn] at hg
  rw [Rd.rnum_cons e, if_pos ⟨ht, hg⟩, Rd.num_cons e, if_pos ht]
theorem Rd.txt_ok {S : Rd} (h : S.txt.2.wrong = false) : S.wrong = false := by
  cases e : S.rest with
  | nil => rw [Rd.txt_nil e] at h; cases h
  | cons f r =>
    rw [Rd.txt_cons e] at h
    by_cases ht : f.text = true
    · rw [if_pos ht] at h; exact h
    · rw [if_neg ht] at h; cases h

/-- an operation, as the document reads it -/
def Rd.rop1 (S : Rd) : Rd := S.rnum.2.txt.2
def Rd.rop2 (S : Rd) : Rd := S.rop1.txt.2
def Rd.rop3 (S : Rd) : Rd := S.rop2.rnum.2
def Rd.rop4 (S : Rd) : Rd := S.rop3.rnum.2
def Rd.ropn (S : Rd) : Opn × Rd := (⟨S.rnum.1, S.rnum.2.txt.1, S.rop1.txt.1, S.rop2.rnum.1, S.rop3.rnum.1, S.rop4.rnum.1⟩, S.rop4.rnum.2)
def Rd.rops (S : Rd) : Nat → List Opn × Rd
  | 0 => ([], S)
  | n + 1 => ((S.rops n).1 ++ [(S.rops n).2.ropn.1], (S.rops n).2.ropn.2)
theorem Rd.rops_len (S : Rd) (n : Nat) : (S.rops n).1.length = n := by
  induction n with
  | zero => rfl
  | succ n ih => simp [Rd.rops, ih]

theorem Rd.ropn_ok {S : Rd} (h : S.ropn.2.wrong = false) : S.wrong = false ∧ S.opn = S.ropn := by
  obtain ⟨h4, e4⟩ := Rd.rnum_ok (S := S.rop4) h
  obtain ⟨h3, e3⟩ := Rd.rnum_ok (S := S.rop3) h4
  obtain ⟨h2, e2⟩ := Rd.rnum_ok (S := S.rop2) h3
  have h1 := Rd.txt_ok (S := S.rop1) h2
  have h0 := Rd.txt_ok (S := S.rnum.2) h1
  obtain ⟨hs, e0⟩ := Rd.rnum_ok (S := S) h0
  have a1 : S.op1 = S.rop1 := by unfold Rd.op1 Rd.rop1; rw [e0]
  have a2 : S.op2 = S.rop2 := by unfold Rd.op2 Rd.rop2; rw [a1]
  have a3 : S.op3 = S.rop3 := by unfold Rd.op3 Rd.rop3; rw [a2, e2]
  have a4 : S.op4 = S.rop4 := by unfold Rd.op4 Rd.rop4; rw [a3, e3]
  exact ⟨hs, by unfold Rd.opn Rd.ropn; rw [e0, a1, a2, a3, a4, e2, e3, e4]⟩
/-- the numbers of an operation that may be are of those that the document reads -/
theorem may_good {x : Opn} (h : x.may = true) : within x.kind 0 1099511627776 = true ∧ within x.stamp 0 1099511627776 = true ∧ within x.test 0 1099511627776 = true ∧ within x.most 0 1099511627776 = true := by
  obtain ⟨kind, key, val, stamp, test, most⟩ := x
  unfold Opn.may at h
  simp only [Opn.put, stampZ, stampB, within_iff] at *
  split at h
  · simp [within] at h ⊢; omega
  split at h
  · simp [within] at h ⊢; omega
  split at h
  · simp [within] at h ⊢; omega
  split at h
  · simp [within] at h ⊢; omega
  · cases h
theorem Rd.opn_ok {S : Rd} (h : S.opn.2.wrong = false) : S.wrong = false ∧ (S.opn.1.may = true → S.ropn = S.opn) := by
  obtain ⟨h4, _⟩ := Rd.num_ok (S := S.op4) h
  obtain ⟨h3, _⟩ := Rd.num_ok (S := S.op3) h4
  obtain ⟨h2, _⟩ := Rd.num_ok (S := S.op2) h3
  have h1 := Rd.txt_ok (S := S.op1) h2
  have h0 := Rd.txt_ok (S := S.num.2) h1
  obtain ⟨hs, _⟩ := Rd.num_ok (S := S) h0
  refine ⟨hs, fun hm => ?_⟩
  obtain ⟨g0, g3, g4, g5⟩ := may_good hm
  have e0 := Rd.num_rnum h0 g0
  have e2 := Rd.num_rnum (S := S.op2) h3 g3
  have e3 := Rd.num_rnum (S := S.op3) h4 g4
  have e4 := Rd.num_rnum (S := S.op4) h g5
  have a1 : S.rop1 = S.op1 := by unfold Rd.op1 Rd.rop1; rw [e0]
  have a2 : S.rop2 = S.op2 := by unfold Rd.op2 Rd.rop2; rw [a1]
  have a3 : S.rop3 = S.op3 := by unfold Rd.op3 Rd.rop3; rw [a2, e2]
  have a4 : S.rop4 = S.op4 := by unfold Rd.op4 Rd.rop4; rw [a3, e3]
  unfold Rd.opn Rd.ropn
  rw [e0, a1, a2, a3, a4, e2, e3, e4]

theorem Rd.rops_ok (S : Rd) : ∀ n, (S.rops n).2.wrong = false → S.wrong = false ∧ S.ops n = S.rops n
  | 0, h => ⟨h, rfl⟩
  | n + 1, h => by
    obtain ⟨h1, e1⟩ := Rd.ropn_ok (S := (S.rops n).2) h
    obtain ⟨h2, e2⟩ := Rd.rops_ok S n h1
    exact ⟨h2, by rw [Rd.ops, Rd.rops, e2, e1]⟩
theorem Rd.ops_ok (S : Rd) : ∀ n, (S.ops n).2.wrong = false → (S.ops n).1.all Opn.may = true → S.wrong = false ∧ ∀ k, k ≤ n → S.rops k = S.ops k ∧ (S.rops k).2.wrong = false
  | 0, h, _ => ⟨h, fun k hk => by
    have e : k = 0 := Nat.le_zero.1 hk
    subst e
    exact ⟨rfl, h⟩⟩
  | n + 1, h, hm => by
    rw [Rd.ops, List.all_append, Bool.and_eq_true] at hm
    obtain ⟨h1, e1⟩ := Rd.opn_ok (S := (S.ops n).2) h
    obtain ⟨h2, e2⟩ := Rd.ops_ok S n h1 hm.1
    have hx : (S.ops n).2.opn.1.may = true := by simpa using hm.2
    refine ⟨h2, fun k hk => ?_⟩
    by_cases e : k = n + 1
    · subst e
      have hr : S.rops (n + 1) = S.ops (n + 1) := by rw [Rd.ops, Rd.rops, (e2 n (Nat.le_refl _)).1, e1 hx]
      exact ⟨hr, by rw [hr]; exact h⟩
    · exact e2 k (by omega)

/-- what the document's reader comes to: client, number, how many -/
def Rd.rreq0 (S : Rd) : Rd := S.rnum.2.rnum.2
def Rd.rmany (S : Rd) : Int := S.rreq0.rnum.1
/-- the program reads a request -/
def Rd.reads (S : Rd) : Prop := S.req.2.done = true ∧ S.req.1.may = true
theorem Rd.reads_doc {S : Rd} (h : S.reads) : S.rnum = S.num ∧ S.num.2.rnum = S.num.2.num ∧ S.req0.rnum = S.req0.num ∧ S.rmany = (S.reqN : Int) ∧ S.req0.rnum.2 = (S.req0.count 32).2 ∧
    ∀ k, k ≤ S.reqN → (S.req0.count 32).2.rops k = (S.req0.count 32).2.ops k ∧ ((S.req0.count 32).2.rops k).2.wrong = false := by
  obtain ⟨hd, hm⟩ := h
  unfold Req.may at hm
  rw [Bool.and_eq_true, Bool.and_eq_true] at hm
  obtain ⟨⟨hak, _⟩, hall⟩ := hm
  unfold asked at hak
  rw [Bool.and_eq_true] at hak
  have hw : ((S.req0.count 32).2.ops S.reqN).2.wrong = false := by
    unfold Rd.done at hd
    rw [Bool.and_eq_true] at hd
    have : S.req.2.wrong = false := by simpa using hd.1
    exact this
  obtain ⟨h3, h4⟩ := Rd.ops_ok _ _ hw hall
  have hc : within S.req0.num.1 0 32 = true ∧ S.req0.count 32 = S.req0.num := by
    by_cases hb : within S.req0.num.1 0 32 = true
    · exact ⟨hb, by rw [Rd.count, if_pos hb]⟩
    · rw [Rd.count, if_neg hb] at h3; cases h3
  rw [hc.2] at h3
  have g3 := within_iff.1 hc.1
  have e3 := Rd.num_rnum h3 (within_iff.2 ⟨g3.1, by omega⟩)
  obtain ⟨h2, _⟩ := Rd.num_ok h3
  have ga := within_iff.1 hak.1
  have gb := within_iff.1 hak.2
  have ga' : 0 ≤ S.num.1 ∧ S.num.1 ≤ 1000 := ga
  have gb' : 1 ≤ S.num.2.num.1 ∧ S.num.2.num.1 ≤ 1048576 := gb
  have e2 := Rd.num_rnum (S := S.num.2) h2 (within_iff.2 ⟨by omega, by omega⟩)
  obtain ⟨h1, _⟩ := Rd.num_ok (S := S.num.2) h2
  have e1 := Rd.num_rnum (S := S) h1 (within_iff.2 ⟨by omega, by omega⟩)
  have er : S.rreq0 = S.req0 := by unfold Rd.rreq0 Rd.req0; rw [e1, e2]
  refine ⟨e1, e2, e3, ?_, by rw [e3, hc.2], h4⟩
  unfold Rd.rmany Rd.reqN
  rw [er, e3, hc.2]
  omega
/-- the document reads a request: so does the program, the same -/
theorem Rd.doc_reads {S : Rd} {n : Nat} (hn : S.rmany = (n : Int)) (h : (S.rreq0.rnum.2.rops n).2.wrong = false) (hl : n ≤ 32) : S.req = (⟨S.rnum.1, S.rnum.2.rnum.1, (S.rreq0.rnum.2.rops n).1⟩, (S.rreq0.rnum.2.rops n).2) := by
  obtain ⟨h3, e3⟩ := Rd.rops_ok _ _ h
  obtain ⟨h2, e2⟩ := Rd.rnum_ok h3
  obtain ⟨h1, e1⟩ := Rd.rnum_ok (S := S.rnum.2) h2
  obtain ⟨_, e0⟩ := Rd.rnum_ok (S := S) h1
  have er : S.req0 = S.rreq0 := by unfold Rd.rreq0 Rd.req0; rw [e0, e1]
  have hc : S.req0.count 32 = S.rreq0.rnum := by
    rw [er, Rd.count, e2]
    rw [if_pos]
    unfold Rd.rmany at hn
    rw [hn, within_iff]
    omega
  have hN : S.reqN = n := by
    unfold Rd.reqN
    rw [hc]
    unfold Rd.rmany at hn
    rw [hn]
    omega
  unfold Rd.req
  rw [hN, hc, e3, e0, e1]

end Go.Proofs.Ytkjcfkninmmbhaa.Oq
