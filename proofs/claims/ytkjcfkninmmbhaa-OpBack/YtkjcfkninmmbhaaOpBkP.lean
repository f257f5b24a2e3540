/- Layer 8: requests and replies there and back: plain. -/
import Derived.Test.YtkjcfkninmmbhaaOrPure
import Derived.Test.YtkjcfkninmmbhaaOpRd2
import Derived.Test.YtkjcfkninmmbhaaRound
namespace Go.Proofs.Ytkjcfkninmmbhaa.Oq
open Go.RowKit Go.Joins Go.Proofs.Ytkjcfkninmmbhaa.Gk

/-! ### Reading what was written -/
theorem num_w (n : Int) (t : List Fld) (b : Bool) : Rd.num ⟨numF n :: t, b⟩ = (n, ⟨t, b⟩) := by rw [Rd.num_cons rfl, if_pos rfl]
theorem txt_w (s : ByteArray) (t : List Fld) (b : Bool) : Rd.txt ⟨txtF s :: t, b⟩ = (s, ⟨t, b⟩) := by rw [Rd.txt_cons rfl, if_pos rfl]
theorem num_t (s : ByteArray) (t : List Fld) (b : Bool) : Rd.num ⟨txtF s :: t, b⟩ = (0, ⟨txtF s :: t, true⟩) := by rw [Rd.num_cons rfl, if_neg (by simp)]
theorem txt_n (n : Int) (t : List Fld) (b : Bool) : Rd.txt ⟨numF n :: t, b⟩ = (⟨#[]⟩, ⟨numF n :: t, true⟩) := by rw [Rd.txt_cons rfl, if_neg (by simp)]
theorem opn_w (x : Opn) (t : List Fld) (b : Bool) : Rd.opn ⟨x.fields ++ t, b⟩ = (x, ⟨t, b⟩) := by
  simp only [Rd.opn, Rd.op4, Rd.op3, Rd.op2, Rd.op1, Opn.fields, List.cons_append, List.nil_append, num_w, txt_w]
theorem ops_cons (S : Rd) (n : Nat) : S.ops (n + 1) = (S.opn.1 :: (S.opn.2.ops n).1, (S.opn.2.ops n).2) := by
  induction n with
  | zero => rfl
  | succ n ih =>
    rw [Rd.ops, ih]
    simp only [Rd.ops, List.cons_append]
theorem ops_w (l : List Opn) (t : List Fld) (b : Bool) : Rd.ops ⟨l.flatMap Opn.fields ++ t, b⟩ l.length = (l, ⟨t, b⟩) := by
  induction l with
  | nil => rfl
  | cons x l ih =>
    rw [List.length_cons, ops_cons, List.flatMap_cons, List.append_assoc, opn_w]
    simp only [ih]
theorem req_w (r : Req) (h : r.ops.length ≤ 32) : Rd.req ⟨r.fields, false⟩ = (r, ⟨[], false⟩) := by
  have e0 : Rd.req0 ⟨r.fields, false⟩ = ⟨numF r.ops.length :: r.ops.flatMap Opn.fields, false⟩ := by
    simp only [Rd.req0, Req.fields, List.cons_append, List.nil_append, num_w]
  have ec : Rd.count ⟨numF r.ops.length :: r.ops.flatMap Opn.fields, false⟩ 32 = ((r.ops.length : Int), ⟨r.ops.flatMap Opn.fields, false⟩) := by
    rw [Rd.count, num_w, if_pos (within_iff.2 ⟨by simp, by simp; omega⟩)]
  have eN : Rd.reqN ⟨r.fields, false⟩ = r.ops.length := by unfold Rd.reqN; rw [e0, ec]; simp
  have ew := ops_w r.ops [] false
  rw [List.append_nil] at ew
  unfold Rd.req
  rw [eN, e0, ec]
  simp only [ew]
  simp only [Req.fields, List.cons_append, List.nil_append, num_w]
theorem row_w (x : Rw) (t : List Fld) (b : Bool) : Rd.row ⟨x.fields ++ t, b⟩ = (x, ⟨t, b⟩) := by
  simp only [Rd.row, Rd.row1, Rw.fields, List.cons_append, List.nil_append, num_w, txt_w]
theorem rows_cons (S : Rd) (n : Nat) : S.rows (n + 1) = (S.row.1 :: (S.row.2.rows n).1, (S.row.2.rows n).2) := by
  induction n with
  | zero => rfl
  | succ n ih =>
    rw [Rd.rows, ih]
    simp only [Rd.rows, List.cons_append]
theorem rows_w (l : List Rw) (t : List Fld) (b : Bool) : Rd.rows ⟨l.flatMap Rw.fields ++ t, b⟩ l.length = (l, ⟨t, b⟩) := by
  induction l with
  | nil => rfl
  | cons x l ih =>
    rw [List.length_cons, rows_cons, List.flatMap_cons, List.append_assoc, row_w]
    simp only [ih]
theorem res_w (x : Rs) (h : x.rows.length ≤ 100) (t : List Fld) (b : Bool) : Rd.res ⟨x.fields ++ t, b⟩ = (x, ⟨t, b⟩) := by
  have e0 : Rd.res0 ⟨x.fields ++ t, b⟩ = ⟨numF x.rows.length :: (x.rows.flatMap Rw.fields ++ t), b⟩ := by
    simp only [Rd.res0, Rs.fields, List.cons_append, List.nil_append, num_w, txt_w]
  have ec : Rd.count ⟨numF x.rows.length :: (x.rows.flatMap Rw.fields ++ t), b⟩ 100 = ((x.rows.length : Int), ⟨x.rows.flatMap Rw.fields ++ t, b⟩) := by
    rw [Rd.count, num_w, if_pos (within_iff.2 ⟨by simp, by simp; omega⟩)]
  have eN : Rd.resN ⟨x.fields ++ t, b⟩ = x.rows.length := by unfold Rd.resN; rw [e0, ec]; simp
  unfold Rd.res
  rw [eN, e0, ec]
  simp only [rows_w]
  simp only [Rs.fields, List.cons_append, List.nil_append, num_w, txt_w]
theorem ress_cons (S : Rd) (n : Nat) : S.ress (n + 1) = (S.res.1 :: (S.res.2.ress n).1, (S.res.2.ress n).2) := by
  induction n with
  | zero => rfl
  | succ n ih =>
    rw [Rd.ress, ih]
    simp only [Rd.ress, List.cons_append]
theorem ress_w (l : List Rs) (h : ∀ x ∈ l, x.rows.length ≤ 100) (t : List Fld) (b : Bool) : Rd.ress ⟨l.flatMap Rs.fields ++ t, b⟩ l.length = (l, ⟨t, b⟩) := by
  induction l with
  | nil => rfl
  | cons x l ih =>
    rw [List.length_cons, ress_cons, List.flatMap_cons, List.append_assoc, res_w x (h x (List.mem_cons_self ..))]
    simp only [ih (fun y hy => h y (List.mem_cons_of_mem _ hy))]
theorem rep_w (p : Rp) (h : p.results.length ≤ 32) (hr : ∀ x ∈ p.results, x.rows.length ≤ 100) : Rd.rep ⟨p.fields, false⟩ = (p, ⟨[], false⟩) := by
  have ea : Rd.repA ⟨p.fields, false⟩ = ⟨numF p.at_ :: numF p.code :: numF p.results.length :: p.results.flatMap Rs.fields, false⟩ := by
    simp only [Rd.repA, Rp.fields, List.cons_append, List.nil_append, num_w]
  have e0 : Rd.rep0 ⟨p.fields, false⟩ = ⟨numF p.results.length :: p.results.flatMap Rs.fields, false⟩ := by
    unfold Rd.rep0; rw [ea]; simp only [num_w]
  have ec : Rd.count ⟨numF p.results.length :: p.results.flatMap Rs.fields, false⟩ 32 = ((p.results.length : Int), ⟨p.results.flatMap Rs.fields, false⟩) := by
    rw [Rd.count, num_w, if_pos (within_iff.2 ⟨by simp, by simp; omega⟩)]
  have eN : Rd.repN ⟨p.fields, false⟩ = p.results.length := by unfold Rd.repN; rw [e0, ec]; simp
  have ew := ress_w p.results hr [] false
  rw [List.append_nil] at ew
  unfold Rd.rep
  rw [eN, e0, ec, ea]
  simp only [ew, num_w]
  simp only [Rp.fields, List.cons_append, List.nil_append, num_w]

/-! ### What was wrong stays so -/
theorem num_wr {S : Rd} (h : S.wrong = true) : S.num.2.wrong = true := by
  cases e : S.num.2.wrong
  · rw [(Rd.num_ok e).1] at h; cases h
  · rfl
theorem txt_wr {S : Rd} (h : S.wrong = true) : S.txt.2.wrong = true := by
  cases e : S.txt.2.wrong
  · rw [Rd.txt_ok e] at h; cases h
  · rfl
theorem count_wr {S : Rd} (m : Int) (h : S.wrong = true) : (S.count m).2.wrong = true := by
  unfold Rd.count; split
  · exact num_wr h
  · rfl
theorem opn_wr {S : Rd} (h : S.wrong = true) : S.opn.2.wrong = true := num_wr (num_wr (num_wr (txt_wr (txt_wr (num_wr h)))))
theorem ops_wr {S : Rd} (h : S.wrong = true) : ∀ n, (S.ops n).2.wrong = true
  | 0 => h
  | n + 1 => opn_wr (ops_wr h n)
theorem row_wr {S : Rd} (h : S.wrong = true) : S.row.2.wrong = true := txt_wr (num_wr (txt_wr h))
theorem rows_wr {S : Rd} (h : S.wrong = true) : ∀ n, (S.rows n).2.wrong = true
  | 0 => h
  | n + 1 => row_wr (rows_wr h n)
theorem res_wr {S : Rd} (h : S.wrong = true) : S.res.2.wrong = true := rows_wr (count_wr 100 (txt_wr (num_wr (num_wr h)))) _
theorem ress_wr {S : Rd} (h : S.wrong = true) : ∀ n, (S.ress n).2.wrong = true
  | 0 => h
  | n + 1 => res_wr (ress_wr h n)
theorem not_done {S : Rd} (h : S.wrong = true) : S.done = false := by unfold Rd.done; rw [h]; rfl

/-- the fields of a request are no reply -/
theorem rep_of_req (r : Req) (h : r.ops ≠ []) : (Rd.rep ⟨r.fields, false⟩).2.done = false := by
  obtain ⟨x, l, e⟩ : ∃ x l, r.ops = x :: l := List.exists_cons_of_ne_nil h
  refine not_done (ress_wr ?_ _)
  have e0 : Rd.rep0 ⟨r.fields, false⟩ = ⟨txtF x.key :: ([txtF x.val, numF x.stamp, numF x.test, numF x.most] ++ l.flatMap Opn.fields), false⟩ := by
    simp only [Rd.rep0, Rd.repA, Req.fields, e, List.flatMap_cons, Opn.fields, List.cons_append, List.nil_append, num_w]
  rw [e0, Rd.count, num_t]
  split <;> rfl
/-- the fields of a reply are no request -/
theorem req_of_rep (p : Rp) : (Rd.req ⟨p.fields, false⟩).2.done = false := by
  have e0 : Rd.req0 ⟨p.fields, false⟩ = ⟨numF p.at_ :: numF p.code :: numF p.results.length :: p.results.flatMap Rs.fields, false⟩ := by
    simp only [Rd.req0, Rp.fields, List.cons_append, List.nil_append, num_w]
  show (((Rd.req0 ⟨p.fields, false⟩).count 32).2.ops (Rd.reqN ⟨p.fields, false⟩)).2.done = false
  have hN : Rd.reqN ⟨p.fields, false⟩ = ((Rd.req0 ⟨p.fields, false⟩).count 32).1.toNat := rfl
  rw [hN, e0]
  unfold Rd.count
  rw [num_w]
  by_cases hb : within p.at_ 0 32 = true
  · rw [if_pos hb]
    simp only
    cases hn : p.at_.toNat with
    | zero => rfl
    | succ n =>
      rw [ops_cons]
      refine not_done (ops_wr ?_ n)
      have h1 : (Rd.op1 ⟨numF p.code :: numF p.results.length :: p.results.flatMap Rs.fields, false⟩).wrong = true := by unfold Rd.op1; rw [num_w, txt_n]
      exact num_wr (num_wr (num_wr (txt_wr h1)))
  · rw [if_neg hb]
    exact not_done (ops_wr rfl _)

/-! ### What was read is what was written -/
def Rd.mays (S : Rd) : Prop := ∀ f ∈ S.rest, f.may = true
theorem num_of {f : Fld} (hm : f.may = true) (ht : f.text = false) : f = numF f.n := by
  obtain ⟨t, n, s⟩ := f
  simp only at ht
  subst ht
  have hs : s.size = 0 := by simpa [Fld.may] using hm
  have : s = ⟨#[]⟩ := by
    apply ByteArray.ext
    exact Array.eq_empty_of_size_eq_zero hs
  rw [this]
theorem txt_of {f : Fld} (hm : f.may = true) (ht : f.text = true) : f = txtF f.s := by
  obtain ⟨t, n, s⟩ := f
  simp only at ht
  subst ht
  have hs : n = 0 := by simpa [Fld.may] using hm
  rw [hs]
theorem num_b {S : Rd} (hm : S.mays) (h : S.num.2.wrong = false) : S.wrong = false ∧ S.rest = numF S.num.1 :: S.num.2.rest ∧ S.num.2.mays := by
  obtain ⟨hs, f, r, e, ht, hn⟩ := Rd.num_ok h
  refine ⟨hs, ?_, ?_⟩
  · rw [hn, e, ← num_of (hm f (by rw [e]; exact List.mem_cons_self ..)) ht]
  · intro g hg
    rw [hn] at hg
    exact hm g (by rw [e]; exact List.mem_cons_of_mem _ hg)
theorem txt_b {S : Rd} (hm : S.mays) (h : S.txt.2.wrong = false) : S.wrong = false ∧ S.rest = txtF S.txt.1 :: S.txt.2.rest ∧ S.txt.2.mays := by
  have hs := Rd.txt_ok h
  cases e : S.rest with
  | nil => rw [Rd.txt_nil e] at h; cases h
  | cons f r =>
    have et := Rd.txt_cons e
    by_cases ht : f.text = true
    · rw [if_pos ht] at et
      refine ⟨hs, ?_, ?_⟩
      · rw [et, ← txt_of (hm f (by rw [e]; exact List.mem_cons_self ..)) ht]
      · intro g hg
        rw [et] at hg
        exact hm g (by rw [e]; exact List.mem_cons_of_mem _ hg)
    · rw [if_neg ht] at et; rw [et] at h; cases h
theorem opn_b {S : Rd} (hm : S.mays) (h : S.opn.2.wrong = false) : S.wrong = false ∧ S.rest = S.opn.1.fields ++ S.opn.2.rest ∧ S.opn.2.mays := by
  have h4 : S.op4.wrong = false := (Rd.num_ok (S := S.op4) h).1
  have h3 : S.op3.wrong = false := (Rd.num_ok (S := S.op3) h4).1
  have h2 : S.op2.wrong = false := (Rd.num_ok (S := S.op2) h3).1
  have h1 : S.op1.wrong = false := Rd.txt_ok (S := S.op1) h2
  have h0 : S.num.2.wrong = false := Rd.txt_ok (S := S.num.2) h1
  obtain ⟨a0, b0, m0⟩ := num_b hm h0
  obtain ⟨_, b1, m1⟩ := txt_b m0 h1
  obtain ⟨_, b2, m2⟩ := txt_b (S := S.op1) m1 h2
  obtain ⟨_, b3, m3⟩ := num_b (S := S.op2) m2 h3
  obtain ⟨_, b4, m4⟩ := num_b (S := S.op3) m3 h4
  obtain ⟨_, b5, m5⟩ := num_b (S := S.op4) m4 h
  refine ⟨a0, ?_, m5⟩
  have e1 : S.num.2.txt.2.rest = S.op1.rest := rfl
  have e2 : S.op1.txt.2.rest = S.op2.rest := rfl
  have e3 : S.op2.num.2.rest = S.op3.rest := rfl
  have e4 : S.op3.num.2.rest = S.op4.rest := rfl
  rw [b0, b1, e1, b2, e2, b3, e3, b4, e4, b5]
  rfl
theorem ops_b {S : Rd} (hm : S.mays) : ∀ n, (S.ops n).2.wrong = false → S.wrong = false ∧ S.rest = (S.ops n).1.flatMap Opn.fields ++ (S.ops n).2.rest ∧ (S.ops n).2.mays
  | 0, h => ⟨h, rfl, hm⟩
  | n + 1, h => by
    have h1 : (S.ops n).2.wrong = false := (Rd.opn_ok (S := (S.ops n).2) h).1
    obtain ⟨a, b, c⟩ := ops_b hm n h1
    obtain ⟨_, b1, c1⟩ := opn_b c h
    refine ⟨a, ?_, c1⟩
    rw [b, b1, Rd.ops, List.flatMap_append, List.append_assoc]
    simp
theorem row_ok {S : Rd} (h : S.row.2.wrong = false) : S.wrong = false := Rd.txt_ok ((Rd.num_ok (Rd.txt_ok h)).1)
theorem row_b {S : Rd} (hm : S.mays) (h : S.row.2.wrong = false) : S.wrong = false ∧ S.rest = S.row.1.fields ++ S.row.2.rest ∧ S.row.2.mays := by
  have h1 : S.row1.wrong = false := Rd.txt_ok (S := S.row1) h
  have h0 : S.txt.2.wrong = false := (Rd.num_ok (S := S.txt.2) h1).1
  obtain ⟨a0, b0, m0⟩ := txt_b hm h0
  obtain ⟨_, b1, m1⟩ := num_b m0 h1
  obtain ⟨_, b2, m2⟩ := txt_b (S := S.row1) m1 h
  refine ⟨a0, ?_, m2⟩
  have e1 : S.txt.2.num.2.rest = S.row1.rest := rfl
  rw [b0, b1, e1, b2]
  rfl
theorem rows_b {S : Rd} (hm : S.mays) : ∀ n, (S.rows n).2.wrong = false → S.wrong = false ∧ S.rest = (S.rows n).1.flatMap Rw.fields ++ (S.rows n).2.rest ∧ (S.rows n).2.mays
  | 0, h => ⟨h, rfl, hm⟩
  | n + 1, h => by
    have h1 : (S.rows n).2.wrong = false := row_ok (S := (S.rows n).2) h
    obtain ⟨a, b, c⟩ := rows_b hm n h1
    obtain ⟨_, b1, c1⟩ := row_b c h
    refine ⟨a, ?_, c1⟩
    rw [b, b1, Rd.rows, List.flatMap_append, List.append_assoc]
    simp
theorem count_b {S : Rd} (hm : S.mays) (m : Int) (h : (S.count m).2.wrong = false) : S.wrong = false ∧ 0 ≤ (S.count m).1 ∧ S.rest = numF (S.count m).1 :: (S.count m).2.rest ∧ (S.count m).2.mays := by
  unfold Rd.count at h ⊢
  by_cases hb : within S.num.1 0 m = true
  · rw [if_pos hb] at h ⊢
    obtain ⟨a, b, c⟩ := num_b hm h
    exact ⟨a, (within_iff.1 hb).1, b, c⟩
  · rw [if_neg hb] at h; cases h
theorem res_b {S : Rd} (hm : S.mays) (h : S.res.2.wrong = false) : S.wrong = false ∧ S.rest = S.res.1.fields ++ S.res.2.rest ∧ S.res.2.mays := by
  have hm' : S.mays := hm
  have h4 : (S.res0.count 100).2.wrong = false := by
    cases e : (S.res0.count 100).2.wrong
    · rfl
    · have := rows_wr e S.resN; rw [show ((S.res0.count 100).2.rows S.resN).2 = S.res.2 from rfl, h] at this; cases this
  have h3 : S.res0.wrong = false := by
    cases e : S.res0.wrong
    · rfl
    · rw [count_wr 100 e] at h4; cases h4
  have h2 : S.num.2.num.2.wrong = false := Rd.txt_ok (S := S.num.2.num.2) h3
  have h1 : S.num.2.wrong = false := (Rd.num_ok (S := S.num.2) h2).1
  obtain ⟨a0, b0, m0⟩ := num_b hm' h1
  obtain ⟨_, b1, m1⟩ := num_b m0 h2
  obtain ⟨_, b2, m2⟩ := txt_b m1 h3
  obtain ⟨_, c0, b3, m3⟩ := count_b (S := S.res0) m2 100 h4
  obtain ⟨_, b4, m4⟩ := rows_b m3 S.resN h
  refine ⟨a0, ?_, m4⟩
  have e2 : S.num.2.num.2.txt.2.rest = S.res0.rest := rfl
  have en : (S.res0.count 100).1 = (S.res.1.rows.length : Int) := by
    show _ = (((S.res0.count 100).2.rows S.resN).1.length : Int)
    rw [Rd.rows_len]; unfold Rd.resN; omega
  rw [b0, b1, b2, e2, b3, b4, en]
  simp only [Rs.fields, List.cons_append, List.nil_append]
  rfl
theorem ress_b {S : Rd} (hm : S.mays) : ∀ n, (S.ress n).2.wrong = false → S.wrong = false ∧ S.rest = (S.ress n).1.flatMap Rs.fields ++ (S.ress n).2.rest ∧ (S.ress n).2.mays
  | 0, h => ⟨h, rfl, hm⟩
  | n + 1, h => by
    have h1 : (S.ress n).2.wrong = false := by
      cases e : (S.ress n).2.wrong
      · rfl
      · have := res_wr e; rw [show (S.ress n).2.res.2 = (S.ress (n + 1)).2 from rfl, h] at this; cases this
    obtain ⟨a, b, c⟩ := ress_b hm n h1
    obtain ⟨_, b1, c1⟩ := res_b c h
    refine ⟨a, ?_, c1⟩
    rw [b, b1, Rd.ress, List.flatMap_append, List.append_assoc]
    simp

end Go.Proofs.Ytkjcfkninmmbhaa.Oq
