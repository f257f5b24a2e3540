/- Layer 8: requests and replies there and back: what Encode and Decode come to. -/
import Derived.Test.YtkjcfkninmmbhaaOpBkP
import Derived.Test.YtkjcfkninmmbhaaOrEnc
namespace Go.Proofs.Ytkjcfkninmmbhaa.Oq
open Go.RowKit Go.Joins Go.Proofs.Ytkjcfkninmmbhaa.Gk

theorem decF_zero (s : ByteArray) : ∀ (f p : Nat) (l : List Fld), (decF s f p l).2.2 = 0 → (decF s f p l).2.1 = 0
  | 0, _, _, _ => rfl
  | f + 1, p, l, h => by
    rw [decF] at h ⊢
    by_cases h1 : p < s.size
    · rw [if_pos h1] at h ⊢
      by_cases h2 : l.length = 4096
      · rw [if_pos h2] at h; cases h
      · rw [if_neg h2] at h ⊢
        by_cases h3 : (rdFld s p).2.2 ≠ 0
        · rw [if_pos h3] at h; exact absurd h h3
        · rw [if_neg h3] at h ⊢; exact decF_zero s f _ _ h
    · rw [if_neg h1]
theorem decode_zero {s : ByteArray} (h : (Go.Proofs.Ytkjcfkninmmbhaa.decode s).2.2 = 0) : Go.Proofs.Ytkjcfkninmmbhaa.decode s = ((Go.Proofs.Ytkjcfkninmmbhaa.decode s).1, 0, 0) ∧ ¬ 262144 < s.size := by
  have hb : ¬ 262144 < s.size := fun hb => by unfold Go.Proofs.Ytkjcfkninmmbhaa.decode at h; rw [if_pos hb] at h; cases h
  have h1 : (Go.Proofs.Ytkjcfkninmmbhaa.decode s).2.1 = 0 := by
    unfold Go.Proofs.Ytkjcfkninmmbhaa.decode at h ⊢
    rw [if_neg hb] at h ⊢
    exact decF_zero s _ _ _ h
  exact ⟨Prod.ext rfl (Prod.ext h1 h), hb⟩
/-- bytes that are a list, and the list -/
theorem list_back {l : List Fld} (h : (Go.Proofs.Ytkjcfkninmmbhaa.encode l).2 = 0) (hf : ∀ x ∈ l, x.fits) : Go.Proofs.Ytkjcfkninmmbhaa.decode (Go.Proofs.Ytkjcfkninmmbhaa.encode l).1 = (l, 0, 0) := by
  have hg := good_of h
  rw [encode_good hg]
  exact decode_encs hg hf
theorem num_fit {n : Int} (h1 : -9223372036854775808 ≤ n) (h2 : n ≤ 9223372036854775807) : (numF n).fits := ⟨h1, h2, by show (ByteArray.mk #[]).size ≤ _; decide⟩
theorem txt_fit {s : ByteArray} (h : s.size ≤ 8192) : (txtF s).fits := ⟨by show (-9223372036854775808 : Int) ≤ 0; decide, by show (0 : Int) ≤ 9223372036854775807; decide, Nat.le_trans h (by decide)⟩
theorem req_fits {r : Req} (h : r.may = true) : ∀ f ∈ r.fields, f.fits := by
  have h32 := Req.may_len h
  unfold Req.may at h
  rw [Bool.and_eq_true, Bool.and_eq_true, List.all_eq_true] at h
  unfold asked at h
  rw [Bool.and_eq_true] at h
  have ha := within_iff.1 h.1.1.1
  have hs := within_iff.1 h.1.1.2
  intro f hf
  unfold Req.fields at hf
  rcases List.mem_append.1 hf with hh | hh
  · simp only [List.mem_cons, List.not_mem_nil, or_false] at hh
    rcases hh with rfl | rfl | rfl
    · exact num_fit (by omega) (by omega)
    · exact num_fit (by omega) (by omega)
    · exact num_fit (by omega) (by omega)
  · obtain ⟨y, hy, hh⟩ := List.mem_flatMap.1 hh
    obtain ⟨g0, g1, g2, g3⟩ := may_good (h.2 y hy)
    have k0 := within_iff.1 g0
    have k1 := within_iff.1 g1
    have k2 := within_iff.1 g2
    have k3 := within_iff.1 g3
    have hz := may_sizes (h.2 y hy)
    simp only [Opn.fields, List.mem_cons, List.not_mem_nil, or_false] at hh
    rcases hh with rfl | rfl | rfl | rfl | rfl | rfl
    · exact num_fit (by omega) (by omega)
    · exact txt_fit (by omega)
    · exact txt_fit (by omega)
    · exact num_fit (by omega) (by omega)
    · exact num_fit (by omega) (by omega)
    · exact num_fit (by omega) (by omega)
theorem rep_fits {p : Rp} (h : p.may = true) (hat : -9223372036854775808 ≤ p.at_ ∧ p.at_ ≤ 9223372036854775807) (hco : -9223372036854775808 ≤ p.code ∧ p.code ≤ 9223372036854775807) : ∀ f ∈ p.fields, f.fits := by
  obtain ⟨h32, hall⟩ := Rp.may_len h
  unfold Rp.may at h
  rw [Bool.and_eq_true] at h
  have hk := h.1
  unfold asked at hk
  rw [Bool.and_eq_true] at hk
  have ha := within_iff.1 hk.1
  have hs := within_iff.1 hk.2
  intro f hf
  unfold Rp.fields at hf
  rcases List.mem_append.1 hf with hh | hh
  · simp only [List.mem_cons, List.not_mem_nil, or_false] at hh
    rcases hh with rfl | rfl | rfl | rfl | rfl
    · exact num_fit (by omega) (by omega)
    · exact num_fit (by omega) (by omega)
    · exact num_fit hat.1 hat.2
    · exact num_fit hco.1 hco.2
    · exact num_fit (by omega) (by omega)
  · obtain ⟨y, hy, hh⟩ := List.mem_flatMap.1 hh
    have hm := hall y hy
    have hr := Rs.may_rows hm
    unfold Rs.may at hm
    simp only [Bool.and_eq_true, List.all_eq_true] at hm
    have k0 := within_iff.1 hm.1.1.1.1
    have k1 := hm.1.1.1.2
    rw [stampZ_eq] at k1
    have k1' := within_iff.1 k1
    unfold Rs.fields at hh
    rcases List.mem_append.1 hh with h1 | h1
    · simp only [List.mem_cons, List.not_mem_nil, or_false] at h1
      rcases h1 with rfl | rfl | rfl | rfl
      · exact num_fit (by omega) (by omega)
      · exact num_fit (by omega) (by omega)
      · exact txt_fit hr.2.1
      · exact num_fit (by omega) (by omega)
    · obtain ⟨z, hz, h2⟩ := List.mem_flatMap.1 h1
      have hzs := hr.2.2 z hz
      have hzm := hm.2 z hz
      unfold Rw.may at hzm
      simp only [Bool.and_eq_true] at hzm
      have k2 := within_iff.1 hzm.1.2
      simp only [Rw.fields, List.mem_cons, List.not_mem_nil, or_false] at h2
      rcases h2 with rfl | rfl | rfl
      · exact txt_fit (by omega)
      · exact num_fit (by omega) (by omega)
      · exact txt_fit hzs.2

/-- a request that is encoded: decoded it is the same; a reply it is none -/
theorem req_back {r : Req} (h : r.encode.2 = 0) : decReq r.encode.1 = (r, 0) ∧ (decRep r.encode.1).2 = 80 ∧ r.encode.1.size ≤ 262144 := by
  have hm : r.may = true := by
    cases e : r.may
    · unfold Req.encode at h; rw [e] at h; cases h
    · rfl
  have he : r.encode = Go.Proofs.Ytkjcfkninmmbhaa.encode r.fields := by unfold Req.encode; rw [hm]; rfl
  rw [he] at h ⊢
  have hd := list_back h (req_fits hm)
  have hz := decode_zero (s := (Go.Proofs.Ytkjcfkninmmbhaa.encode r.fields).1) (by rw [hd])
  have hr0 : rd0 (Go.Proofs.Ytkjcfkninmmbhaa.encode r.fields).1 = ⟨r.fields, false⟩ := by unfold rd0; rw [hd]
  have hw := req_w r (Req.may_len hm)
  refine ⟨?_, ?_, by have := hz.2; omega⟩
  · unfold decReq
    rw [if_neg hz.2, if_neg (by rw [hd]; simp), hr0, hw, if_neg (by simp [Rd.done]), if_neg (by simp [hm])]
  · have hne : r.ops ≠ [] := by
      intro e
      unfold Req.may at hm
      rw [Bool.and_eq_true, Bool.and_eq_true] at hm
      have := within_iff.1 hm.1.2
      rw [e] at this
      simp at this
    unfold decRep
    rw [if_neg (by rw [hd]; simp), if_neg (by rw [hd]; simp), hr0, if_pos (rep_of_req r hne)]
theorem rep_back {p : Rp} (h : p.encode.2 = 0) (hat : -9223372036854775808 ≤ p.at_ ∧ p.at_ ≤ 9223372036854775807) (hco : -9223372036854775808 ≤ p.code ∧ p.code ≤ 9223372036854775807) : decRep p.encode.1 = (p, 0) ∧ (decReq p.encode.1).2 = 80 ∧ p.encode.1.size ≤ 262144 := by
  have hm : p.may = true := by
    cases e : p.may
    · unfold Rp.encode at h; rw [e] at h; cases h
    · rfl
  have he : p.encode = Go.Proofs.Ytkjcfkninmmbhaa.encode p.fields := by unfold Rp.encode; rw [hm]; rfl
  rw [he] at h ⊢
  have hd := list_back h (rep_fits hm hat hco)
  have hz := decode_zero (s := (Go.Proofs.Ytkjcfkninmmbhaa.encode p.fields).1) (by rw [hd])
  have hr0 : rd0 (Go.Proofs.Ytkjcfkninmmbhaa.encode p.fields).1 = ⟨p.fields, false⟩ := by unfold rd0; rw [hd]
  obtain ⟨h32, hall⟩ := Rp.may_len hm
  have hw := rep_w p h32 (fun x hx => (Rs.may_rows (hall x hx)).1)
  refine ⟨?_, ?_, by have := hz.2; omega⟩
  · unfold decRep
    rw [if_neg (by rw [hd]; simp), if_neg (by rw [hd]; simp), hr0, hw, if_neg (by simp [Rd.done]), if_neg (by simp [hm])]
  · unfold decReq
    rw [if_neg hz.2, if_neg (by rw [hd]; simp), hr0, if_pos (req_of_rep p)]
theorem enc_bad {l : List Fld} (h : (Go.Proofs.Ytkjcfkninmmbhaa.encode l).2 ≠ 0) : (Go.Proofs.Ytkjcfkninmmbhaa.encode l).1 = ⟨#[]⟩ := encode_bad_empty h
theorem req_enc_bad {r : Req} (h : r.encode.2 ≠ 0) : r.encode.1 = ⟨#[]⟩ := by
  unfold Req.encode at h ⊢
  split
  · next e => rw [if_pos e] at h; exact enc_bad h
  · rfl
theorem rep_enc_bad {p : Rp} (h : p.encode.2 ≠ 0) : p.encode.1 = ⟨#[]⟩ := by
  unfold Rp.encode at h ⊢
  split
  · next e => rw [if_pos e] at h; exact enc_bad h
  · rfl
theorem rd0_mays {b : ByteArray} (hd : Go.Proofs.Ytkjcfkninmmbhaa.decode b = ((Go.Proofs.Ytkjcfkninmmbhaa.decode b).1, 0, 0)) : (rd0 b).mays ∧ Go.Proofs.Ytkjcfkninmmbhaa.encode (rd0 b).rest = (b, 0) := by
  have he := (encode_decode hd).1
  refine ⟨fun f hf => ?_, he⟩
  have hg := good_of (l := (Go.Proofs.Ytkjcfkninmmbhaa.decode b).1) (by rw [he])
  have := List.all_eq_true.1 hg.may
  exact this f hf
/-- bytes that are a request are its bytes -/
theorem dec_req {b : ByteArray} (h : (decReq b).2 = 0) : (decReq b).1.encode = (b, 0) := by
  unfold decReq at h ⊢
  split
  · next e => rw [if_pos e] at h; cases h
  next e1 =>
  rw [if_neg e1] at h
  split
  · next e => rw [if_pos e] at h; cases h
  next e2 =>
  rw [if_neg e2] at h
  split
  · next e => rw [if_pos e] at h; cases h
  next e3 =>
  rw [if_neg e3] at h
  split
  · next e => rw [if_pos e] at h; cases h
  next e4 =>
  have hd := (decode_zero (s := b) (by omega)).1
  obtain ⟨hm, he⟩ := rd0_mays hd
  have hdone : (rd0 b).req.2.done = true := by simpa using e3
  have hmay : (rd0 b).req.1.may = true := by simpa using e4
  unfold Rd.done at hdone
  rw [Bool.and_eq_true, beq_iff_eq] at hdone
  have hw : (((rd0 b).req0.count 32).2.ops (rd0 b).reqN).2.wrong = false := by
    have : (rd0 b).req.2.wrong = false := by simpa using hdone.1
    exact this
  have hr : (((rd0 b).req0.count 32).2.ops (rd0 b).reqN).2.rest = [] := List.eq_nil_of_length_eq_zero hdone.2
  have h3 : ((rd0 b).req0.count 32).2.wrong = false := by
    cases e : ((rd0 b).req0.count 32).2.wrong
    · rfl
    · rw [ops_wr e] at hw; cases hw
  have h2 : (rd0 b).req0.wrong = false := by
    cases e : (rd0 b).req0.wrong
    · rfl
    · rw [count_wr 32 e] at h3; cases h3
  have h1 : (rd0 b).num.2.wrong = false := (Rd.num_ok (S := (rd0 b).num.2) h2).1
  obtain ⟨_, b0, m0⟩ := num_b hm h1
  obtain ⟨_, b1, m1⟩ := num_b m0 h2
  obtain ⟨_, c0, b2, m2⟩ := count_b (S := (rd0 b).req0) m1 32 h3
  obtain ⟨_, b3, _⟩ := ops_b m2 _ hw
  have en : ((rd0 b).req0.count 32).1 = ((rd0 b).req.1.ops.length : Int) := by
    show _ = ((((rd0 b).req0.count 32).2.ops (rd0 b).reqN).1.length : Int)
    rw [Rd.ops_len]; unfold Rd.reqN; omega
  have hf : (rd0 b).rest = (rd0 b).req.1.fields := by
    have e2' : (rd0 b).num.2.num.2.rest = (rd0 b).req0.rest := rfl
    rw [b0, b1, e2', b2, b3, hr, en, List.append_nil]
    rfl
  unfold Req.encode
  rw [if_pos hmay, ← hf]
  exact he
theorem dec_rep {b : ByteArray} (h : (decRep b).2 = 0) : (decRep b).1.encode = (b, 0) := by
  unfold decRep at h ⊢
  split
  · next e => rw [if_pos e] at h; cases h
  next e1 =>
  rw [if_neg e1] at h
  split
  · next e => rw [if_pos e] at h; cases h
  next e2 =>
  rw [if_neg e2] at h
  split
  · next e => rw [if_pos e] at h; cases h
  next e3 =>
  rw [if_neg e3] at h
  split
  · next e => rw [if_pos e] at h; cases h
  next e4 =>
  have hd := (decode_zero (s := b) (by omega)).1
  obtain ⟨hm, he⟩ := rd0_mays hd
  have hdone : (rd0 b).rep.2.done = true := by simpa using e3
  have hmay : (rd0 b).rep.1.may = true := by simpa using e4
  unfold Rd.done at hdone
  rw [Bool.and_eq_true, beq_iff_eq] at hdone
  have hw : (((rd0 b).rep0.count 32).2.ress (rd0 b).repN).2.wrong = false := by
    have : (rd0 b).rep.2.wrong = false := by simpa using hdone.1
    exact this
  have hr : (((rd0 b).rep0.count 32).2.ress (rd0 b).repN).2.rest = [] := List.eq_nil_of_length_eq_zero hdone.2
  have h3 : ((rd0 b).rep0.count 32).2.wrong = false := by
    cases e : ((rd0 b).rep0.count 32).2.wrong
    · rfl
    · rw [ress_wr e] at hw; cases hw
  have h2 : (rd0 b).rep0.wrong = false := by
    cases e : (rd0 b).rep0.wrong
    · rfl
    · rw [count_wr 32 e] at h3; cases h3
  have g3 : (rd0 b).repA.num.2.wrong = false := (Rd.num_ok (S := (rd0 b).repA.num.2) h2).1
  have g2 : (rd0 b).repA.wrong = false := (Rd.num_ok (S := (rd0 b).repA) g3).1
  have g1 : (rd0 b).num.2.wrong = false := (Rd.num_ok (S := (rd0 b).num.2) g2).1
  obtain ⟨_, b0, m0⟩ := num_b hm g1
  obtain ⟨_, b1, m1⟩ := num_b m0 g2
  obtain ⟨_, b2, m2⟩ := num_b (S := (rd0 b).repA) m1 g3
  obtain ⟨_, b3, m3⟩ := num_b m2 h2
  obtain ⟨_, c0, b4, m4⟩ := count_b (S := (rd0 b).rep0) m3 32 h3
  obtain ⟨_, b5, _⟩ := ress_b m4 _ hw
  have en : ((rd0 b).rep0.count 32).1 = ((rd0 b).rep.1.results.length : Int) := by
    show _ = ((((rd0 b).rep0.count 32).2.ress (rd0 b).repN).1.length : Int)
    rw [Rd.ress_len]; unfold Rd.repN; omega
  have hf : (rd0 b).rest = (rd0 b).rep.1.fields := by
    have e2' : (rd0 b).num.2.num.2.rest = (rd0 b).repA.rest := rfl
    have e3' : (rd0 b).repA.num.2.num.2.rest = (rd0 b).rep0.rest := rfl
    rw [b0, b1, e2', b2, b3, e3', b4, b5, hr, en, List.append_nil]
    rfl
  unfold Rp.encode
  rw [if_pos hmay, ← hf]
  exact he

theorem enc_may {r : Req} (h : r.encode.2 = 0) : r.may = true := by
  cases e : r.may
  · unfold Req.encode at h; rw [e] at h; cases h
  · rfl
theorem may_big {r : Req} (h : r.may = true) : ∀ x ∈ r.ops, x.key.size ≤ 140737488351232 ∧ x.val.size ≤ 140737488351232 := by
  unfold Req.may at h
  rw [Bool.and_eq_true, List.all_eq_true] at h
  intro x hx
  have := may_sizes (h.2 x hx)
  omega
theorem decReq_len (b : ByteArray) : (decReq b).1.ops.length ≤ 32 := by
  unfold decReq
  split
  · exact Nat.zero_le _
  split
  · exact Nat.zero_le _
  split
  · exact Nat.zero_le _
  split
  · exact Nat.zero_le _
  · exact Rd.req_len _
theorem decRep_len (b : ByteArray) : (decRep b).1.results.length ≤ 32 ∧ ∀ x ∈ (decRep b).1.results, x.rows.length ≤ 100 := by
  unfold decRep
  split
  · exact ⟨Nat.zero_le _, fun _ hx => absurd hx List.not_mem_nil⟩
  split
  · exact ⟨Nat.zero_le _, fun _ hx => absurd hx List.not_mem_nil⟩
  split
  · exact ⟨Nat.zero_le _, fun _ hx => absurd hx List.not_mem_nil⟩
  split
  · exact ⟨Nat.zero_le _, fun _ hx => absurd hx List.not_mem_nil⟩
  · exact Rd.rep_len _

end Go.Proofs.Ytkjcfkninmmbhaa.Oq
