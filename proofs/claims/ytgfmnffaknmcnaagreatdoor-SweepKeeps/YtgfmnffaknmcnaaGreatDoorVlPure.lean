/- The plain mathematics of layer 11: a file's name, values' frames one behind the other, places. -/
import Derived.Test.YtgfmnffaknmcnaaGreatDoorFr
import Derived.Test.YtgfmnffaknmcnaaGreatDoorDTwo
import Derived.Lib.ItoaNum
import Derived.Lib.Atoi
import Derived.Lib.AtoiAll
import Derived.Lib.AtoiTie
import Derived.Lib.Strings
namespace Go.Proofs.YtgfmnffaknmcnaaGreatDoor.Vl
open Go.Proofs.YtgfmnffaknmcnaaGreatDoor.Dk (Bs named byOk Fil Fls St getL putL delL Rising getL_of_mem getL_some getL_none mem_putL mem_delL getL_put fileOr)

/-! names -/
abbrev dec (n : Nat) : Bs := Lib.decDigits n
theorem dec_one {n : Nat} (h : n < 10) : dec n = [UInt8.ofNat (48 + n)] := Lib.decDigits_one h
theorem dec_more {n : Nat} (h : ¬ n < 10) : dec n = dec (n / 10) ++ [UInt8.ofNat (48 + n % 10)] := by
  show Lib.decDigits n = _
  rw [Lib.decDigits, dif_neg h]
theorem digit_nat {d : Nat} (h : d < 10) : (UInt8.ofNat (48 + d)).toNat = 48 + d := by rw [UInt8.toNat_ofNat']; omega
theorem digit_val {d : Nat} (h : d < 10) : Lib.digitVal (UInt8.ofNat (48 + d)) = some d := by
  unfold Lib.digitVal
  rw [digit_nat h, if_pos (by omega)]
  congr 1; omega
theorem decFrom_snoc (c : UInt8) : ∀ (l : List UInt8) (acc m d : Nat), Lib.decFrom acc l = some m → Lib.digitVal c = some d → Lib.decFrom acc (l ++ [c]) = some (m * 10 + d)
  | [], acc, m, d, h, hd => by
    simp only [Lib.decFrom, Option.some.injEq] at h
    subst h
    simp [Lib.decFrom, hd]
  | b :: r, acc, m, d, h, hd => by
    simp only [Lib.decFrom, List.cons_append] at h ⊢
    cases hb : Lib.digitVal b with
    | none => simp [hb] at h
    | some e =>
      simp only [hb] at h ⊢
      exact decFrom_snoc c r _ m d h hd
theorem dec_digits (n : Nat) : ∀ c ∈ dec n, 48 ≤ c.toNat ∧ c.toNat ≤ 57 := by
  induction n using Nat.strongRecOn with
  | _ n ih =>
    intro c hc
    by_cases h : n < 10
    · rw [dec_one h] at hc
      rw [List.mem_singleton.1 hc, digit_nat h]; omega
    · rw [dec_more h] at hc
      rcases List.mem_append.1 hc with hc | hc
      · exact ih (n / 10) (by omega) c hc
      · rw [List.mem_singleton.1 hc, digit_nat (by omega)]; omega
theorem dec_from (n : Nat) : Lib.decFrom 0 (dec n) = some n := by
  induction n using Nat.strongRecOn with
  | _ n ih =>
    by_cases h : n < 10
    · rw [dec_one h, Lib.decFrom, digit_val h]
      simp only [Lib.decFrom, Nat.zero_mul, Nat.zero_add]
    · rw [dec_more h, decFrom_snoc _ _ _ _ _ (ih (n / 10) (by omega)) (digit_val (show n % 10 < 10 by omega))]
      congr 1; omega
theorem dec_ne (n : Nat) : dec n ≠ [] := by
  by_cases h : n < 10
  · rw [dec_one h]; simp
  · rw [dec_more h]; simp
theorem dec_length (k : Nat) : ∀ n, n < 10 ^ (k + 1) → (dec n).length ≤ k + 1 := by
  induction k with
  | zero => intro n h; rw [dec_one (by simpa using h)]; simp
  | succ k ih =>
    intro n h
    by_cases h1 : n < 10
    · rw [dec_one h1]; simp
    · rw [dec_more h1, List.length_append]
      have := ih (n / 10) (by rw [Nat.pow_succ] at h; omega)
      simp only [List.length_singleton]; omega
theorem dec_small {n : Nat} (h : n ≤ 1048577) : (dec n).length ≤ 7 := dec_length 6 n (by omega)
theorem atoi_dec (n : Nat) : Lib.atoi (dec n) = some (n : Int) := by
  have h1 := dec_from n
  have h2 := dec_digits n
  have h3 := dec_ne n
  generalize dec n = l at *
  cases l with
  | nil => exact absurd rfl h3
  | cons b r =>
    have hb := h2 b (List.mem_cons_self ..)
    have n45 : (b == 45) = false := by
      rw [beq_eq_false_iff_ne]; intro e; rw [e] at hb; revert hb; decide
    have n43 : (b == 43) = false := by
      rw [beq_eq_false_iff_ne]; intro e; rw [e] at hb; revert hb; decide
    simp only [Lib.atoi, n45, n43, Lib.decNat, List.isEmpty_cons, h1, Option.map_some, Bool.false_eq_true, if_false]
theorem atoiAll_dec {n : Nat} (h : n ≤ 1048577) : Lib.atoiAll (dec n) = .ok (n : Int) := by
  rw [Lib.atoiAll_short _ (by have := dec_small h; omega), atoi_dec]; rfl
theorem dec_inj {m n : Nat} (h : dec m = dec n) : m = n := by
  have h1 := dec_from m
  rw [h, dec_from n] at h1
  exact (Option.some.inj h1).symm

/-- a file's name -/
def nm (n : Nat) : Bs := [118, 97, 108, 46] ++ dec n
theorem nm_inj {m n : Nat} (h : nm m = nm n) : m = n := dec_inj (List.append_cancel_left h)
theorem nm_length (n : Nat) : (nm n).length = 4 + (dec n).length := by simp [nm]; omega
theorem nm_named {n : Nat} (h : n ≤ 1048577) : named (nm n) = true := by
  have hl := dec_small h
  have hd := dec_digits n
  simp only [named, Bool.and_eq_true, decide_eq_true_eq, List.all_eq_true]
  refine ⟨⟨by rw [nm_length]; omega, by rw [nm_length]; omega⟩, fun c hc => ?_⟩
  simp only [nm, List.cons_append, List.nil_append, List.mem_cons] at hc
  rcases hc with rfl | rfl | rfl | rfl | hc
  · decide
  · decide
  · decide
  · decide
  · have := hd c hc
    simp only [byOk, Bool.or_eq_true, Bool.and_eq_true, decide_eq_true_eq]
    exact Or.inl (Or.inr this)
/-- as a text -/
def nt (n : Nat) : ByteArray := ⟨(nm n).toArray⟩
theorem nt_list (n : Nat) : (nt n).data.toList = nm n := by simp [nt]
theorem nt_size (n : Nat) : (nt n).size = 4 + (dec n).length := by
  show (nm n).toArray.size = _
  rw [List.size_toArray, nm_length]
theorem nt_inj {m n : Nat} (h : nt m = nt n) : m = n := by
  have := congrArg (fun b : ByteArray => b.data.toList) h
  simp only [nt_list] at this
  exact nm_inj this
theorem nt_ext {s : ByteArray} {n : Nat} (h : s.data.toList = nm n) : s = nt n := by
  apply ByteArray.ext
  apply Array.ext'
  rw [h, ← nt_list]
abbrev pre : Bs := [118, 97, 108, 46]
theorem pre_nm (n : Nat) : Lib.trimPrefix (nm n) pre = dec n ∧ Lib.hasPrefix (nm n) pre = true := by
  have h : Lib.hasPrefix (nm n) pre = true := by simp [Lib.hasPrefix, nm]
  refine ⟨?_, h⟩
  simp only [Lib.trimPrefix, h, if_true]
  simp [nm]
/-- the number in a name -/
def numF (k : Bs) : Option Nat :=
  if Lib.hasPrefix k pre = true then
    match Lib.atoiAll (Lib.trimPrefix k pre) with
    | .ok z => if 1 ≤ z ∧ z ≤ 1048576 ∧ nm z.toNat = k then some z.toNat else none
    | _ => none
  else none
theorem numF_nm {n : Nat} (h1 : 1 ≤ n) (h2 : n ≤ 1048576) : numF (nm n) = some n := by
  unfold numF
  rw [if_pos (pre_nm n).2, (pre_nm n).1, atoiAll_dec (by omega)]
  simp only
  rw [if_pos ⟨by omega, by omega, by rw [Int.toNat_natCast]⟩, Int.toNat_natCast]
theorem numF_some {k : Bs} {n : Nat} (h : numF k = some n) : 1 ≤ n ∧ n ≤ 1048576 ∧ k = nm n := by
  unfold numF at h
  split at h
  · split at h
    · split at h
      · rename_i hc
        cases h
        exact ⟨by omega, by omega, hc.2.2.symm⟩
      · cases h
    · cases h
  · cases h
/-- the numbers of files, rising -/
def numsL (ks : List Bs) : List Nat := (ks.filterMap numF).mergeSort fun a b => decide (a ≤ b)
def nums (S : St) : List Nat := numsL (S.files.map (·.1))
theorem mem_nums {S : St} {n : Nat} : n ∈ nums S ↔ 1 ≤ n ∧ n ≤ 1048576 ∧ ∃ p ∈ S.files, p.1 = nm n := by
  unfold nums numsL
  rw [(List.mergeSort_perm _ _).mem_iff, List.mem_filterMap]
  constructor
  · rintro ⟨k, hk, hn⟩
    obtain ⟨h1, h2, h3⟩ := numF_some hn
    obtain ⟨p, hp, rfl⟩ := List.mem_map.1 hk
    exact ⟨h1, h2, p, hp, h3⟩
  · rintro ⟨h1, h2, p, hp, e⟩
    exact ⟨nm n, List.mem_map.2 ⟨p, hp, e⟩, numF_nm h1 h2⟩
theorem nums_get {S : St} (hr : Rising S.files) {n : Nat} (h : n ∈ nums S) : ∃ f, getL (nm n) S.files = some f := by
  obtain ⟨_, _, p, hp, e⟩ := mem_nums.1 h
  exact ⟨p.2, getL_of_mem hr (by rw [← e]; exact hp)⟩
theorem nums_of_get {S : St} {n : Nat} {f : Fil} (h1 : 1 ≤ n) (h2 : n ≤ 1048576) (h : getL (nm n) S.files = some f) : n ∈ nums S := mem_nums.2 ⟨h1, h2, _, getL_some h, rfl⟩
theorem nums_bound {S : St} {n : Nat} (h : n ∈ nums S) : 1 ≤ n ∧ n ≤ 1048576 := ⟨(mem_nums.1 h).1, (mem_nums.1 h).2.1⟩
theorem nums_perm (ks : List Bs) : (ks.filterMap numF).Perm (numsL ks) := (List.mergeSort_perm _ _).symm
theorem keys_nodup {S : St} (hr : Rising S.files) : (S.files.map (·.1)).Nodup := List.pairwise_map.2 (hr.imp fun {a b} hab e => by rw [e, WideAt.bytes_irrefl] at hab; cases hab)
theorem numsL_rise {ks : List Bs} (hn : ks.Nodup) : (numsL ks).Pairwise (· < ·) := by
  have hs : (numsL ks).Pairwise (· ≤ ·) := by
    have := List.pairwise_mergeSort (le := fun (x y : Nat) => decide (x ≤ y)) (fun a b c h1 h2 => by simp only [decide_eq_true_eq] at *; omega) (fun a b => by simp only [Bool.or_eq_true, decide_eq_true_eq]; omega) (ks.filterMap numF)
    exact this.imp fun h => by simpa using h
  have hd : (numsL ks).Nodup := (nums_perm ks).nodup_iff.1 (List.pairwise_filterMap.2 (hn.imp fun {a b} hab x hx y hy e => by
    subst e
    exact hab ((numF_some hx).2.2.trans (numF_some hy).2.2.symm)))
  exact hs.imp₂ (fun a b h1 h2 => by have : a ≠ b := h2; omega) hd
theorem nums_rise {S : St} (hr : Rising S.files) : (nums S).Pairwise (· < ·) := numsL_rise (keys_nodup hr)
theorem rise_ext {a b : List Nat} (ha : a.Pairwise (· < ·)) (hb : b.Pairwise (· < ·)) (h : ∀ n, n ∈ a ↔ n ∈ b) : a = b := by
  refine List.Perm.eq_of_pairwise (le := fun (a b : Nat) => a < b) (fun a b _ _ h1 h2 => by omega) ha hb ((List.perm_ext_iff_of_nodup (ha.imp fun h => Nat.ne_of_lt h) (hb.imp fun h => Nat.ne_of_lt h)).2 h)
theorem nums_len {S : St} : (nums S).length ≤ S.files.length := by
  rw [nums, ← (nums_perm _).length_eq]
  exact Nat.le_trans (List.length_filterMap_le ..) (by simp)
/-- the last number is the greatest -/
theorem nums_last {l : List Nat} (h : l.Pairwise (· < ·)) {x : Nat} (hx : l.getLast? = some x) : x ∈ l ∧ ∀ n ∈ l, n ≤ x := by
  have hm : x ∈ l := List.mem_of_getLast? hx
  refine ⟨hm, fun n hn => ?_⟩
  obtain ⟨a, e⟩ : ∃ a, l = a ++ [x] := by
    rcases List.eq_nil_or_concat l with e | ⟨a, y, e⟩
    · rw [e] at hx; simp at hx
    · rw [List.concat_eq_append] at e
      rw [e, List.getLast?_concat] at hx
      cases hx
      exact ⟨a, e⟩
  subst e
  rcases List.mem_append.1 hn with h1 | h1
  · exact Nat.le_of_lt ((List.pairwise_append.1 h).2.2 n h1 x (by simp))
  · rw [List.mem_singleton.1 h1]; exact Nat.le_refl _

/-! frames -/
theorem val4 (n : Nat) (h : n < 4294967296) : Pl.val (Pl.low 4 n) = n := by
  simp only [Pl.low, Pl.val, UInt8.toNat_ofNat']; omega
theorem unf_frame (l q : List UInt8) (h : l.length ≤ 65536) : unf (frm l ++ q) = (l, l.length + 8, 0) := by
  have hl := frm_length l
  have hh := head_length l
  have hal := adler_lt (head l)
  have e0 : frm l ++ q = Pl.low 4 l.length ++ (l ++ (Pl.low 4 (Pl.adler (head l)) ++ q)) := by simp [frm, head]
  have e4 : (frm l ++ q).take 4 = Pl.low 4 l.length := by
    rw [e0, List.take_append_of_le_length (by rw [Pl.low_length]; exact Nat.le_refl _), List.take_of_length_le (by rw [Pl.low_length]; exact Nat.le_refl _)]
  have et : (frm l ++ q).take (4 + l.length) = head l := by rw [frm, List.append_assoc, ← hh, List.take_left]
  have ed : ((frm l ++ q).drop (4 + l.length)).take 4 = Pl.low 4 (Pl.adler (head l)) := by
    rw [frm, List.append_assoc, ← hh, List.drop_left, List.take_append_of_le_length (by rw [Pl.low_length]; exact Nat.le_refl _), List.take_of_length_le (by rw [Pl.low_length]; exact Nat.le_refl _)]
  have eb : ((frm l ++ q).drop 4).take l.length = l := by
    have h4 : (Pl.low 4 l.length).length = 4 := Pl.low_length 4 l.length
    have : (frm l ++ q).drop 4 = l ++ (Pl.low 4 (Pl.adler (head l)) ++ q) := by
      rw [e0]; exact List.drop_left' h4
    rw [this, List.take_left]
  rw [unf, List.length_append, if_neg (by omega), e4, val4 _ (by omega), if_neg (by omega), if_neg (by omega), et, ed, val4 _ hal, if_neg (by simp), eb]
theorem frm_first4 (l : List UInt8) : (frm l).take 4 = Pl.low 4 l.length := by
  rw [frm, head, List.append_assoc, List.take_append_of_le_length (by rw [Pl.low_length]; exact Nat.le_refl _), List.take_of_length_le (by rw [Pl.low_length]; exact Nat.le_refl _)]
theorem unf_torn (l : List UInt8) (h : l.length ≤ 65536) (c : Nat) (hc : c < (frm l).length) : unf ((frm l).take c) = ([], 0, 11) := by
  have hl := frm_length l
  have hlen : ((frm l).take c).length = c := by rw [List.length_take]; omega
  rw [unf, hlen]
  by_cases h4 : c < 4
  · rw [if_pos h4]
  · have e : ((frm l).take c).take 4 = Pl.low 4 l.length := by rw [List.take_take, Nat.min_eq_left (by omega), frm_first4]
    rw [if_neg h4, e, val4 _ (by omega), if_neg (by omega), if_pos (by omega)]
/-- a whole frame takes its value's bytes and eight more -/
theorem unf_len {r : List UInt8} (h : (unf r).2.2 = 0) : (unf r).2.1 = (unf r).1.length + 8 ∧ (unf r).1.length ≤ 65536 := by
  unfold unf at h ⊢
  by_cases h1 : r.length < 4
  · rw [if_pos h1] at h; simp at h
  · rw [if_neg h1] at h ⊢
    by_cases h2 : 65536 < Pl.val (r.take 4)
    · rw [if_pos h2] at h; simp at h
    · rw [if_neg h2] at h ⊢
      by_cases h3 : r.length < Pl.val (r.take 4) + 8
      · rw [if_pos h3] at h; simp at h
      · rw [if_neg h3] at h ⊢
        by_cases h4 : Pl.val ((r.drop (4 + Pl.val (r.take 4))).take 4) ≠ Pl.adler (r.take (4 + Pl.val (r.take 4)))
        · rw [if_pos h4] at h; simp at h
        · rw [if_neg h4]; simp only [List.length_take, List.length_drop]; omega

/-- values' frames, one behind the other -/
def vfr (l : List ByteArray) : Bs := l.flatMap fun t => frm t.data.toList
theorem vfr_append (a b : List ByteArray) : vfr (a ++ b) = vfr a ++ vfr b := by simp [vfr]
theorem vfr_snoc (a : List ByteArray) (t : ByteArray) : vfr (a ++ [t]) = vfr a ++ frm t.data.toList := by simp [vfr]
theorem vfr_cons (t : ByteArray) (a : List ByteArray) : vfr (t :: a) = frm t.data.toList ++ vfr a := by simp [vfr]
theorem frm_size (t : ByteArray) : (frm t.data.toList).length = t.size + 8 := by rw [frm_length, ← Lib.size_eq]
def mayV (l : List ByteArray) : Prop := ∀ t ∈ l, t.size ≤ 65536
/-- places, from one on -/
def plcs (n : Nat) : Nat → List ByteArray → List (Nat × Nat × Nat)
  | _, [] => []
  | p, t :: l => (n, p, t.size) :: plcs n (p + (t.size + 8)) l
def lens (l : List ByteArray) : Nat := (l.map fun t => t.size + 8).sum
theorem lens_snoc (l : List ByteArray) (t : ByteArray) : lens (l ++ [t]) = lens l + (t.size + 8) := by simp [lens]
theorem plcs_snoc (n : Nat) (t : ByteArray) : ∀ (l : List ByteArray) (p : Nat), plcs n p (l ++ [t]) = plcs n p l ++ [(n, p + lens l, t.size)]
  | [], p => by simp [plcs, lens]
  | x :: l, p => by
    simp only [List.cons_append, plcs, plcs_snoc n t l, lens, List.map_cons, List.sum_cons, List.cons_append]
    rw [Nat.add_assoc]
theorem plcs_length (n : Nat) : ∀ (l : List ByteArray) (p : Nat), (plcs n p l).length = l.length
  | [], _ => rfl
  | _ :: l, p => by simp [plcs, plcs_length n l]
theorem vfr_length (l : List ByteArray) : (vfr l).length = lens l := by
  induction l with
  | nil => rfl
  | cons t l ih => rw [vfr_cons, List.length_append, ih, frm_size]; simp [lens]
/-- what is found goes on from whole frames -/
theorem framesF_vfr (d : Bs) (b : Bs) : ∀ (ys : List ByteArray) (f p : Nat) (l : List ByteArray), mayV ys → d.drop p = vfr ys ++ b → p ≤ d.length → d.length < p + f →
    ∃ f', d.length < p + lens ys + f' ∧ p + lens ys ≤ d.length ∧ framesF ⟨d.toArray⟩ f p l = framesF ⟨d.toArray⟩ f' (p + lens ys) (l ++ ys)
  | [], f, p, l, _, _, hp, hf => ⟨f, by simpa [lens] using hf, by simpa [lens] using hp, by simp [lens]⟩
  | t :: ys, f, p, l, hm, hd, hp, hf => by
    have ht : t.data.toList.length ≤ 65536 := by rw [← Lib.size_eq]; exact hm t (List.mem_cons_self ..)
    have hu : unf (d.drop p) = (t.data.toList, t.data.toList.length + 8, 0) := by rw [hd, vfr_cons, List.append_assoc]; exact unf_frame _ _ ht
    rw [← Lib.size_eq] at hu
    have hlen : (d.drop p).length = t.size + 8 + (vfr ys ++ b).length := by rw [hd, vfr_cons, List.append_assoc, List.length_append, frm_size]
    rw [List.length_drop] at hlen
    have hd2 : d.drop (p + (t.size + 8)) = vfr ys ++ b := by
      rw [← List.drop_drop, hd, vfr_cons, List.append_assoc]
      exact List.drop_left' (frm_size t)
    cases f with
    | zero => omega
    | succ f =>
      obtain ⟨f', h1, h2, h3⟩ := framesF_vfr d b ys f (p + (t.size + 8)) (l ++ [t]) (fun x hx => hm x (List.mem_cons_of_mem _ hx)) hd2 (by omega) (by omega)
      have he : lens (t :: ys) = t.size + 8 + lens ys := by simp [lens]
      refine ⟨f', by rw [he]; omega, by rw [he]; omega, ?_⟩
      rw [framesF]
      simp only [hu]
      rw [if_neg (by simp), h3, he, List.append_assoc]
      congr 1
      omega
/-- .. and ends where no whole frame begins -/
theorem frames_vfr (ys : List ByteArray) (b : Bs) (hm : mayV ys) (hb : (unf b).2.2 ≠ 0) : frames ⟨(vfr ys ++ b).toArray⟩ = (ys, lens ys) := by
  unfold frames
  have hs : (ByteArray.mk (vfr ys ++ b).toArray).size = (vfr ys ++ b).length := by show (vfr ys ++ b).toArray.size = _; simp
  obtain ⟨f', h1, h2, h3⟩ := framesF_vfr (vfr ys ++ b) b ys ((ByteArray.mk (vfr ys ++ b).toArray).size + 1) 0 [] hm rfl (by omega) (by omega)
  rw [h3, Nat.zero_add, List.nil_append]
  cases f' with
  | zero => omega
  | succ f' =>
    rw [framesF, if_pos]
    simp only
    rw [← vfr_length, List.drop_left]
    exact hb
theorem unf_nil0 : (unf []).2.2 ≠ 0 := by decide
theorem frames_clean (ys : List ByteArray) (hm : mayV ys) : frames ⟨(vfr ys).toArray⟩ = (ys, lens ys) := by
  have := frames_vfr ys [] hm unf_nil0
  rwa [List.append_nil] at this
/-- what is found goes further with more rounds, and what was found stays -/
theorem framesF_more (s : ByteArray) : ∀ (f p : Nat) (l : List ByteArray), p ≤ s.size → ∃ zs, (framesF s f p l) = (l ++ zs, p + lens zs) ∧ p + lens zs ≤ s.size ∧ mayV zs
  | 0, p, l, hp => ⟨[], by simp [framesF, lens], by simpa [lens] using hp, by simp [mayV]⟩
  | f + 1, p, l, hp => by
    by_cases h : (unf (s.data.toList.drop p)).2.2 ≠ 0
    · exact ⟨[], by rw [framesF, if_pos h]; simp [lens], by simpa [lens] using hp, by simp [mayV]⟩
    · have h0 : (unf (s.data.toList.drop p)).2.2 = 0 := by omega
      have h1 := unf_ok h0
      have h2 := unf_len h0
      rw [drop_len] at h1
      obtain ⟨zs, e1, e2, e3⟩ := framesF_more s f (p + (unf (s.data.toList.drop p)).2.1) (l ++ [⟨(unf (s.data.toList.drop p)).1.toArray⟩]) (by omega)
      have hsz : (ByteArray.mk (unf (s.data.toList.drop p)).1.toArray).size = (unf (s.data.toList.drop p)).1.length := by show Array.size _ = _; simp
      have hl : lens (⟨(unf (s.data.toList.drop p)).1.toArray⟩ :: zs) = (unf (s.data.toList.drop p)).2.1 + lens zs := by
        simp only [lens, List.map_cons, List.sum_cons, hsz]; omega
      refine ⟨⟨(unf (s.data.toList.drop p)).1.toArray⟩ :: zs, ?_, by rw [hl]; omega, fun t ht => ?_⟩
      · rw [framesF, if_neg h, e1, hl, List.append_assoc, Nat.add_assoc]; rfl
      · rcases List.mem_cons.1 ht with rfl | ht
        · rw [hsz]; exact h2.2
        · exact e3 t ht
theorem frames_end (s : ByteArray) : (frames s).2 = lens (frames s).1 ∧ (frames s).2 ≤ s.size ∧ mayV (frames s).1 := by
  obtain ⟨zs, h1, h2, h3⟩ := framesF_more s (s.size + 1) 0 [] (by omega)
  unfold frames
  rw [h1]
  exact ⟨by simp, by simpa using h2, by simpa using h3⟩
/-- whole frames at a beginning are found -/
theorem frames_has (ys : List ByteArray) (b : Bs) (hm : mayV ys) : ∃ zs, (frames ⟨(vfr ys ++ b).toArray⟩).1 = ys ++ zs ∧ (frames ⟨(vfr ys ++ b).toArray⟩).2 = lens ys + lens zs := by
  unfold frames
  have hs : (ByteArray.mk (vfr ys ++ b).toArray).size = (vfr ys ++ b).length := by show (vfr ys ++ b).toArray.size = _; simp
  obtain ⟨f', h1, h2, h3⟩ := framesF_vfr (vfr ys ++ b) b ys ((ByteArray.mk (vfr ys ++ b).toArray).size + 1) 0 [] hm rfl (by omega) (by omega)
  rw [h3, Nat.zero_add, List.nil_append]
  obtain ⟨zs, e1, _, _⟩ := framesF_more ⟨(vfr ys ++ b).toArray⟩ f' (lens ys) ys (by omega)
  exact ⟨zs, by rw [e1], by rw [e1]⟩

end Go.Proofs.YtgfmnffaknmcnaaGreatDoor.Vl
