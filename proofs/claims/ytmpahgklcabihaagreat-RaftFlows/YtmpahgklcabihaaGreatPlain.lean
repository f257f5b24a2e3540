/- The plain mathematics of layer 1: numbers as bytes, with no word of the program. -/
namespace Go.Proofs.YtmpahgklcabihaaGreat.Pl

/-- how many bytes say n (fuel f) -/
def wdF : Nat → Nat → Nat
  | 0, _ => 0
  | f + 1, n => if n = 0 then 0 else wdF f (n / 256) + 1

def wd (n : Nat) : Nat := wdF 8 n

/-- the c lowest bytes of n, the lowest first -/
def low : Nat → Nat → List UInt8
  | 0, _ => []
  | c + 1, n => UInt8.ofNat (n % 256) :: low c (n / 256)

/-- the number whose bytes these are -/
def val : List UInt8 → Nat
  | [] => 0
  | b :: r => b.toNat + 256 * val r

theorem low_length (c n : Nat) : (low c n).length = c := by
  induction c generalizing n with
  | zero => rfl
  | succ c ih => simp [low, ih]

theorem low_succ (c n : Nat) : low (c + 1) n = low c n ++ [UInt8.ofNat (n / 256 ^ c % 256)] := by
  induction c generalizing n with
  | zero => simp [low]
  | succ c ih =>
    rw [low, ih (n / 256)]
    simp only [low, List.cons_append]
    rw [Nat.div_div_eq_div_mul, Nat.pow_succ, Nat.mul_comm (256 ^ c) 256]

theorem wdF_zero (f : Nat) : wdF f 0 = 0 := by cases f <;> simp [wdF]

theorem wdF_le (f n : Nat) : wdF f n ≤ f := by
  induction f generalizing n with
  | zero => simp [wdF]
  | succ f ih => unfold wdF; split <;> have := ih (n / 256) <;> omega

theorem wd_le (n : Nat) : wd n ≤ 8 := wdF_le 8 n

theorem wdF_more (f n : Nat) (h : n < 256 ^ f) : wdF (f + 1) n = wdF f n := by
  induction f generalizing n with
  | zero => simp at h; simp [wdF, h]
  | succ f ih =>
    unfold wdF
    by_cases hn : n = 0
    · simp [hn]
    · rw [if_neg hn, if_neg hn, ih (n / 256) (by rw [Nat.pow_succ] at h; omega)]

theorem wd_step (x k t : Nat) (hx : x < 256 ^ (8 - k)) (hk : k ≤ 8) (hw : k + wdF (8 - k) x = t) (h0 : 0 < x) : x / 256 < 256 ^ (8 - (k + 1)) ∧ k + 1 ≤ 8 ∧ k + 1 + wdF (8 - (k + 1)) (x / 256) = t := by
  have h8 : k ≠ 8 := by intro h; subst h; simp at hx; omega
  obtain ⟨j, hj⟩ : ∃ j, 8 - k = j + 1 := ⟨7 - k, by omega⟩
  rw [hj] at hx hw
  rw [show 8 - (k + 1) = j from by omega]
  rw [wdF, if_neg (by omega)] at hw
  rw [Nat.pow_succ] at hx
  exact ⟨by omega, by omega, by omega⟩

theorem wd_end (x k t : Nat) (hw : k + wdF (8 - k) x = t) (h0 : x = 0) : k = t := by
  subst h0; rw [wdF_zero] at hw; omega

theorem val_lt (l : List UInt8) : val l < 256 ^ l.length := by
  induction l with
  | nil => simp [val]
  | cons b r ih => have := b.toNat_lt; simp only [val, List.length_cons, Nat.pow_succ]; omega

theorem val_drop (l : List UInt8) (k : Nat) (h : k < l.length) : val (l.drop k) = l[k].toNat + 256 * val (l.drop (k + 1)) := by
  rw [List.drop_eq_getElem_cons h]; rfl

theorem val_drop_lt (l : List UInt8) (k c : Nat) (h : l.length ≤ c) (h1 : 1 ≤ k) : val (l.drop k) < 256 ^ (c - 1) := by
  have := val_lt (l.drop k)
  refine Nat.lt_of_lt_of_le this (Nat.pow_le_pow_right (by omega) ?_)
  simp; omega

/-- the two sums, not reduced -/
def su : List UInt8 → Nat × Nat → Nat × Nat
  | [], p => p
  | b :: r, p => su r (p.1 + b.toNat, p.2 + (p.1 + b.toNat))
/-- the two sums, modulo 65521 -/
def ad : List UInt8 → Nat × Nat → Nat × Nat
  | [], p => p
  | b :: r, p => ad r ((p.1 + b.toNat) % 65521, (p.2 + (p.1 + b.toNat) % 65521) % 65521)
def adler (l : List UInt8) : Nat := (ad l (1, 0)).2 * 65536 + (ad l (1, 0)).1

theorem su_append (a b : List UInt8) (p : Nat × Nat) : su (a ++ b) p = su b (su a p) := by
  induction a generalizing p with
  | nil => rfl
  | cons x a ih => simp only [List.cons_append, su]; exact ih _
theorem ad_append (a b : List UInt8) (p : Nat × Nat) : ad (a ++ b) p = ad b (ad a p) := by
  induction a generalizing p with
  | nil => rfl
  | cons x a ih => simp only [List.cons_append, ad]; exact ih _

theorem su_one (l : List UInt8) (p : Nat × Nat) : (su l p).1 ≤ p.1 + 255 * l.length := by
  induction l generalizing p with
  | nil => simp [su]
  | cons b r ih => have := ih (p.1 + b.toNat, p.2 + (p.1 + b.toNat)); have := b.toNat_lt; simp only [su, List.length_cons] at *; omega
theorem su_two (l : List UInt8) (p : Nat × Nat) : 2 * (su l p).2 ≤ 2 * p.2 + 2 * (l.length * p.1) + 255 * (l.length * (l.length + 1)) := by
  induction l generalizing p with
  | nil => simp [su]
  | cons b r ih =>
    have hb := b.toNat_lt
    have := ih (p.1 + b.toNat, p.2 + (p.1 + b.toNat))
    have hm : r.length * b.toNat ≤ r.length * 255 := Nat.mul_le_mul_left _ (by omega)
    simp only [su, List.length_cons, Nat.add_mul, Nat.mul_add] at *
    omega
theorem su_fits (l : List UInt8) (p : Nat × Nat) (h1 : p.1 < 65521) (h2 : p.2 < 65521) (hl : l.length ≤ 5552) : (su l p).1 ≤ 4294967295 ∧ (su l p).2 ≤ 4294967295 := by
  have a := su_one l p
  have b := su_two l p
  have c : l.length * p.1 ≤ 5552 * 65520 := Nat.mul_le_mul hl (by omega)
  have d : l.length * (l.length + 1) ≤ 5552 * 5553 := Nat.mul_le_mul hl (by omega)
  constructor <;> omega
theorem su_snoc (l : List UInt8) (k : Nat) (h : k < l.length) (p : Nat × Nat) : su (l.take (k + 1)) p = ((su (l.take k) p).1 + l[k].toNat, (su (l.take k) p).2 + ((su (l.take k) p).1 + l[k].toNat)) := by
  rw [List.take_succ_eq_append_getElem h, su_append]; rfl

theorem su_mod (l : List UInt8) (p q : Nat × Nat) (h1 : p.1 % 65521 = q.1 % 65521) (h2 : p.2 % 65521 = q.2 % 65521) (hq1 : q.1 < 65521) (hq2 : q.2 < 65521) : ((su l p).1 % 65521, (su l p).2 % 65521) = ad l q := by
  induction l generalizing p q with
  | nil => simp only [su, ad]; ext <;> simp only <;> omega
  | cons b r ih =>
    simp only [su, ad]
    refine ih _ _ ?_ ?_ ?_ ?_ <;> simp only <;> omega
theorem ad_lt (l : List UInt8) (q : Nat × Nat) (hq1 : q.1 < 65521) (hq2 : q.2 < 65521) : (ad l q).1 < 65521 ∧ (ad l q).2 < 65521 := by
  induction l generalizing q with
  | nil => exact ⟨hq1, hq2⟩
  | cons b r ih => simp only [ad]; exact ih _ (by simp only; omega) (by simp only; omega)

end Go.Proofs.YtmpahgklcabihaaGreat.Pl
