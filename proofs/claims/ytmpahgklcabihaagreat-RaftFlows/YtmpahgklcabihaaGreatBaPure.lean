/- Layer 15, plain: what a ballot's file tells, list by list, and what a crash leaves of it. -/
import Derived.Test.YtmpahgklcabihaaGreatRound
import Derived.Test.YtmpahgklcabihaaGreatUnframe
import Derived.Test.YtmpahgklcabihaaGreatDTwo
import Derived.Test.YtmpahgklcabihaaGreatRlMgP
namespace Go.Proofs.YtmpahgklcabihaaGreat.Ba
open Go.Proofs.YtmpahgklcabihaaGreat.Dk (Bs named Fil Fls St St.Ok getL putL delL Rising getL_of_mem getL_some getL_none mem_putL mem_delL getL_put syncL crashL tornF keptOf keptOf_le fileOr used)
open Go.Proofs.YtmpahgklcabihaaGreat.Rl (En Lo)

theorem wrap_in {x : Int} (h0 : -9223372036854775808 ≤ x) (h1 : x ≤ 9223372036854775807) : IntKind.i64.wrap x = x := by
  rw [IntKind.wrap_i64]; omega
/-- a list of the file -/
inductive Rc where
  | st (t v : Int)
  | en (e : En)
  | ct (n : Nat)
def Rc.may : Rc → Prop
  | .st t v => 1 ≤ t ∧ t ≤ 1073741824 ∧ -1 ≤ v ∧ v < 16
  | .en e => 1 ≤ e.t ∧ e.t ≤ 1073741824 ∧ e.d.size ≤ 4096
  | .ct n => n ≤ 1048577
abbrev num (n : Int) : Fld := ⟨false, n, ⟨#[]⟩⟩
abbrev txt (s : ByteArray) : Fld := ⟨true, 0, s⟩
def Rc.flds : Rc → List Fld
  | .st t v => [num 1, num t, num v]
  | .en e => [num 2, num e.t, txt e.d]
  | .ct n => [num 3, num n]
/-- its frame -/
def Rc.fr (r : Rc) : Bs := frm (encs r.flds)
def frs (l : List Rc) : Bs := l.flatMap Rc.fr

theorem num_fits {n : Int} (h1 : -9223372036854775808 ≤ n) (h2 : n ≤ 9223372036854775807) : (num n).fits := ⟨h1, h2, by show (ByteArray.mk #[]).size ≤ _; decide⟩
theorem Rc.flds_fit {r : Rc} (h : r.may) : ∀ x ∈ r.flds, x.fits := by
  cases r with
  | st t v =>
    obtain ⟨h1, h2, h3, h4⟩ := h
    intro x hx
    simp only [Rc.flds, List.mem_cons, List.not_mem_nil, or_false] at hx
    rcases hx with rfl | rfl | rfl
    · exact num_fits (by decide) (by decide)
    · exact num_fits (by omega) (by omega)
    · exact num_fits (by omega) (by omega)
  | en e =>
    obtain ⟨h1, h2, h3⟩ := h
    intro x hx
    simp only [Rc.flds, List.mem_cons, List.not_mem_nil, or_false] at hx
    rcases hx with rfl | rfl | rfl
    · exact num_fits (by decide) (by decide)
    · exact num_fits (by omega) (by omega)
    · exact ⟨by show (-9223372036854775808 : Int) ≤ 0; decide, by show (0 : Int) ≤ _; decide, by show e.d.size ≤ _; omega⟩
  | ct n =>
    have h1 : n ≤ 1048577 := h
    intro x hx
    simp only [Rc.flds, List.mem_cons, List.not_mem_nil, or_false] at hx
    rcases hx with rfl | rfl
    · exact num_fits (by decide) (by decide)
    · exact num_fits (by omega) (by omega)
theorem encs_len {r : Rc} (h : r.may) : (encs r.flds).length ≤ 4130 := by
  cases r with
  | st t v =>
    have h1 := Pl.wd_le (u64 1)
    have h2 := Pl.wd_le (u64 t)
    have h3 := Pl.wd_le (u64 v)
    have : (encs (Rc.st t v).flds).length = (enc (num 1)).length + ((enc (num t)).length + (enc (num v)).length) := by simp [Rc.flds, encs]
    rw [this, enc_num_length, enc_num_length, enc_num_length]; omega
  | en e =>
    have h1 := Pl.wd_le (u64 2)
    have h2 := Pl.wd_le (u64 e.t)
    have h3 := Pl.wd_le e.d.size
    have h4 := h.2.2
    have : (encs (Rc.en e).flds).length = (enc (num 2)).length + ((enc (num e.t)).length + (enc (txt e.d)).length) := by simp [Rc.flds, encs]
    rw [this, enc_num_length, enc_num_length, enc_text_length]; omega
  | ct n =>
    have h1 := Pl.wd_le (u64 3)
    have h2 := Pl.wd_le (u64 n)
    have : (encs (Rc.ct n).flds).length = (enc (num 3)).length + (enc (num n)).length := by simp [Rc.flds, encs]
    rw [this, enc_num_length, enc_num_length]; omega
theorem Rc.good {r : Rc} (h : r.may) : Good r.flds := by
  refine ⟨by cases r <;> simp [Rc.flds], ?_, by have := encs_len h; omega⟩
  cases r <;> simp [Rc.flds, Fld.may, ByteArray.size]
theorem Rc.dec {r : Rc} (h : r.may) : decode ⟨(encs r.flds).toArray⟩ = (r.flds, 0, 0) := decode_encs (Rc.good h) (Rc.flds_fit h)
theorem fr_length (r : Rc) : r.fr.length = (encs r.flds).length + 8 := frm_length _
theorem fr_pos (r : Rc) : 8 ≤ r.fr.length := by rw [fr_length]; omega
theorem fr_le {r : Rc} (h : r.may) : r.fr.length ≤ 4138 := by rw [fr_length]; have := encs_len h; omega
theorem frs_append (a b : List Rc) : frs (a ++ b) = frs a ++ frs b := List.flatMap_append
theorem frs_cons (r : Rc) (l : List Rc) : frs (r :: l) = r.fr ++ frs l := rfl
theorem frs_one (r : Rc) : frs [r] = r.fr := by simp [frs]
theorem frs_many : ∀ l : List Rc, 8 * l.length ≤ (frs l).length
  | [] => by simp
  | r :: l => by
    have := frs_many l
    have := fr_pos r
    rw [frs_cons, List.length_append, List.length_cons]; omega
theorem frs_few : ∀ l : List Rc, (∀ r ∈ l, r.may) → (frs l).length ≤ 4138 * l.length
  | [], _ => by simp [frs]
  | r :: l, h => by
    have := frs_few l (fun x hx => h x (List.mem_cons_of_mem _ hx))
    have := fr_le (h r (List.mem_cons_self ..))
    rw [frs_cons, List.length_append, List.length_cons]; omega

/-! frames -/
theorem val4 (n : Nat) (h : n < 4294967296) : Pl.val (Pl.low 4 n) = n := by
  simp only [Pl.low, Pl.val, UInt8.toNat_ofNat']; omega
theorem unf_frame (l q : List UInt8) (h : l.length ≤ 65536) : unf (frm l ++ q) = (l, l.length + 8, 0) := by
  have hl := frm_length l
  have hh := head_length l
  have hal := adler_lt (head l)
  have e0 : frm l ++ q = Pl.low 4 l.length ++ (l ++ (Pl.low 4 (Pl.adler (head l)) ++ q)) := by simp [frm, head]
  have e4 : (frm l ++ q).take 4 = Pl.low 4 l.length := by
    rw [e0, List.take_append_of_le_length (by rw [Pl.low_length]; exact Nat.le_refl _), List.take_of_length_le (by rw [Pl.low_length]; exact Nat.le_refl _)]
  have et : (frm l ++ q).take (4 + l.length) = head l := by rw [frm, List.append_assoc, ← hh, List.take_left]
  have ed : ((frm l ++ q).drop (4 + l.length)).take 4 = Pl.low 4 (Pl.adler (head l)) := by
    rw [frm, List.append_assoc, ← hh, List.drop_left, List.take_append_of_le_length (by rw [Pl.low_length]; exact Nat.le_refl _), List.take_of_length_le (by rw [Pl.low_length]; exact Nat.le_refl _)]
  have eb : ((frm l ++ q).drop 4).take l.length = l := by
    have h4 : (Pl.low 4 l.length).length = 4 := Pl.low_length 4 l.length
    have : (frm l ++ q).drop 4 = l ++ (Pl.low 4 (Pl.adler (head l)) ++ q) := by
      rw [e0]; exact List.drop_left' h4
    rw [this, List.take_left]
  rw [unf, List.length_append, if_neg (by omega), e4, val4 _ (by omega), if_neg (by omega), if_neg (by omega), et, ed, val4 _ hal, if_neg (by simp), eb]
theorem frm_first4 (l : List UInt8) : (frm l).take 4 = Pl.low 4 l.length := by
  rw [frm, head, List.append_assoc, List.take_append_of_le_length (by rw [Pl.low_length]; exact Nat.le_refl _), List.take_of_length_le (by rw [Pl.low_length]; exact Nat.le_refl _)]
theorem unf_torn (l : List UInt8) (h : l.length ≤ 65536) (c : Nat) (hc : c < (frm l).length) : unf ((frm l).take c) = ([], 0, 11) := by
  have hl := frm_length l
  have hlen : ((frm l).take c).length = c := by rw [List.length_take]; omega
  rw [unf, hlen]
  by_cases h4 : c < 4
  · rw [if_pos h4]
  · have e : ((frm l).take c).take 4 = Pl.low 4 l.length := by rw [List.take_take, Nat.min_eq_left (by omega), frm_first4]
    rw [if_neg h4, e, val4 _ (by omega), if_neg (by omega), if_pos (by omega)]
/-- a part of a frame, as a crash leaves it (or nothing) -/
def Torn (t : Bs) : Prop := t = [] ∨ ∃ (r : Rc) (c : Nat), r.may ∧ c < r.fr.length ∧ t = r.fr.take c
theorem Torn.nil : Torn [] := Or.inl rfl
theorem Torn.unf {t : Bs} (h : Torn t) (hne : t ≠ []) : unf t = ([], 0, 11) := by
  rcases h with rfl | ⟨r, c, hm, hc, rfl⟩
  · exact absurd rfl hne
  · exact unf_torn _ (by have := encs_len hm; omega) c hc
/-- frames that are cut anywhere: whole ones, and a part of the next one -/
theorem frs_cut : ∀ (l : List Rc) (m : Nat), (∀ r ∈ l, r.may) → m ≤ (frs l).length → ∃ j t, j ≤ l.length ∧ Torn t ∧ (frs l).take m = frs (l.take j) ++ t
  | [], m, _, hm => ⟨0, [], by simp, Torn.nil, by simp [frs]⟩
  | r :: l, m, hl, hm => by
    by_cases hc : m < r.fr.length
    · refine ⟨0, r.fr.take m, by simp, Or.inr ⟨r, m, hl r (List.mem_cons_self ..), hc, rfl⟩, ?_⟩
      rw [List.take_zero, frs_cons]; exact List.take_append_of_le_length (by omega)
    · rw [frs_cons, List.length_append] at hm
      obtain ⟨j, t, hj, ht, h1⟩ := frs_cut l (m - r.fr.length) (fun x hx => hl x (List.mem_cons_of_mem _ hx)) (by omega)
      refine ⟨j + 1, t, by simp only [List.length_cons]; omega, ht, ?_⟩
      rw [List.take_succ_cons, frs_cons, frs_cons, List.append_assoc, ← h1, List.take_append, List.take_of_length_le (by omega)]
/-- cut behind all of some -/
theorem frs_cut2 (a b : List Rc) (m : Nat) (hb : ∀ r ∈ b, r.may) (h1 : (frs a).length ≤ m) (h2 : m ≤ (frs (a ++ b)).length) : ∃ j t, j ≤ b.length ∧ Torn t ∧ (frs (a ++ b)).take m = frs (a ++ b.take j) ++ t := by
  rw [frs_append, List.length_append] at h2
  obtain ⟨j, t, hj, ht, e⟩ := frs_cut b (m - (frs a).length) hb (by omega)
  exact ⟨j, t, hj, ht, by rw [frs_append, frs_append, List.append_assoc, ← e, List.take_append, List.take_of_length_le h1]⟩

/-! what the lists tell -/
structure Bl where
  t : Int
  v : Int
  es : List En
def Bl.new : Bl := ⟨0, -1, []⟩
abbrev Bl.lo (s : Bl) : Lo := ⟨0, 0, s.es⟩
/-- the last entry's term -/
def lt (es : List En) : Int := (es.getLast?.map En.t).getD 0
def Rc.ok (n : Int) (s : Bl) : Rc → Prop
  | .st t v => v < n ∧ (s.t < t ∨ t = s.t ∧ (s.v = -1 ∨ v = s.v))
  | .en e => e.t ≤ s.t ∧ lt s.es ≤ e.t
  | .ct k => 1 ≤ k ∧ k ≤ s.es.length
def Rc.do (s : Bl) : Rc → Bl
  | .st t v => ⟨t, v, s.es⟩
  | .en e => ⟨s.t, s.v, s.es ++ [e]⟩
  | .ct k => ⟨s.t, s.v, s.es.take (k - 1)⟩
def run (s : Bl) (l : List Rc) : Bl := l.foldl Rc.do s
def Oks (n : Int) : Bl → List Rc → Prop
  | _, [] => True
  | s, r :: l => r.may ∧ r.ok n s ∧ Oks n (r.do s) l
theorem run_append (s : Bl) (a b : List Rc) : run s (a ++ b) = run (run s a) b := List.foldl_append
theorem run_cons (s : Bl) (r : Rc) (l : List Rc) : run s (r :: l) = run (r.do s) l := rfl
theorem Oks.append {n : Int} : ∀ {s : Bl} {a b : List Rc}, Oks n s (a ++ b) ↔ Oks n s a ∧ Oks n (run s a) b
  | s, [], b => by simp [Oks, run]
  | s, r :: a, b => by
    rw [List.cons_append, Oks, Oks, Oks.append (s := r.do s), run_cons]
    constructor
    · rintro ⟨h1, h2, h3, h4⟩; exact ⟨⟨h1, h2, h3⟩, h4⟩
    · rintro ⟨⟨h1, h2, h3⟩, h4⟩; exact ⟨h1, h2, h3, h4⟩
theorem Oks.take {n : Int} {s : Bl} {l : List Rc} (h : Oks n s l) (j : Nat) : Oks n s (l.take j) := by
  rw [← List.take_append_drop j l] at h; exact (Oks.append.1 h).1
theorem Oks.may {n : Int} : ∀ {s : Bl} {l : List Rc}, Oks n s l → ∀ r ∈ l, r.may
  | _, [], _ => by simp
  | s, r :: l, h => by
    intro x hx
    rcases List.mem_cons.1 hx with rfl | hx
    · exact h.1
    · exact Oks.may h.2.2 x hx

/-- what may be -/
structure Bl.Ok (n : Int) (s : Bl) : Prop where
  t0 : 0 ≤ s.t
  t1 : s.t ≤ 1073741824
  v0 : -1 ≤ s.v
  v1 : s.v < n
  each : ∀ e ∈ s.es, 1 ≤ e.t ∧ e.t ≤ s.t ∧ e.d.size ≤ 4096
  rise : (s.es.map En.t).Pairwise (· ≤ ·)
theorem Bl.Ok.new {n : Int} (h : 1 ≤ n) : Bl.new.Ok n := ⟨by decide, by decide, by decide, by show (-1 : Int) < n; omega, by simp [Bl.new], by simp [Bl.new]⟩
theorem lt_snoc (es : List En) (e : En) : lt (es ++ [e]) = e.t := by simp [lt]
theorem lt_nil : lt [] = 0 := rfl
theorem rise_le {es : List En} (h : (es.map En.t).Pairwise (· ≤ ·)) : ∀ e ∈ es, e.t ≤ lt es := by
  intro e he
  rcases List.eq_nil_or_concat es with rfl | ⟨l, x, rfl⟩
  · cases he
  · rw [List.concat_eq_append] at *
    rw [lt_snoc]
    rcases List.mem_append.1 he with he | he
    · rw [List.map_append, List.pairwise_append] at h
      exact h.2.2 e.t (List.mem_map_of_mem he) x.t (by simp)
    · rw [List.mem_singleton.1 he]; exact Int.le_refl _
theorem Bl.Ok.do {n : Int} {s : Bl} (h : s.Ok n) {r : Rc} (hm : r.may) (ho : r.ok n s) : (r.do s).Ok n := by
  cases r with
  | st t v =>
    obtain ⟨h1, h2, h3, h4⟩ := hm
    have ht : s.t ≤ t := by rcases ho.2 with h | h <;> omega
    exact ⟨Int.le_trans (by decide) h1, h2, h3, ho.1, fun e he => by have := h.each e he; exact ⟨this.1, by show e.t ≤ t; omega, this.2.2⟩, h.rise⟩
  | en e =>
    obtain ⟨h1, h2, h3⟩ := hm
    refine ⟨h.t0, h.t1, h.v0, h.v1, fun x hx => ?_, ?_⟩
    · rcases List.mem_append.1 hx with hx | hx
      · exact h.each x hx
      · rw [List.mem_singleton.1 hx]; exact ⟨h1, ho.1, h3⟩
    · show ((s.es ++ [e]).map En.t).Pairwise (· ≤ ·)
      rw [List.map_append, List.pairwise_append]
      refine ⟨h.rise, by simp, fun a ha b hb => ?_⟩
      obtain ⟨x, hx, rfl⟩ := List.mem_map.1 ha
      simp only [List.map_cons, List.map_nil, List.mem_singleton] at hb
      have := rise_le h.rise x hx
      have := ho.2
      omega
  | ct k =>
    refine ⟨h.t0, h.t1, h.v0, h.v1, fun x hx => h.each x (List.mem_of_mem_take hx), ?_⟩
    show ((s.es.take (k - 1)).map En.t).Pairwise (· ≤ ·)
    rw [List.map_take]; exact h.rise.sublist (List.take_sublist ..)
theorem Bl.Ok.run {n : Int} : ∀ {s : Bl} {l : List Rc}, s.Ok n → Oks n s l → (run s l).Ok n
  | _, [], h, _ => h
  | s, r :: l, h, ho => by rw [run_cons]; exact Bl.Ok.run (h.do ho.1 ho.2.1) ho.2.2
theorem run_many : ∀ (s : Bl) (l : List Rc), (run s l).es.length ≤ s.es.length + l.length
  | _, [] => by simp [Ba.run]
  | s, r :: l => by
    rw [run_cons]
    have := run_many (r.do s) l
    have h2 : (r.do s).es.length ≤ s.es.length + 1 := by
      cases r <;> simp [Rc.do] <;> omega
    rw [List.length_cons]; omega
theorem lt_tm (es : List En) : (⟨0, 0, es⟩ : Lo).tm (⟨0, 0, es⟩ : Lo).last = lt es := by
  rcases List.eq_nil_or_concat es with rfl | ⟨l, x, rfl⟩
  · rfl
  · rw [List.concat_eq_append, lt_snoc]
    unfold Lo.tm Lo.last
    rw [if_neg (by simp)]
    simp

end Go.Proofs.YtmpahgklcabihaaGreat.Ba
