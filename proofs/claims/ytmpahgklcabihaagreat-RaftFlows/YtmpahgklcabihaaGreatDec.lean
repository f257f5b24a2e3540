/- The walk over code.go: Decode. -/
import Derived.Test.YtmpahgklcabihaaGreatRdFld
namespace Go.Proofs.YtmpahgklcabihaaGreat
open Go.RowKit

/-- from a place on, behind the fields that were read -/
def decF (s : ByteArray) : Nat → Nat → List Fld → List Fld × Nat × Nat
  | 0, _, l => (l, 0, 0)
  | f + 1, p, l =>
    if p < s.size then
      if l.length = 4096 then ([], p, 2)
      else if (rdFld s p).2.2 ≠ 0 then ([], p, (rdFld s p).2.2)
      else decF s f (rdFld s p).2.1 (l ++ [(rdFld s p).1])
    else (l, 0, 0)
/-- what Decode answers: the list, the fault's place, the fault -/
def decode (s : ByteArray) : List Fld × Nat × Nat := if 262144 < s.size then ([], 0, 2) else decF s (s.size + 1) 0 []

/-- fields as cells -/
def fcells (l : List Fld) : List Value := l.flatMap fun x => [.bool x.text, .int .i64 x.n, .string x.s]
theorem fcells_snoc (l : List Fld) (x : Fld) : fcells (l ++ [x]) = fcells l ++ [.bool x.text, .int .i64 x.n, .string x.s] := by simp [fcells]
theorem fcells_length (l : List Fld) : (fcells l).length = l.length * 3 := by
  induction l with
  | nil => rfl
  | cons x l ih => simp only [fcells, List.flatMap_cons, List.length_append, List.length_cons, List.length_nil] at ih ⊢; omega

theorem rdNum_ok {s : ByteArray} {p : Nat} (hp : p ≤ s.size) (h : (rdNum s p).2.2 = 0) : p < (rdNum s p).2.1 ∧ (rdNum s p).2.1 ≤ s.size := by
  unfold rdNum at h ⊢; repeat' split
  all_goals (simp_all; try omega)
theorem rdTxt_ok {s : ByteArray} {p : Nat} {n : Int} (hp : p ≤ s.size) (h : (rdTxt s p n).2.2 = 0) : p ≤ (rdTxt s p n).2.1 ∧ (rdTxt s p n).2.1 ≤ s.size := by
  unfold rdTxt at h ⊢; repeat' split
  all_goals (simp_all; try omega)
theorem rdFld_ok {s : ByteArray} {p : Nat} (hp : p < s.size) (h : (rdFld s p).2.2 = 0) : p < (rdFld s p).2.1 ∧ (rdFld s p).2.1 ≤ s.size := by
  unfold rdFld at h ⊢
  by_cases h1 : byAt s p ≠ 78 ∧ byAt s p ≠ 84
  · rw [if_pos h1] at h; simp at h
  · rw [if_neg h1] at h ⊢
    by_cases h2 : (rdNum s (p + 1)).2.2 ≠ 0
    · rw [if_pos h2] at h; exact absurd h h2
    · rw [if_neg h2] at h ⊢
      have hn := rdNum_ok (show p + 1 ≤ s.size by omega) (by omega)
      by_cases h3 : byAt s p = 78
      · rw [if_pos h3]; simp only; omega
      · rw [if_neg h3] at h ⊢
        by_cases h4 : (rdTxt s (rdNum s (p + 1)).2.1 (rdNum s (p + 1)).1).2.2 ≠ 0
        · rw [if_pos h4] at h; exact absurd h h4
        · rw [if_neg h4]
          have ht := rdTxt_ok (n := (rdNum s (p + 1)).1) hn.2 (by omega)
          simp only; omega

/-- the value of an owned row is a slice of its length -/
theorem own_slice {w : World} {B e size n : Nat} {v : Value} {l : List Value} (h : w.ownsRow B e size v n l) : ∃ a cap, v = .slice a n cap := by
  rcases h.2 with ⟨rfl, rfl⟩ | ⟨g, cap, cur, rfl, _⟩
  · exact ⟨none, 0, rfl⟩
  · exact ⟨_, cap, rfl⟩
theorem own_mono {w : World} {B B' e size n : Nat} {v : Value} {l : List Value} (h : w.ownsRow B e size v n l) (hB : B' ≤ B) : w.ownsRow B' e size v n l := by
  refine ⟨h.1, ?_⟩
  rcases h.2 with hn | ⟨g, cap, cur, rfl, h1, rest⟩
  · exact .inl hn
  · exact .inr ⟨g, cap, cur, rfl, by omega, rest⟩
theorem own_keepF {B e size : Nat} {v : Value} {m : Nat} {l : List Value} {a b : World} (hb : Below a.heap.size a b) (h : a.ownsRow B e size v m l) : b.ownsRow B e size v m l := by
  refine ⟨h.1, ?_⟩
  rcases h.2 with hn | ⟨g, cap, cur, rfl, h1, hgg, rest⟩
  · exact .inl hn
  · exact .inr ⟨g, cap, cur, rfl, h1, (hb.block g (Array.getElem?_eq_some_iff.1 hgg).1).trans hgg, rest⟩
/-- a cell in a row's last block -/
theorem three_new (w : World) (x y z : Value) (t : TypeId) : ∀ j u, [x, y, z][j]? = some u → (w.alloc (.cells #[x, y, z] t)).cell? ((⟨w.heap.size, 0, none⟩ : Addr).add j) = some u := by
  intro j u hj
  match j, hj with
  | 0, hj => simp at hj; subst hj; simp [Addr.add]
  | 1, hj => simp at hj; subst hj; simp [Addr.add]
  | 2, hj => simp at hj; subst hj; simp [Addr.add]
theorem decF_end {s : ByteArray} {f p : Nat} {l : List Fld} {D : List Fld × Nat × Nat} (h : decF s f p l = D) (hp : ¬ p < s.size) : D = (l, 0, 0) := by
  cases f with
  | zero => exact h.symm
  | succ f => rw [decF, if_neg hp] at h; exact h.symm
theorem decF_many {s : ByteArray} {f p : Nat} {l : List Fld} {D : List Fld × Nat × Nat} (h : decF s f p l = D) (hf : s.size < p + f) (hp : p < s.size) (hl : l.length = 4096) : D = ([], p, 2) := by
  cases f with
  | zero => omega
  | succ f => rw [decF, if_pos hp, if_pos hl] at h; exact h.symm
theorem decF_bad {s : ByteArray} {f p : Nat} {l : List Fld} {D : List Fld × Nat × Nat} (h : decF s f p l = D) (hf : s.size < p + f) (hp : p < s.size) (hl : ¬ l.length = 4096) (he : (rdFld s p).2.2 ≠ 0) : D = ([], p, (rdFld s p).2.2) := by
  cases f with
  | zero => omega
  | succ f => rw [decF, if_pos hp, if_neg hl, if_pos he] at h; exact h.symm
theorem decF_next {s : ByteArray} {f p : Nat} {l : List Fld} {D : List Fld × Nat × Nat} (h : decF s f p l = D) (hf : s.size < p + f) (hp : p < s.size) (hl : ¬ l.length = 4096) (he : (rdFld s p).2.2 = 0) :
    ∃ f', s.size < (rdFld s p).2.1 + f' ∧ decF s f' (rdFld s p).2.1 (l ++ [(rdFld s p).1]) = D := by
  cases f with
  | zero => omega
  | succ f => rw [decF, if_pos hp, if_neg hl, if_neg (by simp [he])] at h; exact ⟨f, by have := (rdFld_ok hp he).1; omega, h⟩
theorem own_field {w : World} {B : Nat} {v : Value} {l : List Fld} {x : Fld} (h : w.ownsRow B 120 3 v (l.length + 1) (fcells l ++ [.bool x.text, .int .i64 x.n, .string x.s])) : w.ownsRow B 120 3 v (l ++ [x]).length (fcells (l ++ [x])) := by
  rw [fcells_snoc]; simpa using h

theorem field_info : (Tryz.prog.info? 120).map (fun i => (i.zero, i.size, i.bytes)) = some (some (.agg #[.bool false, .int .i64 0, .string ⟨#[]⟩]), 3, 32) := by kernel_rfl

set_option maxRecDepth 100000 in
set_option maxHeartbeats 1600000 in
theorem Decode_any (s : ByteArray) (w : World) (hs : s.size ≤ 140737488351232) :
    Calls Tryz.prog 86 #[.string s] w fun e w' => ∃ v, e = .returned (.tuple #[v, .agg #[.int .i64 (decode s).2.1, .int .i64 (decode s).2.2]]) ∧
      w'.ownsRow w.heap.size 120 3 v (decode s).1.length (fcells (decode s).1) ∧ Below w.heap.size w w' := by
  obtain ⟨i0, hi, hz0, hz1, hz2⟩ := info_parts field_info
  by_cases hbig : 262144 < s.size
  · have HR : Hid (decode s = ([], 0, 2)) := by show _ = _; rw [decode, if_pos hbig]
    go_enter Tryz.func86, Tryz.ntmps86
    go_wp2
    rw [HR.out]
    exact bodyPost_ret (v := .tuple #[.slice none 0 0, .agg #[.int .i64 0, .int .i64 2]]) (by simp [results, Tryz.results86, go_sem]) rfl ⟨_, rfl, World.ownsRow_nil _ _ _ _, (Below.refl _ _).alloc (Nat.le_refl _) _⟩
  · obtain ⟨D, hD⟩ : ∃ D, D = decode s := ⟨_, rfl⟩
    have HD : Hid (decF s (s.size + 1) 0 [] = D) := by show _ = _; rw [hD, decode, if_neg hbig]
    rw [← hD]
    clear hD
    go_enter Tryz.func86, Tryz.ntmps86
    go_wp2
    obtain ⟨w0, hw0⟩ : ∃ w0, w0 = w.alloc (.cells #[.int .i64 0, .int .i64 0] 156) := ⟨_, rfl⟩
    have k0 : w0.heap[w.heap.size]? = some (.cells #[.int .i64 0, .int .i64 0] 156 (0, 0)) := by rw [hw0]; exact heap_alloc_new _ _
    have k1 : w0.heap.size = w.heap.size + 1 := by rw [hw0]; simp
    have k2 : Below w.heap.size w w0 := by rw [hw0]; exact (Below.refl _ _).alloc (Nat.le_refl _) _
    rw [← hw0]
    clear hw0
    have e0 : w0.cell? ⟨w.heap.size, 0, none⟩ = some (.int .i64 0) := by simp [World.cell?, k0]
    have e1 : w0.cell? ⟨w.heap.size, 1, none⟩ = some (.int .i64 0) := by simp [World.cell?, k0]
    have g0 : w0.frozen? ⟨w.heap.size, 0, none⟩ = false := by simp [World.frozen?, k0]
    have g1 : w0.frozen? ⟨w.heap.size, 1, none⟩ = false := by simp [World.frozen?, k0]
    clear k0
    go_loopw [4, 5] (fun v i wr => ∃ (p f : Nat) (l : List Fld), i = .int .i64 p ∧ p ≤ s.size ∧ s.size < p + f ∧ l.length ≤ 4096 ∧ decF s f p l = D ∧ wr.ownsRow (w.heap.size + 1) 120 3 v l.length (fcells l) ∧ Below (w.heap.size + 1) w0 wr) (fun _ i _ => s.size - (intOf i).toNat)
    case atStart => exact ⟨0, s.size + 1, [], rfl, by omega, by omega, by simp, HD.out, World.ownsRow_nil _ _ _ _, Below.refl _ _⟩
    case round =>
      obtain ⟨p, f, l, rfl, hp, hf, hl, hdec', hown, hbel⟩ := hrel
      obtain ⟨a, cap, rfl⟩ := own_slice hown
      have hdec := hide hdec'
      have c0 := (hbel.cell (p := ⟨w.heap.size, 0, none⟩) (Nat.lt_succ_self _)).trans e0
      have c1 := (hbel.cell (p := ⟨w.heap.size, 1, none⟩) (Nat.lt_succ_self _)).trans e1
      have f0 := (hbel.frozen (p := ⟨w.heap.size, 0, none⟩) (Nat.lt_succ_self _)).trans g0
      have f1 := (hbel.frozen (p := ⟨w.heap.size, 1, none⟩) (Nat.lt_succ_self _)).trans g1
      have hz := hbel.size
      have hb2 : Below w.heap.size w wr := k2.trans (hbel.mono (Nat.le_succ _))
      rw [k1] at hz
      clear hdec' HD e0 e1 g0 g1 k2
      by_cases hlt : p < s.size
      · by_cases hmany : l.length = 4096
        · have HR := hide (decF_many hdec.out hf hlt hmany)
          have bm : ((l.length : Int) == 4096) = true := by rw [beq_iff_eq]; omega
          clear hmany
          go_wp2
          rw [HR.out]
          exact bodyPost_ret (v := .tuple #[.slice none 0 0, .agg #[.int .i64 p, .int .i64 2]]) (by simp [results, Tryz.results86, go_sem, c0, c1]) rfl ⟨_, rfl, World.ownsRow_nil _ _ _ _, (hb2.setCell (Nat.le_refl _) _).setCell (Nat.le_refl _) _⟩
        · have bm : ((l.length : Int) == 4096) = false := by rw [beq_eq_false_iff_ne]; omega
          go_wp2_with fail
          refine (readField_any s p _ (by omega) hlt).mono ?_
          rintro e w1 ⟨rfl, hb1⟩
          have hzz := hb1.size
          have hlt0 : w.heap.size < w1.heap.size := by omega
          have hb3 := hb2.trans (hb1.mono (by omega))
          have hbel1 := hbel.trans (hb1.mono hz)
          have hown1 := own_keepF hb1 hown
          have c0' := (hb1.cell (p := ⟨w.heap.size, 0, none⟩) (by simp; omega)).trans c0
          have c1' := (hb1.cell (p := ⟨w.heap.size, 1, none⟩) (by simp; omega)).trans c1
          have f0' := (hb1.frozen (p := ⟨w.heap.size, 0, none⟩) (by simp; omega)).trans f0
          have f1' := (hb1.frozen (p := ⟨w.heap.size, 1, none⟩) (by simp; omega)).trans f1
          clear hb1 hb2 hbel hown c0 c1 f0 f1
          by_cases her : (rdFld s p).2.2 ≠ 0
          · have HR := hide (decF_bad hdec.out hf hlt hmany her)
            rw [rdFldV]
            generalize rdFld s p = r at *
            obtain ⟨x, en, er⟩ := r
            have be : ((er : Int) != 0) = true := by rw [bne_iff_ne]; simp at her; omega
            go_wp2
            rw [HR.out]
            exact bodyPost_ret (v := .tuple #[.slice none 0 0, .agg #[.int .i64 p, .int .i64 er]]) (by simp [results, Tryz.results86, go_sem, c0', c1', hlt0]) rfl ⟨_, rfl, World.ownsRow_nil _ _ _ _, ((hb3.setCell (Nat.le_refl _) _).setCell (Nat.le_refl _) _).alloc (by simp; omega) _⟩
          · have her' : (rdFld s p).2.2 = 0 := by omega
            obtain ⟨f', hf', HN'⟩ := decF_next hdec.out hf hlt hmany her'
            have HN := hide HN'
            have hok := rdFld_ok hlt her'
            clear HN' her hdec
            rw [rdFldV]
            generalize rdFld s p = r at *
            obtain ⟨x, en, er⟩ := r
            simp only at her' hf' hok HN
            subst her'
            go_wp2_with (at_builtin; refine wpList_append_own _ rfl (.tmp 34) (.tmp 36) 122 rfl (w.heap.size + 1) 120 i0 (.agg #[.bool false, .int .i64 0, .string ⟨#[]⟩]) 3 32 Tryz.underlying122 hi hz0 hz1 hz2 rfl (by decide) _ _ _ rfl ((hown1.alloc _).alloc _) ⟨w1.heap.size + 1, 0, none⟩ 1 1 [.bool x.text, .int .i64 x.n, .string x.s] rfl rfl ?c1 ?c2 ?c3 ?c4 ?c5 ?_)
            case c1 =>
              have h := three_new (w1.alloc (.cells #[.bool x.text, .int .i64 x.n, .string x.s] 120)) (.bool x.text) (.int .i64 x.n) (.string x.s) 120
              simpa using h
            case c2 => intro u hu; simp at hu; rcases hu with rfl | rfl | rfl <;> rfl
            case c3 => unfold maxLen; omega
            case c4 => omega
            case c5 => simp; omega
            intro v' w2 hown' hgrow _
            have hbel2 : Below (w.heap.size + 1) w0 w2 := ((hbel1.alloc (by omega) _).alloc (by simp; omega) _).grown hgrow (by simp; omega) (fun k hk => (hown1.lt k hk).1)
            have hown2 := own_field hown'
            clear hown' hgrow hown1 hbel1 hb3 c0' c1' f0' f1'
            go_wp2
            go_roundw
            case rel => exact ⟨en, f', l ++ [x], rfl, hok.2, hf', by simp; omega, HN.out, hown2, hbel2⟩
            case measure => simp [intOf]; omega
      · have HR := hide (decF_end hdec.out hlt)
        go_wp2
        rw [HR.out]
        exact bodyPost_ret (v := .tuple #[.slice a l.length cap, .agg #[.int .i64 0, .int .i64 0]]) (by simp [results, Tryz.results86, go_sem, c0, c1]) rfl ⟨_, rfl, own_mono (ownsRow_setCell_below (ownsRow_setCell_below hown (Nat.lt_succ_self _) _) (Nat.lt_succ_self _) _) (Nat.le_succ _), (hb2.setCell (Nat.le_refl _) _).setCell (Nat.le_refl _) _⟩

end Go.Proofs.YtmpahgklcabihaaGreat
