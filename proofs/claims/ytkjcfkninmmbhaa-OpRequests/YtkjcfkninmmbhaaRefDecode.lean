/- The walk over the document's own answer: Decode. -/
import Derived.Test.YtkjcfkninmmbhaaRefDec
import Derived.Test.YtkjcfkninmmbhaaDec
namespace Go.Proofs.Ytkjcfkninmmbhaa
open Go.RowKit

theorem Started.boxed {w W : World} (h : Started w W) (o : Obj) : Started w (W.alloc o) :=
  ⟨h.below.alloc (Nat.le_of_lt h.lt) _, by have := h.lt; simp; omega, (World.cell?_alloc_past _ _ _ h.lt).trans h.c0, (World.cell?_alloc_past _ _ _ h.lt).trans h.c1, (((Below.refl W.heap.size W).alloc (Nat.le_refl _) o).frozen (p := ⟨w.heap.size, 0, none⟩) h.lt).trans h.f0, (((Below.refl W.heap.size W).alloc (Nat.le_refl _) o).frozen (p := ⟨w.heap.size, 1, none⟩) h.lt).trans h.f1⟩

set_option maxRecDepth 100000 in
set_option maxHeartbeats 1600000 in
theorem rDecode_any (s : ByteArray) (w : World) (hs : s.size ≤ 140737488351232) :
    Calls Try.prog 68 #[.string s] w fun e w' => ∃ v, e = .returned (.tuple #[v, .agg #[.int .i64 (decode s).2.1, .int .i64 (decode s).2.2]]) ∧
      w'.ownsRow w.heap.size 77 3 v (decode s).1.length (fcells (decode s).1) ∧ Below w.heap.size w w' := by
  obtain ⟨i0, hi, hz0, hz1, hz2⟩ := info_parts field_info
  by_cases hbig : 262144 < s.size
  · have HR : Hid (decode s = ([], 0, 2)) := by show _ = _; rw [decode, if_pos hbig]
    obtain ⟨W0, hW0⟩ : ∃ W, W = w.alloc (.cells #[.int .i64 0, .int .i64 0] 42) := ⟨_, rfl⟩
    have hS := started w
    rw [← hW0] at hS
    have HW := hide hW0
    clear hW0
    go_enter Try.func68, Try.ntmps68
    go_wp2_with fail
    rw [← HW.out]
    refine (Fault_any 0 2 W0).mono ?_
    rintro r w9 ⟨rfl, hb9⟩
    obtain ⟨d0, d1, g0, g1, hb8⟩ := hS.behind hb9
    clear hb9
    go_wp2
    rw [HR.out]
    exact bodyPost_ret (v := .tuple #[.slice none 0 0, .agg #[.int .i64 0, .int .i64 2]]) (by simp [results, Try.results68, go_sem, d0, d1]) rfl ⟨_, rfl, World.ownsRow_nil _ _ _ _, (hb8.setCell (Nat.le_refl _) _).setCell (Nat.le_refl _) _⟩
  · obtain ⟨D, hD⟩ : ∃ D, D = decode s := ⟨_, rfl⟩
    have HD : Hid (decF s (s.size + 1) 0 [] = D) := by show _ = _; rw [hD, decode, if_neg hbig]
    rw [← hD]
    clear hD
    go_enter Try.func68, Try.ntmps68
    go_wp2
    obtain ⟨w0, hw0⟩ : ∃ w0, w0 = w.alloc (.cells #[.int .i64 0, .int .i64 0] 42) := ⟨_, rfl⟩
    have k0 : w0.heap[w.heap.size]? = some (.cells #[.int .i64 0, .int .i64 0] 42 (0, 0)) := by rw [hw0]; exact heap_alloc_new _ _
    have k1 : w0.heap.size = w.heap.size + 1 := by rw [hw0]; simp
    have k2 : Below w.heap.size w w0 := by rw [hw0]; exact (Below.refl _ _).alloc (Nat.le_refl _) _
    rw [← hw0]
    clear hw0
    have e0 : w0.cell? ⟨w.heap.size, 0, none⟩ = some (.int .i64 0) := by simp [World.cell?, k0]
    have e1 : w0.cell? ⟨w.heap.size, 1, none⟩ = some (.int .i64 0) := by simp [World.cell?, k0]
    have g0 : w0.frozen? ⟨w.heap.size, 0, none⟩ = false := by simp [World.frozen?, k0]
    have g1 : w0.frozen? ⟨w.heap.size, 1, none⟩ = false := by simp [World.frozen?, k0]
    clear k0
    go_loopw [4, 5] (fun v i wr => ∃ (p f : Nat) (l : List Fld), i = .int .i64 p ∧ p ≤ s.size ∧ s.size < p + f ∧ l.length ≤ 4096 ∧ decF s f p l = D ∧ wr.ownsRow (w.heap.size + 1) 77 3 v l.length (fcells l) ∧ Below (w.heap.size + 1) w0 wr) (fun _ i _ => s.size - (intOf i).toNat)
    case atStart => exact ⟨0, s.size + 1, [], rfl, by omega, by omega, by simp, HD.out, World.ownsRow_nil _ _ _ _, Below.refl _ _⟩
    case round =>
      obtain ⟨p, f, l, rfl, hp, hf, hl, hdec', hown, hbel⟩ := hrel
      obtain ⟨a, cap, rfl⟩ := own_slice hown
      have hdec := hide hdec'
      have c0 := (hbel.cell (p := ⟨w.heap.size, 0, none⟩) (Nat.lt_succ_self _)).trans e0
      have c1 := (hbel.cell (p := ⟨w.heap.size, 1, none⟩) (Nat.lt_succ_self _)).trans e1
      have f0 := (hbel.frozen (p := ⟨w.heap.size, 0, none⟩) (Nat.lt_succ_self _)).trans g0
      have f1 := (hbel.frozen (p := ⟨w.heap.size, 1, none⟩) (Nat.lt_succ_self _)).trans g1
      have hz := hbel.size
      have hb2 : Below w.heap.size w wr := k2.trans (hbel.mono (Nat.le_succ _))
      rw [k1] at hz
      clear hdec' HD e0 e1 g0 g1 k2
      by_cases hlt : p < s.size
      · by_cases hmany : l.length = 4096
        · have HR := hide (decF_many hdec.out hf hlt hmany)
          have bm : ((l.length : Int) == 4096) = true := by rw [beq_iff_eq]; omega
          have hS : Started w wr := ⟨hb2, by omega, c0, c1, f0, f1⟩
          clear hmany
          go_wp2_with fail
          refine (Fault_any p 2 wr).mono ?_
          rintro r w9 ⟨rfl, hb9⟩
          obtain ⟨d0, d1, g0, g1, hb8⟩ := hS.behind hb9
          clear hb9 c0 c1 f0 f1
          go_wp2
          rw [HR.out]
          exact bodyPost_ret (v := .tuple #[.slice none 0 0, .agg #[.int .i64 p, .int .i64 2]]) (by simp [results, Try.results68, go_sem, d0, d1]) rfl ⟨_, rfl, World.ownsRow_nil _ _ _ _, (hb8.setCell (Nat.le_refl _) _).setCell (Nat.le_refl _) _⟩
        · have bm : ((l.length : Int) == 4096) = false := by rw [beq_eq_false_iff_ne]; omega
          go_wp2_with fail
          refine (rfield_any s p _ (by omega) hlt).mono ?_
          rintro e w1 ⟨rfl, hb1⟩
          have hzz := hb1.size
          have hlt0 : w.heap.size < w1.heap.size := by omega
          have hb3 := hb2.trans (hb1.mono (by omega))
          have hbel1 := hbel.trans (hb1.mono hz)
          have hown1 := own_keepF hb1 hown
          have c0' := (hb1.cell (p := ⟨w.heap.size, 0, none⟩) (by simp; omega)).trans c0
          have c1' := (hb1.cell (p := ⟨w.heap.size, 1, none⟩) (by simp; omega)).trans c1
          have f0' := (hb1.frozen (p := ⟨w.heap.size, 0, none⟩) (by simp; omega)).trans f0
          have f1' := (hb1.frozen (p := ⟨w.heap.size, 1, none⟩) (by simp; omega)).trans f1
          clear hb1 hb2 hbel hown c0 c1 f0 f1
          by_cases her : (rdFld s p).2.2 ≠ 0
          · have HR := hide (decF_bad hdec.out hf hlt hmany her)
            rw [rdFldV]
            generalize rdFld s p = r at *
            obtain ⟨x, en, er⟩ := r
            have be : ((er : Int) != 0) = true := by rw [bne_iff_ne]; simp at her; omega
            have hS1 : Started w w1 := ⟨hb3, hlt0, c0', c1', f0', f1'⟩
            clear c0' c1' f0' f1'
            go_wp2_with fail
            have hS := hS1.boxed (.cells #[.bool x.text, .int .i64 x.n, .string x.s] 77)
            refine (Fault_any p er _).mono ?_
            rintro r w9 ⟨rfl, hb9⟩
            obtain ⟨d0, d1, g0, g1, hb8⟩ := hS.behind hb9
            clear hb9
            go_wp2
            rw [HR.out]
            exact bodyPost_ret (v := .tuple #[.slice none 0 0, .agg #[.int .i64 p, .int .i64 er]]) (by simp [results, Try.results68, go_sem, d0, d1]) rfl ⟨_, rfl, World.ownsRow_nil _ _ _ _, (hb8.setCell (Nat.le_refl _) _).setCell (Nat.le_refl _) _⟩
          · have her' : (rdFld s p).2.2 = 0 := by omega
            obtain ⟨f', hf', HN'⟩ := decF_next hdec.out hf hlt hmany her'
            have HN := hide HN'
            have hok := rdFld_ok hlt her'
            clear HN' her hdec
            rw [rdFldV]
            generalize rdFld s p = r at *
            obtain ⟨x, en, er⟩ := r
            simp only at her' hf' hok HN
            subst her'
            go_wp2_with (at_builtin; refine wpList_append_own _ rfl (.tmp 34) (.tmp 36) 53 rfl (w.heap.size + 1) 77 i0 (.agg #[.bool false, .int .i64 0, .string ⟨#[]⟩]) 3 32 Try.underlying53 hi hz0 hz1 hz2 rfl (by decide) _ _ _ rfl ((hown1.alloc _).alloc _) ⟨w1.heap.size + 1, 0, none⟩ 1 1 [.bool x.text, .int .i64 x.n, .string x.s] rfl rfl ?c1 ?c2 ?c3 ?c4 ?c5 ?_)
            case c1 =>
              have h := three_new (w1.alloc (.cells #[.bool x.text, .int .i64 x.n, .string x.s] 77)) (.bool x.text) (.int .i64 x.n) (.string x.s) 77
              simpa using h
            case c2 => intro u hu; simp at hu; rcases hu with rfl | rfl | rfl <;> rfl
            case c3 => unfold maxLen; omega
            case c4 => omega
            case c5 => simp; omega
            intro v' w2 hown' hgrow _
            have hbel2 : Below (w.heap.size + 1) w0 w2 := ((hbel1.alloc (by omega) _).alloc (by simp; omega) _).grown hgrow (by simp; omega) (fun k hk => (hown1.lt k hk).1)
            have hown2 := own_field hown'
            clear hown' hgrow hown1 hbel1 hb3 c0' c1' f0' f1'
            go_wp2
            go_roundw
            case rel => exact ⟨en, f', l ++ [x], rfl, hok.2, hf', by simp; omega, HN.out, hown2, hbel2⟩
            case measure => simp [intOf]; omega
      · have HR := hide (decF_end hdec.out hlt)
        go_wp2
        rw [HR.out]
        exact bodyPost_ret (v := .tuple #[.slice a l.length cap, .agg #[.int .i64 0, .int .i64 0]]) (by simp [results, Try.results68, go_sem, c0, c1]) rfl ⟨_, rfl, own_mono (ownsRow_setCell_below (ownsRow_setCell_below hown (Nat.lt_succ_self _) _) (Nat.lt_succ_self _) _) (Nat.le_succ _), (hb2.setCell (Nat.le_refl _) _).setCell (Nat.le_refl _) _⟩

end Go.Proofs.Ytkjcfkninmmbhaa
