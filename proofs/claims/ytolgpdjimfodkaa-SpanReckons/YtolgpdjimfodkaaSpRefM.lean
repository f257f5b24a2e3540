/- Walks over the document's answer: in, made. -/
import Derived.Test.YtolgpdjimfodkaaSpRefE
import Derived.Test.YtolgpdjimfodkaaSpHasL
namespace Go.Proofs.Ytolgpdjimfodkaa.Sp
open Go.RowKit Go.Joins Gk

set_option maxHeartbeats 1600000 in
theorem in_kOr (a b : Option Addr) (ca cb : Nat) (la lb : List Sp) (key : ByteArray) (w : World) (hla : Lies w senc a la) (hlb : Lies w senc b lb) (ha : la.length ≤ 200000) (hb : lb.length ≤ 200000) :
    Calls Try.prog 40 #[.slice a la.length ca, .slice b lb.length cb, .string key, .int .i64 0] w fun e w' => e = .returned (.bool (kOr (hasL la key) (hasL lb key))) ∧ Below w.heap.size w w' := by
  have h1 := rHas_any key a ca la w hla (by omega)
  have h2 := fun W (h : Below w.heap.size w W) => rHas_any key b cb lb W (hlb.below h) (by omega)
  generalize hasL la key = x at *
  generalize hasL lb key = y at *
  go_enter Try.func40, Try.ntmps40
  go_wp2_with fail
  refine h1.mono ?_
  rintro e w1 ⟨rfl, hb1⟩
  go_wp2_with fail
  refine (h2 _ hb1).mono ?_
  rintro e w2 ⟨rfl, hb2⟩
  have hB := hb1.trans (hb2.mono hb1.size)
  clear h1 h2 hb1 hb2
  go_wp2
  all_goals
    go_ret
    exact ⟨by cases x <;> cases y <;> first | rfl | simp_all, hB⟩
set_option maxHeartbeats 1600000 in
theorem in_kAnd (a b : Option Addr) (ca cb : Nat) (la lb : List Sp) (key : ByteArray) (w : World) (hla : Lies w senc a la) (hlb : Lies w senc b lb) (ha : la.length ≤ 200000) (hb : lb.length ≤ 200000) :
    Calls Try.prog 40 #[.slice a la.length ca, .slice b lb.length cb, .string key, .int .i64 1] w fun e w' => e = .returned (.bool (kAnd (hasL la key) (hasL lb key))) ∧ Below w.heap.size w w' := by
  have h1 := rHas_any key a ca la w hla (by omega)
  have h2 := fun W (h : Below w.heap.size w W) => rHas_any key b cb lb W (hlb.below h) (by omega)
  generalize hasL la key = x at *
  generalize hasL lb key = y at *
  go_enter Try.func40, Try.ntmps40
  go_wp2_with fail
  refine h1.mono ?_
  rintro e w1 ⟨rfl, hb1⟩
  go_wp2_with fail
  refine (h2 _ hb1).mono ?_
  rintro e w2 ⟨rfl, hb2⟩
  have hB := hb1.trans (hb2.mono hb1.size)
  clear h1 h2 hb1 hb2
  go_wp2
  all_goals
    go_ret
    exact ⟨by cases x <;> cases y <;> first | rfl | simp_all, hB⟩
set_option maxHeartbeats 1600000 in
theorem in_kNot (a b : Option Addr) (ca cb : Nat) (la lb : List Sp) (key : ByteArray) (w : World) (hla : Lies w senc a la) (hlb : Lies w senc b lb) (ha : la.length ≤ 200000) (hb : lb.length ≤ 200000) :
    Calls Try.prog 40 #[.slice a la.length ca, .slice b lb.length cb, .string key, .int .i64 2] w fun e w' => e = .returned (.bool (kNot (hasL la key) (hasL lb key))) ∧ Below w.heap.size w w' := by
  have h1 := rHas_any key a ca la w hla (by omega)
  have h2 := fun W (h : Below w.heap.size w W) => rHas_any key b cb lb W (hlb.below h) (by omega)
  generalize hasL la key = x at *
  generalize hasL lb key = y at *
  go_enter Try.func40, Try.ntmps40
  go_wp2_with fail
  refine h1.mono ?_
  rintro e w1 ⟨rfl, hb1⟩
  go_wp2_with fail
  refine (h2 _ hb1).mono ?_
  rintro e w2 ⟨rfl, hb2⟩
  have hB := hb1.trans (hb2.mono hb1.size)
  clear h1 h2 hb1 hb2
  go_wp2
  all_goals
    go_ret
    exact ⟨by cases x <;> cases y <;> first | rfl | simp_all, hB⟩

theorem rc_to (l : List Sp) (f q : ByteArray) : (rc senc (l ++ [⟨f, nix⟩])).set (l.length * 2 + 1) (.string q) = rc senc (l ++ [⟨f, q⟩]) := by
  have hl : (rc senc l).length = l.length * 2 := rc_length senc_len l
  rw [rc_append, rc_append, rc_one, rc_one, List.set_append_right _ _ (by omega), hl, Nat.add_sub_cancel_left]
  rfl
theorem own_to {w : World} {B g n cap : Nat} {l : List Sp} {f : ByteArray} (q : ByteArray) (hn : n = l.length + 1) (h : w.ownsRow B SpT 2 (.slice (some ⟨g, 0, none⟩) n cap) n (rc senc (l ++ [⟨f, nix⟩]))) :
    (w.setCell ⟨g, l.length * 2 + 1, none⟩ (.string q)).ownsRow B SpT 2 (.slice (some ⟨g, 0, none⟩) n cap) n (rc senc (l ++ [⟨f, q⟩])) := by
  refine ⟨?_, ?_⟩
  · rw [rc_length senc_len, List.length_append]; simp [hn]
  · rcases h.2 with ⟨e1, _⟩ | ⟨g', cap', cur, e1, h1, h2, h3, h4, h5, h6⟩
    · cases e1
    · cases e1
      refine .inr ⟨g, cap, _, rfl, h1, block_setCell h2 _, h3, h4, by simp [h5], ?_⟩
      rw [← rc_to, ← h6]
      simp only [Array.toList_setIfInBounds, List.take_set]

/-- what the turn leaves, as a list -/
theorem own_cell {w : World} {B e size n cap g : Nat} {l : List Value} (h : w.ownsRow B e size (.slice (some ⟨g, 0, none⟩) n cap) n l) (i : Nat) (u : Value) (hi : l[i]? = some u) : w.cell? ⟨g, i, none⟩ = some u := by
  rcases h.2 with ⟨e1, _⟩ | ⟨g', c', cur, e1, _, h2, _, _, _, h6⟩
  · cases e1
  · cases e1
    rw [cell_of_block h2, ← Array.getElem?_toList]
    rw [← h6, List.getElem?_take] at hi
    split at hi
    · exact hi
    · cases hi
theorem own_unfrozen {w : World} {B e size n cap g : Nat} {l : List Value} (h : w.ownsRow B e size (.slice (some ⟨g, 0, none⟩) n cap) n l) (i : Nat) : w.frozen? ⟨g, i, none⟩ = false := by
  rcases h.2 with ⟨e1, _⟩ | ⟨g', c', cur, e1, _, h2, _⟩
  · cases e1
  · cases e1; exact unfrozen_of_block h2 i
abbrev n1_le (l : List Sp) (k : Nat) : Prop := l.length ≤ k
theorem fin_keep {w : Wr} {k : Bool} {p : ByteArray} (h : k = w.kp) : (w.turn k p).fin = w.fin ∧ (w.turn k p).kp = k := by
  unfold Wr.turn; rw [if_pos h]; exact ⟨rfl, h.symm⟩
theorem fin_open {w : Wr} {p : ByteArray} (h : w.kp = false) : (w.turn true p).fin = w.fin ++ [⟨p, nix⟩] ∧ (w.turn true p).kp = true := by
  unfold Wr.turn Wr.fin; rw [h]; simp
theorem fin_shut {w : Wr} {p : ByteArray} (h : w.kp = true) : w.fin = w.out ++ [⟨w.fr, nix⟩] ∧ (w.turn false p).fin = w.out ++ [⟨w.fr, p⟩] ∧ (w.turn false p).kp = false := by
  unfold Wr.turn Wr.fin; rw [h]; simp

set_option maxHeartbeats 6400000 in
set_option maxRecDepth 100000 in
theorem rMade_any {K : Bool → Bool → Bool} (h0 : K false false = false) (how : Int) (a b : Option Addr) (ca cb : Nat) (la lb : List Sp) (w : World) (hla : Lies w senc a la) (hlb : Lies w senc b lb) (hma : MayL la) (hmb : MayL lb) (hn : la.length + lb.length ≤ 2048)
    (hin : ∀ key W, Below w.heap.size w W → Calls Try.prog 40 #[.slice a la.length ca, .slice b lb.length cb, .string key, .int .i64 how] W fun e w' => e = .returned (.bool (K (hasL la key) (hasL lb key))) ∧ Below W.heap.size W w') :
    Calls Try.prog 29 #[.slice a la.length ca, .slice b lb.length cb, .int .i64 how] w fun e w' => ∃ v', e = .returned v' ∧ w'.ownsRow w.heap.size SpT 2 v' (nrm K la lb).length (rc senc (nrm K la lb)) ∧ Below w.heap.size w w' := by
  have hE := rEnds_any a b ca cb la lb w hla hlb (by omega)
  have HU := hide (fun r (hS : SrtL (endsT (la ++ lb)) r) => mk_nrm h0 hma hmb hS.ris (has_of_srt hS fun s hs => List.mem_append_left _ hs) (has_of_srt hS fun s hs => List.mem_append_right _ hs))
  have hel := endsT_len (la ++ lb)
  rw [List.length_append] at hel
  obtain ⟨KK, hKK⟩ : ∃ KK : ByteArray → Bool, KK = fun t => K (hasL la t) (hasL lb t) := ⟨_, rfl⟩
  have hin' : ∀ key W, Below w.heap.size w W → Calls Try.prog 40 #[.slice a la.length ca, .slice b lb.length cb, .string key, .int .i64 how] W fun e w' => e = .returned (.bool (KK key)) ∧ Below W.heap.size W w' := by rw [hKK]; exact hin
  rw [← hKK] at HU
  generalize nrm K la lb = N at *
  clear hin hKK h0 hma hmb hla hlb
  go_enter Try.func29, Try.ntmps29
  go_wp2_with fail
  refine hE.mono ?_
  rintro e w1 ⟨a1, c1, r, rfl, hT, hS, hb1⟩
  have hrl := hS.len
  have HN := hide (HU.out r hS)
  clear hE HU hS
  go_wp2
  go_loopw [8, 9, 10] (fun v ov iv wr => ∃ (k : Nat), k ≤ r.length ∧ iv = .int .i64 k ∧ ov = .bool (mk KK (r.take k)).kp ∧ (∃ n1, n1 = (mk KK (r.take k)).fin.length ∧ wr.ownsRow w1.heap.size SpT 2 v n1 (rc senc (mk KK (r.take k)).fin)) ∧ n1_le (mk KK (r.take k)).fin k ∧ Below w1.heap.size w1 wr) (fun _ _ iv _ => r.length - (intOf iv).toNat)
  case atStart => exact ⟨0, Nat.zero_le _, rfl, rfl, ⟨0, rfl, World.ownsRow_nil _ _ _ _⟩, Nat.le_refl _, Below.refl _ _⟩
  case round =>
    obtain ⟨k, hk, rfl, rfl, ⟨n1, hn1, ho⟩, hle, hb⟩ := hrel
    by_cases hlt : k < r.length
    · obtain ⟨b1, off, rfl, hbl, hc⟩ := (hT.lies.below hb).at tenc_len k hlt
      have c0 := hc 0 _ rfl
      rw [Nat.mul_one, Nat.add_zero] at c0
      have HT := hide (show mk KK (r.take (k + 1)) = (mk KK (r.take k)).turn (KK r[k]) r[k] by rw [List.take_succ_eq_append_getElem hlt, mk_snoc])
      have hi := hin' r[k] wr (hb1.trans (hb.mono hb1.size))
      obtain ⟨p, hp⟩ : ∃ p, r[k] = p := ⟨_, rfl⟩
      rw [hp] at c0 HT hi
      obtain ⟨X, hX⟩ : ∃ X, mk KK (r.take k) = X := ⟨_, rfl⟩
      rw [hX] at HT hn1 ho hle ⊢
      subst hn1
      obtain ⟨av, cv, rfl⟩ := own_slice ho
      have j0 : (0 : Int) ≤ (k : Int) := by omega
      have j1 : (k : Int) < (r.length : Int) := by omega
      have hle' : X.fin.length ≤ k := hle
      clear hc hp hX hle
      have HO := hide ho
      cases hk1 : KK p with
      | true =>
        cases hk2 : X.kp with
        | true =>
          obtain ⟨f1, f2⟩ := fin_keep (w := X) (k := true) (p := p) hk2.symm
          have HF := hide (show (mk KK (r.take (k + 1))).fin = X.fin ∧ (mk KK (r.take (k + 1))).kp = true by rw [HT.out, hk1]; exact ⟨f1, f2⟩)
          rw [hk1] at hi
          have HK := hide hk1
          have HK2 := hide hk2
          clear f1 f2 HT hk1 ho
          go_wp2_with (go_at_call 40; refine hi.mono ?_; rintro e w3 ⟨rfl, hb3⟩)
          go_roundw
          case rel => exact ⟨k + 1, by omega, by go_num, by rw [HF.out.2], ⟨_, by rw [HF.out.1], by rw [HF.out.1]; exact own_below HO.out hb3⟩, by show _ ≤ _; rw [HF.out.1]; omega, hb.trans (hb3.mono hb.size)⟩
          case measure => simp [intOf]; omega
        | false =>
          obtain ⟨f1, f2⟩ := fin_open (w := X) (p := p) hk2
          have HF := hide (show (mk KK (r.take (k + 1))).fin = X.fin ++ [⟨p, nix⟩] ∧ (mk KK (r.take (k + 1))).kp = true by rw [HT.out, hk1]; exact ⟨f1, f2⟩)
          rw [hk1] at hi
          have HK := hide hk1
          clear f1 f2 HT hk1 ho
          go_wp2_with fail
          refine hi.mono ?_
          rintro e w3 ⟨rfl, hb3⟩
          replace c0 := (hb3.cell (p := ⟨b1, off + k, none⟩) hbl).trans c0
          replace HO := hide (own_below HO.out hb3)
          replace hb := hb.trans (hb3.mono hb.size)
          clear hi hb3
          have hz := hb.size
          go_wp2_with (at_builtin; refine wpList_push (enc := senc) (k := 2) rfl (.tmp 34) (.tmp 40) 22 rfl SpT (.agg #[.string ⟨#[]⟩, .string ⟨#[]⟩]) 32 Try.underlying22 sp_info rfl (by decide) senc_len senc_one w1.heap.size _ X.fin rfl (own_below HO.out (below_alloc1 w3 _)) w3.heap.size ⟨p, nix⟩ rfl (heap_alloc_new w3 _) (by omega) (by omega) (by simp; omega) ?_; intro v4 w4 ho4 hg4 hat4; obtain ⟨a4, d4, rfl⟩ := own_slice ho4; have HO4 := hide ho4; have hB4 := hide ((hb.alloc hz _).grown hg4 (by simp; omega) (fun k hk => (HO.out.lt k hk).1)); simp only [List.length_append, List.length_cons, List.length_nil, Nat.zero_add] at HO4; clear ho4 hg4 hat4)
          go_roundw
          case rel => exact ⟨k + 1, by omega, by go_num, by rw [HF.out.2], ⟨X.fin.length + 1, by rw [HF.out.1, List.length_append]; rfl, by rw [HF.out.1]; exact HO4.out⟩, by show _ ≤ _; rw [HF.out.1, List.length_append]; simp; omega, hB4.out⟩
          case measure => simp [intOf]; omega
      | false =>
        cases hk2 : X.kp with
        | true =>
          obtain ⟨f0, f1, f2⟩ := fin_shut (w := X) (p := p) hk2
          have HF := hide (show (mk KK (r.take (k + 1))).fin = X.out ++ [⟨X.fr, p⟩] ∧ (mk KK (r.take (k + 1))).kp = false by rw [HT.out, hk1]; exact ⟨f1, f2⟩)
          rw [hk1] at hi
          have HK := hide hk1
          have hlx : X.fin.length = X.out.length + 1 := by rw [f0, List.length_append]; rfl
          rw [f0, show (X.out ++ [(⟨X.fr, nix⟩ : Sp)]).length = X.out.length + 1 by rw [List.length_append]; rfl] at ho
          rw [hlx]
          rw [hlx] at hle'
          clear f0 f1 f2 HT hk1 HO hlx
          obtain ⟨g, cap', cur, ev, -, -, -, -, -⟩ := own_form ho (by omega)
          cases ev
          have HO := hide ho
          clear ho
          go_wp2_with fail
          refine hi.mono ?_
          rintro e w3 ⟨rfl, hb3⟩
          replace c0 := (hb3.cell (p := ⟨b1, off + k, none⟩) hbl).trans c0
          replace HO := hide (own_below HO.out hb3)
          replace hb := hb.trans (hb3.mono hb.size)
          clear hi hb3
          have q0 := own_cell HO.out (X.out.length * 2 + 1) (.string nix) (by rw [rc_at senc_len _ X.out.length (by simp) 1 (by omega)]; simp [senc])
          have q1 := own_unfrozen HO.out (X.out.length * 2 + 1)
          have q2 : IntKind.i64.wrap ((X.out.length : Int) + 1 - 1) = (X.out.length : Int) := by rw [IntKind.wrap_i64]; omega
          have q2' : IntKind.i64.wrap (X.out.length : Int) = (X.out.length : Int) := by rw [IntKind.wrap_i64]; omega
          have q3 : (0 : Int) ≤ (X.out.length : Int) := by omega
          have q4 : (X.out.length : Int) < (X.out.length : Int) + 1 := by omega
          go_wp2
          go_roundw
          case rel => exact ⟨k + 1, by omega, by go_num, by rw [HF.out.2], ⟨X.out.length + 1, by rw [HF.out.1, List.length_append]; rfl, by rw [HF.out.1]; exact own_to p rfl HO.out⟩, by show _ ≤ _; rw [HF.out.1, List.length_append]; simp; omega, hb.setCell (HO.out.lt g rfl).1 _⟩
          case measure => simp [intOf]; omega
        | false =>
          obtain ⟨f1, f2⟩ := fin_keep (w := X) (k := false) (p := p) hk2.symm
          have HF := hide (show (mk KK (r.take (k + 1))).fin = X.fin ∧ (mk KK (r.take (k + 1))).kp = false by rw [HT.out, hk1]; exact ⟨f1, f2⟩)
          rw [hk1] at hi
          have HK := hide hk1
          have HK2 := hide hk2
          clear f1 f2 HT hk1 ho
          go_wp2_with (go_at_call 40; refine hi.mono ?_; rintro e w3 ⟨rfl, hb3⟩)
          go_roundw
          case rel => exact ⟨k + 1, by omega, by go_num, by rw [HF.out.2], ⟨_, by rw [HF.out.1], by rw [HF.out.1]; exact own_below HO.out hb3⟩, by show _ ≤ _; rw [HF.out.1]; omega, hb.trans (hb3.mono hb.size)⟩
          case measure => simp [intOf]; omega
    · obtain rfl : k = r.length := by omega
      rw [List.take_length, HN.out] at hn1 ho
      subst hn1
      go_wp2
      go_ret
      exact ⟨_, rfl, own_mono ho hb1.size, hb1.trans (hb.mono hb1.size)⟩

end Go.Proofs.Ytolgpdjimfodkaa.Sp
