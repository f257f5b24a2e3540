/- Layer 15, plain: what a merge writes tells what the merge leaves. Layer 15: Merge and Append. -/
import Derived.Test.YtmpahgklcabihaaGreatBaCnf
import Derived.Laws.AppendOwnNone
namespace Go.Proofs.YtmpahgklcabihaaGreat.Ba
open Go.Proofs.YtmpahgklcabihaaGreat.Rl (En Lo Mf mcode nmb mfs hasBad mt mI mcode_ok mfs_lg)

theorem mfs_rise : ∀ (L : List (Nat × En)) (s : Mf), (L.foldl Mf.step s).st = false → s.st = false ∧ (s.t :: L.map (·.2.t)).Pairwise (· ≤ ·)
  | [], s, h => ⟨h, by simp⟩
  | x :: L, s, h => by
    obtain ⟨h1, h2⟩ := mfs_rise L (s.step x) h
    simp only [Mf.step, Bool.or_eq_false_iff, decide_eq_false_iff_not] at h1
    refine ⟨h1.1, ?_⟩
    have h3 : (x.2.t :: L.map (·.2.t)).Pairwise (· ≤ ·) := h2
    rw [List.map_cons, List.pairwise_cons]
    refine ⟨fun y hy => ?_, h3⟩
    rcases List.mem_cons.1 hy with rfl | hy
    · omega
    · have := (List.pairwise_cons.1 h3).1 y hy; omega
theorem nmb_terms (f : Nat) : ∀ l : List En, (nmb f l).map (·.2.t) = l.map En.t := fun l => by
  conv => rhs; rw [← Rl.map_nmb f l, List.map_map]
  rfl
theorem mt_at : ∀ (A fs : List En) (i : Nat) (_ : i < mt A fs) (h1 : i < A.length) (h2 : i < fs.length), A[i].t = fs[i].t
  | a :: A, f :: fs, i, h, h1, h2 => by
    rw [Rl.mt] at h
    split at h
    · rename_i e
      cases i with
      | zero => exact e
      | succ i => exact mt_at A fs i (by omega) (by simpa using h1) (by simpa using h2)
    · omega
  | [], _, _, _, h1, _ => by simp at h1
  | _ :: _, [], _, _, _, h2 => by simp at h2
theorem lt_take (es : List En) (p : Nat) (hp : p ≤ es.length) : lt (es.take p) = (⟨0, 0, es⟩ : Lo).tm p := by
  rw [← lt_tm]
  have hl : (⟨0, 0, es.take p⟩ : Lo).last = p := by unfold Lo.last; simp; omega
  rw [hl]
  unfold Lo.tm
  dsimp only
  split
  · rfl
  · rename_i h
    rw [List.getElem?_take, if_pos (by omega)]
/-- entries that follow are taken, one by one -/
theorem ens_ok (n t v : Int) (ht : t ≤ 1073741824) : ∀ (F A : List En), (∀ e ∈ F, 1 ≤ e.t ∧ e.t ≤ t ∧ e.d.size ≤ 4096) → (lt A :: F.map En.t).Pairwise (· ≤ ·) → Oks n ⟨t, v, A⟩ (F.map Rc.en) ∧ run ⟨t, v, A⟩ (F.map Rc.en) = ⟨t, v, A ++ F⟩
  | [], A, _, _ => by simp [Oks, run]
  | e :: F, A, h1, h2 => by
    have he := h1 e (List.mem_cons_self ..)
    rw [List.map_cons, List.pairwise_cons] at h2
    obtain ⟨h3, h4⟩ := ens_ok n t v ht F (A ++ [e]) (fun x hx => h1 x (List.mem_cons_of_mem _ hx)) (by rw [lt_snoc]; exact h2.2)
    rw [List.map_cons, Oks, run_cons]
    refine ⟨⟨⟨he.1, by omega, he.2.2⟩, ⟨he.2.1, h2.1 e.t (List.mem_cons_self ..)⟩, h3⟩, ?_⟩
    show run ⟨t, v, A ++ [e]⟩ _ = _
    rw [h4, List.append_assoc]; rfl
structure Mrg (n : Int) (s : Bl) (p : Nat) (fs : List En) (i c : Nat) (es' : List En) : Prop where
  res : s.lo.mrg p fs = (⟨0, 0, es'⟩, c)
  was : i + c = s.es.length
  le : i ≤ es'.length
  front : es'.take p = s.es.take p
  oks : Oks n s (cnl i c es')
  run : Ba.run s (cnl i c es') = ⟨s.t, s.v, es'⟩
  few : (cnl i c es').length ≤ fs.length + 1
  many : es'.length ≤ s.es.length + fs.length
theorem mrg_ok {n : Int} {s : Bl} (hs : s.Ok n) (p : Nat) (hp : p ≤ s.es.length) (fs : List En) (hf : ∀ e ∈ fs, e.t ≤ s.t) (hc : mcode (s.lo.tm p) (nmb (p + 1) fs) = 0) (hm : s.es.length ≤ 1048576) : ∃ i c es', Mrg n s p fs i c es' := by
  obtain ⟨hb, hst, hlg⟩ := mcode_ok hc
  have hrise := (mfs_rise _ _ hst).2
  rw [nmb_terms] at hrise
  have hrise : (s.lo.tm p :: fs.map En.t).Pairwise (· ≤ ·) := hrise
  have hmem : ∀ e ∈ fs, ∃ x ∈ nmb (p + 1) fs, x.2 = e := fun e he => by
    rw [← Rl.map_nmb (p + 1) fs] at he
    obtain ⟨x, hx, rfl⟩ := List.mem_map.1 he
    exact ⟨x, hx, rfl⟩
  have heach : ∀ e ∈ fs, 1 ≤ e.t ∧ e.t ≤ s.t ∧ e.d.size ≤ 4096 := fun e he => by
    obtain ⟨x, hx, rfl⟩ := hmem e he
    have h1 := (mfs_lg _ _ hlg x hx).1
    have h2 : ¬ Rl.bad x.2 := fun h => hb ⟨x, hx, h⟩
    unfold Rl.bad at h2
    exact ⟨by omega, hf _ he, h1⟩
  obtain ⟨m, hmt⟩ : ∃ m, mt (s.es.drop p) fs = m := ⟨_, rfl⟩
  have hm1 : p + m ≤ s.es.length := by have := Rl.mt_le1 (s.es.drop p) fs; rw [hmt, List.length_drop] at this; omega
  have hm2 : m ≤ fs.length := by have := Rl.mt_le2 (s.es.drop p) fs; rwa [hmt] at this
  by_cases hk : fs.length - m = 0
  · refine ⟨s.es.length, 0, s.es, ?_, rfl, Nat.le_refl _, rfl, ?_, ?_, ?_, by omega⟩
    · show mI s.lo p (mt (s.es.drop p) fs) fs (fs.length - mt (s.es.drop p) fs) = _
      rw [hmt, mI, if_pos hk]
    all_goals simp [cnl, Oks, Ba.run]
  · have hF : (fs.drop m).take (fs.length - m) = fs.drop m := List.take_of_length_le (by rw [List.length_drop]; omega)
    have hlt : lt (s.es.take (p + m)) = (s.lo.tm p :: fs.map En.t)[m]'(by simp; omega) := by
      cases m with
      | zero => rw [Nat.add_zero, lt_take _ _ hp]; rfl
      | succ j =>
        have h1 := mt_at (s.es.drop p) fs j (by omega) (by rw [List.length_drop]; omega) (by omega)
        rw [List.getElem_drop] at h1
        rw [List.getElem_cons_succ, List.getElem_map, ← h1, show p + (j + 1) = (p + j) + 1 by omega, List.take_succ_eq_append_getElem (by omega), lt_snoc]
    have hpw : (lt (s.es.take (p + m)) :: (fs.drop m).map En.t).Pairwise (· ≤ ·) := by
      have h1 := hrise.sublist (List.drop_sublist m _)
      rw [List.drop_eq_getElem_cons (by simp; omega), ← hlt, List.drop_succ_cons, ← List.map_drop] at h1
      exact h1
    obtain ⟨h3, h4⟩ := ens_ok n s.t s.v hs.t1 (fs.drop m) (s.es.take (p + m)) (fun e he => heach e (List.mem_of_mem_drop he)) hpw
    have hl : (s.es.take (p + m)).length = p + m := by rw [List.length_take]; omega
    have hdr : (s.es.take (p + m) ++ fs.drop m).drop (p + m) = fs.drop m := List.drop_left' hl
    have hcn : cnl (p + m) (s.es.length - (p + m)) (s.es.take (p + m) ++ fs.drop m) = (if 0 < s.es.length - (p + m) then [Rc.ct (p + m + 1)] else []) ++ (fs.drop m).map Rc.en := by rw [cnl, hdr]
    have hpre : Oks n s (if 0 < s.es.length - (p + m) then [Rc.ct (p + m + 1)] else []) ∧ Ba.run s (if 0 < s.es.length - (p + m) then [Rc.ct (p + m + 1)] else []) = ⟨s.t, s.v, s.es.take (p + m)⟩ := by
      split
      · refine ⟨⟨by show p + m + 1 ≤ 1048577; omega, ⟨by omega, by omega⟩, trivial⟩, ?_⟩
        simp [Ba.run, Rc.do]
      · rw [List.take_of_length_le (by omega)]
        exact ⟨trivial, rfl⟩
    refine ⟨p + m, s.es.length - (p + m), s.es.take (p + m) ++ fs.drop m, ?_, by omega, by rw [List.length_append, hl]; omega, ?_, ?_, ?_, ?_, ?_⟩
    · show mI s.lo p (mt (s.es.drop p) fs) fs (fs.length - mt (s.es.drop p) fs) = _
      rw [hmt, mI, if_neg hk, hF]
    · rw [List.take_append_of_le_length (by omega), List.take_take, Nat.min_eq_left (by omega)]
    · rw [hcn, Oks.append, hpre.2]; exact ⟨hpre.1, h3⟩
    · rw [hcn, run_append, hpre.2, h4]
    · rw [hcn, List.length_append, List.length_map, List.length_drop]
      split <;> simp <;> omega
    · rw [List.length_append, hl, List.length_drop]; omega
end Go.Proofs.YtmpahgklcabihaaGreat.Ba

namespace Go.Proofs.YtmpahgklcabihaaGreat.Ba
open Go.RowKit Go.Joins Go.Proofs.YtmpahgklcabihaaGreat.Gk
open Go.Proofs.YtmpahgklcabihaaGreat.Dk (St Bs)
open Go.Proofs.YtmpahgklcabihaaGreat.Rl (En Lo LH ER ptr blk eenc EnT EnsT noE en_info eenc_len eenc_one mcode nmb setL_at blk_own)

/-- append of entries that lie somewhere -/
theorem er_app {w : World} {v : Value} {l : List En} (h : ER w v l) (ad : Option Addr) (c : Nat) (fs : List En) (hf : Gk.Lies w eenc ad fs) (hnil : ad = none → c = 0) (hl : l.length + fs.length ≤ 2097154) (ty : TypeId) :
    ∃ a' cap w', (Builtin.append_ #[EnsT, EnsT] ty #[v, .slice ad fs.length c]).run Tryz.prog w = .ok (.slice a' (l.length + fs.length) cap) w' ∧ ER w' (.slice a' (l.length + fs.length) cap) (l ++ fs) ∧ w.grownBy w' (blk v) ∧
      ∀ g, blk (.slice a' (l.length + fs.length) cap) = some g → blk v = some g ∨ w.heap.size ≤ g := by
  obtain ⟨i0, hi, hz0, hz1, hz2⟩ := info_parts en_info
  cases ad with
  | none =>
    have hfs : fs = [] := by
      rcases hf with h | ⟨_, _, h, _⟩
      · exact h
      · cases h
    have hc := hnil rfl
    subst hfs hc
    obtain ⟨a, cap, rfl, hz, hcap, hmx⟩ := h.slice
    refine ⟨a, cap, w, ?_, by rw [List.append_nil]; exact h, grown_refl _ _, fun g hg => Or.inl hg⟩
    cases a with
    | none =>
      have := hz rfl
      subst this
      have hl0 : l.length = 0 := by omega
      simp [Builtin.append_, run_underlying Tryz.underlying53, sizeOf, typeInfo, hi, Builtin.lenOf, Builtin.firstCells, hl0]
    | some a => simp [Builtin.append_, run_underlying Tryz.underlying53, sizeOf, typeInfo, hi, Builtin.lenOf, Builtin.firstCells, hcap, storeCells]
  | some ad =>
    have hle : (rc eenc fs).length = fs.length * 2 := rc_length eenc_len fs
    have hnews : ∀ j u, (rc eenc fs)[j]? = some u → w.cell? (ad.add j) = some u := by
      rcases hf with rfl | ⟨b, off, e, _, hl⟩
      · intro j u hj; simp [rc] at hj
      · cases e
        intro j u hj
        rw [Go.WideShapes.add_plain]
        exact hl j u hj
    rcases h with ⟨rfl, rfl⟩ | ⟨g, o, cap, cur, rfl, hg, h1, h2, h3, h4⟩
    · obtain ⟨v', w', hr, h2, h3, _, h5⟩ := run_append_own_at (P := Tryz.prog) w 0 EnsT ty EnT i0 noE 2 24 Tryz.underlying53 hi hz0 hz1 hz2 rfl (by decide) (.slice none 0 0) 0 [] (World.ownsRow_nil w 0 EnT 2) ad fs.length c (rc eenc fs) hle hnews (rc_oneCell eenc_one fs) (by unfold maxLen; simp at hl; omega) (by simp at hl; omega) (Nat.zero_le _)
      obtain ⟨av, cv, rfl⟩ := own_slice h2
      refine ⟨av, cv, w', hr, ER.of_own (by simpa using h2), h3, fun g hg => ?_⟩
      have hg : blk (.slice av (0 + fs.length) cv) = some g := hg
      rw [blk_own h2] at hg
      rcases h5 with h5 | h5
      · rw [h5] at hg; cases hg
      · rw [h5] at hg; cases hg; exact Or.inr (Nat.le_refl _)
    · by_cases hroom : l.length + fs.length ≤ cap
      · have hr := run_append_room_cells (P := Tryz.prog) w EnsT ty EnT i0 Tryz.underlying53 hi g o l.length cap ad fs.length c (rc eenc fs) (by rw [hz1]; exact hle) hnews (rc_oneCell eenc_one fs) hroom
          (fun j hj => by rw [hle] at hj; rw [hz1, cell_of_block hg, Array.getElem?_eq_getElem (by omega)]; rfl) (fun j hj => by rw [unfrozen_of_block hg])
        refine ⟨_, _, _, hr, ?_, grown_setCells g _ _ w, fun k hk => Or.inl hk⟩
        refine Or.inr ⟨g, o, cap, _, by simp, block_setCells _ _ _ _ hg, by simp; omega, h2, by rw [setL_size]; exact h3, fun j u hj => ?_⟩
        rw [rc_append, List.getElem?_append, rc_length eenc_len] at hj
        rw [setL_at, hz1, hle]
        split at hj
        · rename_i hjl
          rw [if_neg (by omega)]; exact h4 j u hj
        · rename_i hjl
          have : j - l.length * 2 < fs.length * 2 := by have := (List.getElem?_eq_some_iff.1 hj).1; rwa [hle] at this
          rw [if_pos (by omega), show o + j - (o + l.length * 2) = j - l.length * 2 by omega]; exact hj
      · obtain ⟨v', w', hr, h5, h6⟩ := run_append_arg_grows (P := Tryz.prog) w EnsT ty EnT i0 noE 2 24 Tryz.underlying53 hi hz0 hz1 hz2 rfl (by decide) ⟨g, o, none⟩ l.length cap (rc eenc l) (rc_length eenc_len l)
          (fun j u hj => by rw [Go.WideShapes.add_plain, cell_of_block hg]; exact h4 j u hj) ad fs.length c (rc eenc fs) hle hnews (by omega) (by unfold maxLen; omega) (by omega)
        obtain ⟨av, cv, rfl⟩ := own_slice h5
        refine ⟨av, cv, w', hr, ER.of_own (by rw [rc_append]; exact h5), ⟨h6.os, h6.tape, h6.output, h6.size, fun k hk _ => h6.block k hk (by simp)⟩, fun k hk => ?_⟩
        rw [blk_own h5] at hk
        exact Or.inr (h5.lt k hk).1
theorem wpList_er {w : World} {ops : Array Oper} {rest : List Oper} {o : Oper} {a : Act} {Q : Exit → Act → World → Prop} (hgd : o.guard = none) (s x : Operand) (ho : o.op = .call { callee := .builtin .append, args := #[s, x], argTypes := #[EnsT, EnsT] })
    (v : Value) (l : List En) (hs : a.eval s = v) (her : ER w v l) (ad : Option Addr) (c : Nat) (fs : List En) (n : Nat) (hx : a.eval x = .slice ad n c) (hn : n = fs.length) (hf : Gk.Lies w eenc ad fs) (hnil : ad = none → c = 0) (hl : l.length + fs.length ≤ 2097154)
    (h : ∀ a' cap w', ER w' (.slice a' (l.length + fs.length) cap) (l ++ fs) → w.grownBy w' (blk v) → (∀ g, blk (.slice a' (l.length + fs.length) cap) = some g → blk v = some g ∨ w.heap.size ≤ g) → wpList Tryz.prog ops Q rest (a.put o.dst (.slice a' (l.length + fs.length) cap)) w') : wpList Tryz.prog ops Q (o :: rest) a w := by
  subst hn
  refine wpList_plain hgd fun K hK => ?_
  obtain ⟨a', cap, w', hr, h1, h2, h3⟩ := er_app her ad c fs hf hnil hl o.type
  unfold Oper.wp
  simp [execOp, ho, resolve, invoke, builtin, hs, hx, hr, Result.andThen]
  exact hK _ _ (h a' cap w' h1 h2 h3)

/-- what Merge does -/
def mgd (S : St) (s : Bl) (p : Nat) (fs : List En) : Int × Int × St × Bl :=
  if mcode (s.lo.tm p) (nmb (p + 1) fs) ≠ 0 then (0, mcode (s.lo.tm p) (nmb (p + 1) fs), S, s)
  else if (cnf S (cnl (s.es.length - (s.lo.mrg p fs).2) (s.lo.mrg p fs).2 (s.lo.mrg p fs).1.es)).1 = 0 then
    ((p + fs.length : Nat), 0, (cnf S (cnl (s.es.length - (s.lo.mrg p fs).2) (s.lo.mrg p fs).2 (s.lo.mrg p fs).1.es)).2, ⟨s.t, s.v, (s.lo.mrg p fs).1.es⟩)
  else (0, (cnf S (cnl (s.es.length - (s.lo.mrg p fs).2) (s.lo.mrg p fs).2 (s.lo.mrg p fs).1.es)).1, (cnf S (cnl (s.es.length - (s.lo.mrg p fs).2) (s.lo.mrg p fs).2 (s.lo.mrg p fs).1.es)).2, s)

section
variable {bb bd : Nat} {n : Int} {S : St} {s : Bl} {X : Nat → Prop}
set_option maxRecDepth 100000 in
set_option maxHeartbeats 8000000 in
theorem Merge_any (p : Nat) (a : Option Addr) (cap : Nat) (fs : List En) (w : World) (h : BB w bb bd n S s X) (hs : s.Ok n) (hm : s.es.length ≤ 1000000) (hp : p ≤ s.es.length) (hl : Gk.Lies w eenc a fs) (hfl : fs.length ≤ 60) (hf : ∀ e ∈ fs, e.t ≤ s.t)
    (hx : fs ≠ [] → ∀ b off, a = some ⟨b, off, none⟩ → ¬ X b) :
    Calls Tryz.prog 163 #[ptr bb, .int .i64 p, .int .i64 (s.lo.tm p), .slice a fs.length cap] w fun r w' => r = .returned (.tuple #[.int .i64 (mgd S s p fs).1, .int .i64 (mgd S s p fs).2.1]) ∧
      ∃ X', BB w' bb bd n (mgd S s p fs).2.2.1 (mgd S s p fs).2.2.2 X' ∧ Tu X X' w w' := by
  have HB := hide h
  have hes := hs.es (by omega)
  obtain ⟨bl, vl, D, hBH, rfl⟩ := h
  obtain ⟨_, _, _, _, c4⟩ := hBH.c
  have HF := hide (from_any bl s.es vl p w hBH.log hes hp)
  have hpw : IntKind.i64.wrap ((p : Int) + 1) = ((p + 1 : Nat) : Int) := by rw [wrap_in (by omega) (by omega)]; omega
  obtain ⟨p1, hp1⟩ : ∃ p1, p + 1 = p1 := ⟨_, rfl⟩
  rw [hp1] at HF hpw
  have HP1 := hide hp1
  obtain ⟨bh, hbh⟩ : ∃ bh, s.es.drop p = bh := ⟨_, rfl⟩
  have HBE := hide hbh
  have hbhl : bh.length ≤ 1000000 := by rw [← hbh, List.length_drop]; omega
  rw [hbh] at HF
  obtain ⟨tm, htm⟩ : ∃ tm, s.lo.tm p = tm := ⟨_, rfl⟩
  have HTM := hide htm
  rw [htm]
  have HBH := hide hBH
  clear hp1 htm hbh
  go_enter Tryz.func163, Tryz.ntmps163
  go_wp2_with fail
  refine HF.out.mono ?_
  clear HF
  rintro r w1 ⟨vb, rfl, hb1, hn1, hbl1⟩
  obtain ⟨ab, cb, rfl, hzb, _, _⟩ := hb1.slice
  obtain ⟨hBH1, hbo1⟩ := HBH.out.below hbl1
  have HL := hide (Rl.Last_any bl s.lo vl w1 hBH1.log (by show 0 + s.es.length ≤ _; omega))
  rw [show s.lo.last = s.es.length by show 0 + s.es.length = _; omega] at HL
  obtain ⟨_, _, _, _, c41⟩ := hBH1.c
  obtain ⟨lt0, hlt0⟩ : ∃ lt0, s.lo.tm s.es.length = lt0 := ⟨_, rfl⟩
  rw [hlt0] at HL
  clear c4 hlt0
  go_wp2_with fail
  refine HL.out.mono ?_
  clear HL
  rintro r w2 ⟨rfl, q, rfl⟩
  obtain ⟨W2, hW2⟩ : ∃ W2, w1.drewN q = W2 := ⟨_, rfl⟩
  have hbl2 : Below w1.heap.size w1 W2 := by rw [← hW2]; exact below_drewN (Below.refl _ w1) q
  rw [hW2]
  clear hW2 c41
  have hb02 := hbl1.trans (hbl2.mono hbl1.size)
  obtain ⟨hBH2, hbo2⟩ := HBH.out.below hb02
  have hl2 := hl.below hb02
  have hb2 := hb1.below hbl2
  obtain ⟨_, _, _, _, c42⟩ := hBH2.c
  have HB2 := hide hb2
  have HBH2 := hide hBH2
  have hlt02 := hb02.size
  clear hb1 hBH hBH1 hBH2 hb2 hbo1 hbl1 hbl2 hl
  refine (Classical.em (mcode tm (nmb p1 fs) = 0)).elim (fun hc => ?c1) (fun hc => ?c2)
  case c2 =>
    obtain ⟨c, hcc⟩ : ∃ c, mcode tm (nmb p1 fs) = c := ⟨_, rfl⟩
    rw [hcc] at hc
    have HM := hide (callsIn_wide.1 (Rl.merge_no bl s.lo vl p tm a cap fs W2 HBH2.out.log (by show 0 + s.es.length ≤ _; omega) hp (by rw [show s.lo.b + p = p from Nat.zero_add p]; exact HTM.out) hl2 (by omega) c (by rw [show s.lo.b + p = p from Nat.zero_add p, HP1.out]; exact hcc) hc))
    rw [show s.lo.b + p = p from Nat.zero_add p] at HM
    have HG := hide (show mgd S s p fs = (0, c, S, s) by rw [mgd, HTM.out, HP1.out, hcc, if_pos hc])
    have hc1 : (c == 0) = false := by simpa using hc
    clear hcc
    go_wp2_with fail
    refine HM.out.mono ?_
    rintro r w3 ⟨rfl, hb3⟩
    clear HM
    go_wp2
    go_ret2
    rw [HG.out]
    have hb03 := hb02.trans (hb3.mono hb02.size)
    exact ⟨rfl, _, HB.out.below hb03, Tu.of_below hb03⟩
  case c1 =>
    obtain ⟨i, cc, es', hM⟩ := mrg_ok hs p hp fs hf (by rw [HTM.out, HP1.out]; exact hc) (by omega)
    have HM := hide (callsIn_wide.1 (Rl.merge_in bl s.lo vl p tm a cap fs W2 HBH2.out.log (by show 0 + s.es.length ≤ _; omega) hp (by rw [show s.lo.b + p = p from Nat.zero_add p]; exact HTM.out) hl2 (by omega) (fun hne b off e ho => hx hne b off e (by rw [← hbo2]; exact Or.inr (Or.inr ho))) (by rw [show s.lo.b + p = p from Nat.zero_add p, HP1.out]; exact hc)))
    rw [show s.lo.b + p = p from Nat.zero_add p, hM.res] at HM
    dsimp only at HM
    have HG := hide (show mgd S s p fs = if (cnf S (cnl i cc es')).1 = 0 then (((p + fs.length : Nat) : Int), 0, (cnf S (cnl i cc es')).2, ⟨s.t, s.v, es'⟩) else (0, ((cnf S (cnl i cc es')).1 : Int), (cnf S (cnl i cc es')).2, s) by
      rw [mgd, HTM.out, HP1.out, hc, if_neg (by simp), hM.res]
      dsimp only
      rw [show s.es.length - cc = i by have := hM.was; omega])
    have hs1 : (⟨s.t, s.v, es'⟩ : Bl).Ok n := by rw [← hM.run]; exact hs.run hM.oks
    have hml := hM.many
    have hsz : (frs (cnl i cc es')).length ≤ 262144 := by
      have h1 := frs_few _ hM.oks.may
      have h2 := hM.few
      have h3 : 4138 * (cnl i cc es').length ≤ 4138 * 61 := Nat.mul_le_mul_left _ (by omega)
      omega
    have hwas := hM.was
    have hile := hM.le
    have HFR := hide hM.front
    clear hM hc
    go_wp2_with fail
    refine HM.out.mono ?_
    rintro r w3 ⟨rfl, ⟨v3, hL3⟩, hT3⟩
    clear HM c42
    obtain ⟨hBH3, hTu3⟩ := HBH2.out.turnL hL3 hT3
    have hz3 := hT3.only.size
    have hown2 : ∀ k, Rl.own W2 bl k → k < w.heap.size := fun k hk => by
      have : bo W2 bb bl D k := Or.inr (Or.inr hk)
      rw [hbo2] at this
      exact HBH.out.bolt this
    have hl3 : Gk.Lies w3 eenc a fs := by
      by_cases hfe : fs = []
      · exact Or.inl hfe
      · exact hl2.later (fun b off e hlt => hT3.only.block b hlt fun ho => hx hfe b off e (by rw [← hbo2]; exact Or.inr (Or.inr ho))) hz3
    have hnB : ∀ g, blk (.slice ab bh.length cb) = some g → w.heap.size ≤ g ∧ g < W2.heap.size ∧ ¬ bo w3 bb bl D g := fun g hg => by
      have h1 := hn1 g hg
      have h2 := HB2.out.lt hg
      refine ⟨h1, h2, ?_⟩
      rintro (e | e | e)
      · have := HBH.out.disk.lt g e; omega
      · have := HBH.out.lt; omega
      · rcases e with e | e
        · have := hown2 bl (Or.inl rfl); omega
        · rcases hT3.new g e with e | e
          · have := hown2 g (Or.inr e); omega
          · omega
    have hb3 : ER w3 (.slice ab bh.length cb) bh := HB2.out.stay fun g hg => hT3.only.block g (hnB g hg).2.1 fun ho => by have := hown2 g ho; have := (hnB g hg).1; omega
    have HC := hide (confirm_any a cap fs i cc w3 hBH3.pack hl3 (by omega) hf (hs1.es (by show es'.length ≤ _; omega)) hile (by omega) hsz)
    rw [hwas] at HC
    dsimp only at HC
    obtain ⟨R, hR⟩ : ∃ R, cnf S (cnl i cc es') = R := ⟨_, rfl⟩
    rw [hR] at HC HG
    have HTU := hide ((Tu.of_below (D := bo w bb bl D) hb02).trans (hbo2 ▸ hTu3))
    have HB3 := hide hb3
    have HNB := hide hnB
    clear hR hL3 hT3 hBH3 hTu3 hb3 hl3 hl2 hwas hile hnB hown2
    go_wp2_with fail
    refine HC.out.mono ?_
    rintro r w4 ⟨rfl, X4, hB4, hT4⟩
    clear HC
    obtain ⟨c, S4⟩ := R
    dsimp only at HG hB4 ⊢
    by_cases hc0 : c = 0
    · subst hc0
      rw [if_pos rfl] at HG
      go_wp2
      go_ret2
      rw [HG.out]
      exact ⟨rfl, X4, hB4, HTU.out.trans hT4⟩
    · have hc2 : ((c : Int) == 0) = false := by rw [beq_eq_false_iff_ne]; omega
      rw [if_neg hc0] at HG
      obtain ⟨bl4, v4, D4, hBH4, rfl⟩ := hB4
      obtain ⟨_, _, _, _, c44⟩ := hBH4.c
      have hb4 : ER w4 (.slice ab bh.length cb) bh := HB3.out.stay fun g hg => (hT4.stay (by have := HB3.out.lt hg; omega) (HNB.out g hg).2.2).1
      have HUp := hide (upto_any bl4 es' v4 p w4 hBH4.log (by omega) (fun e he => by have := (hs1.each e he).2.2; omega) (by have := congrArg List.length HFR.out; simp only [List.length_take] at this; omega))
      rw [HFR.out] at HUp
      have HB4 := hide hb4
      have HBH4 := hide hBH4
      clear hb4 hBH4
      go_wp2_with fail
      refine HUp.out.mono ?_
      rintro r w5 ⟨v5, rfl, h5, hn5, hb5⟩
      clear HUp c44
      obtain ⟨a5, c5, rfl, _⟩ := h5.slice
      have HL5 := hide ((HB4.out.below hb5).lies)
      have HTK := hide (show s.es.take p ++ bh = s.es by rw [← HBE.out, List.take_append_drop])
      have htl : (s.es.take p).length ≤ 1000000 := by rw [List.length_take]; omega
      generalize s.es.take p = tk at *
      have H5 := hide h5
      clear h5
      go_wp2_with (at_builtin; refine wpList_er rfl _ _ rfl _ tk rfl H5.out ab cb bh _ rfl rfl HL5.out hzb (by omega) ?_)
      intro a6 c6 w6 h6 hg6 hn6
      have hb6 : Below w4.heap.size w4 w6 := hb5.grown hg6 hb5.size fun k hk => hn5 k hk
      rw [HTK.out] at h6
      have hlen6 : tk.length + bh.length = s.es.length := by rw [← HTK.out, List.length_append]
      rw [hlen6] at h6 ⊢
      have HLO := hide (logOf_any a6 c6 s.es w6 h6.lies hes)
      clear hg6 hn6 h6 H5 HL5 hlen6
      go_wp2_with fail
      refine HLO.out.mono ?_
      rintro r w7 ⟨bl7, rfl, hM7⟩
      clear HLO
      obtain ⟨v7, hL7⟩ := hM7.log
      have hb7 : Below w4.heap.size w4 w7 := hb6.trans (hM7.bel.mono hb6.size)
      obtain ⟨hBH8, hTu8⟩ := HBH4.out.log' hb7 hL7 (fun k hk => Nat.le_trans hb6.size (hM7.new k hk))
      obtain ⟨hBH7, _⟩ := HBH4.out.below hb7
      obtain ⟨_, _, _, _, c47⟩ := hBH7.c
      have f47 := hBH7.fz 4
      have HB8 := hide hBH8.pack
      have HT8 := hide hTu8
      clear hBH8 hTu8 hBH7 hM7 hL7 hb7 hb6
      go_wp2
      go_ret2
      rw [HG.out]
      exact ⟨rfl, _, HB8.out, (HTU.out.trans hT4).trans HT8.out⟩

set_option maxRecDepth 100000 in
set_option maxHeartbeats 4000000 in
theorem Append_any (d : ByteArray) (w : World) (h : BB w bb bd n S s X) (hs : s.Ok n) (hm : s.es.length ≤ 1000000) :
    Calls Tryz.prog 119 #[ptr bb, .string d] w fun r w' => r = .returned (.tuple #[.int .i64 (mgd S s s.es.length [⟨s.t, d⟩]).1, .int .i64 (mgd S s s.es.length [⟨s.t, d⟩]).2.1]) ∧
      ∃ X', BB w' bb bd n (mgd S s s.es.length [⟨s.t, d⟩]).2.2.1 (mgd S s s.es.length [⟨s.t, d⟩]).2.2.2 X' ∧ Tu X X' w w' := by
  obtain ⟨bl, vl, c0, c1, c2, c3, c4, hlog⟩ := h.cells
  have HL := hide (Rl.Last_any bl s.lo vl w hlog (by show 0 + s.es.length ≤ _; omega))
  rw [show s.lo.last = s.es.length by show 0 + s.es.length = _; omega] at HL
  have HM := hide (fun W1 (hb : Below w.heap.size w W1) => Merge_any (bb := bb) (bd := bd) (S := S) (X := X) s.es.length (some ⟨W1.heap.size, 0, none⟩) 1 [⟨s.t, d⟩] (W1.alloc (.cells #[.int .i64 s.t, .string d] EnT)) (h.below (hb.alloc hb.size _)) hs hm (Nat.le_refl _)
    (Or.inr ⟨W1.heap.size, 0, rfl, by simp, fun j u hj => by rw [rc_one] at hj; rw [Nat.zero_add, cell_of_block (heap_alloc_new W1 _)]; simpa [eenc] using hj⟩) (by simp) (by simp) (fun _ b off e hX => by
      cases e
      have := h.lt hX
      have := hb.size
      omega))
  simp only [List.length_singleton] at HM
  generalize mgd S s s.es.length [⟨s.t, d⟩] = R at *
  generalize s.lo.tm s.es.length = tm at *
  clear c0 c1 c3 hlog
  go_enter Tryz.func119, Tryz.ntmps119
  go_wp2_with fail
  refine HL.out.mono ?_
  rintro r w1 ⟨rfl, q, rfl⟩
  obtain ⟨W1, hW1⟩ : ∃ W1, w.drewN q = W1 := ⟨_, rfl⟩
  have hb1 : Below w.heap.size w W1 := by rw [← hW1]; exact below_drewN (Below.refl _ w) q
  rw [hW1]
  clear hW1 HL c4 c2
  obtain ⟨_, _, _, _, c2, _, _, _⟩ := (h.below hb1).cells
  have HM1 := hide (HM.out W1 hb1)
  clear HM
  go_wp2_with fail
  refine HM1.out.mono ?_
  rintro r w2 ⟨rfl, X2, hB2, hT2⟩
  go_wp2
  go_ret2
  exact ⟨rfl, X2, hB2, (Tu.of_below (hb1.alloc hb1.size _)).trans hT2⟩
end
end Go.Proofs.YtmpahgklcabihaaGreat.Ba
