/- Layer 12: what copying comes to. Layer 12: a walk over sweep.go: Copy. -/
import Derived.Test.YtgfmnffaknmcnaaGreatDoorSwSet
import Derived.Test.YtgfmnffaknmcnaaGreatDoorSwSwg
import Derived.Test.YtgfmnffaknmcnaaGreatDoorVlSafeP
namespace Go.Proofs.YtgfmnffaknmcnaaGreatDoor.Sw
open Go.RowKit Go.Joins Go.Sort Go.Maps Gk
open Go.Proofs.YtgfmnffaknmcnaaGreatDoor.Dk (St Rising getL fileOr)
open Go.Proofs.YtgfmnffaknmcnaaGreatDoor.Vl (VH Up nums dat putS In Cln Stp wi PlT nm)

/-- a place of numbers -/
abbrev Np : Type := Nat × Nat × Nat
def toPc (p : Np) : Pc := ((p.1 : Int), (p.2.1 : Int), (p.2.2 : Int))
theorem toPc_inj {p q : Np} (h : toPc p = toPc q) : p = q := by
  simp only [toPc, Prod.mk.injEq] at h
  exact Prod.ext (by omega) (Prod.ext (by omega) (by omega))
/-- a value that stands there is synced -/
def Sfe (S : St) (p : Np) : Prop := ∃ f, getL (nm p.1) S.files = some f ∧ p.2.1 + p.2.2 + 8 ≤ f.safe
theorem In.one {S : St} {p : Np} {t t' : ByteArray} (h : In S p t) (h' : In S p t') : t = t' := by
  have e1 := h.get
  have e2 := h'.get
  rw [e1] at e2
  exact (Prod.mk.inj e2).1
theorem In.fit {S : St} {p : Np} {t : ByteArray} (h : In S p t) (ho : S.Ok) : Fit3 (toPc p) := by
  have h1 := h.le
  have h2 := Vl.dat_le ho (show p.1 ≤ 1048577 by have := h.2.1; omega)
  have h3 := h.2.1
  unfold toPc Fit3 I64
  simp only
  omega
theorem Sfe.put {S : St} {p : Np} {n : Nat} {s : ByteArray} (h : Sfe S p) (hr : Rising S.files) : Sfe (putS S n s) p := by
  obtain ⟨f, hf, hs⟩ := h
  by_cases e : nm p.1 = nm n
  · refine ⟨_, by rw [Vl.putS_get hr, if_pos e], ?_⟩
    simp only
    unfold fileOr
    rw [← e, hf]; exact hs
  · exact ⟨f, by rw [Vl.putS_get hr, if_neg e]; exact hf, hs⟩
/-- what copying has come to, behind some places -/
structure CpP (S0 S : St) (top0 top : Nat) (F : List Int) (Ls : List Pc) (ms : List Mv) : Prop where
  up : Up S
  cln : Cln S
  tops : ∀ n ∈ nums S, n ≤ top
  topk : top ≤ top0 + Ls.length
  keep : ∀ p t, In S0 p t → In S p t
  safe : ∀ p, Sfe S0 p → Sfe S p
  more : ∀ n ∈ nums S0, n ∈ nums S
  els : ∀ k, (∀ n, 1 ≤ n → n ≤ 1048576 → k ≠ nm n) → getL k S.files = getL k S0.files
  dom : ms.map (·.1) = Ls.filter fun p => decide (p.1 ∈ F)
  each : ∀ m ∈ ms, ∃ p q : Np, m = (toPc p, toPc q) ∧ (∃ t, In S0 p t) ∧ (∀ t, In S0 p t → In S q t) ∧ ∀ n ∈ nums S0, n ≤ q.1
theorem CpP.nil {S : St} {top : Nat} {F : List Int} (hu : Up S) (hc : Cln S) (ht : ∀ n ∈ nums S, n ≤ top) : CpP S S top top F [] [] :=
  ⟨hu, hc, ht, Nat.le_add_right _ _, fun _ _ h => h, fun _ h => h, fun _ h => h, fun _ _ => rfl, rfl, by simp⟩
theorem CpP.skip {S0 S : St} {top0 top : Nat} {F : List Int} {Ls : List Pc} {ms : List Mv} (h : CpP S0 S top0 top F Ls ms) {x : Pc} (hx : x.1 ∉ F) : CpP S0 S top0 top F (Ls ++ [x]) ms :=
  ⟨h.up, h.cln, h.tops, by have := h.topk; simp; omega, h.keep, h.safe, h.more, h.els, by rw [List.filter_append, h.dom]; simp [hx], h.each⟩
theorem CpP.put {S0 S : St} {top0 top n : Nat} {F : List Int} {Ls : List Pc} {ms : List Mv} (h : CpP S0 S top0 top F Ls ms) (hr : Rising S.files) {p : Np} {t : ByteArray} (hi : In S0 p t) (hs : t.size ≤ 65536) (hx : (p.1 : Int) ∈ F) (h1 : 1 ≤ n) (h2 : n ≤ top + 1) (h2' : n ≤ 1048576) (h3 : ∀ m ∈ nums S, m ≤ n) :
    CpP S0 (putS S n t) top0 (max top n) F (Ls ++ [toPc p]) (ms ++ [(toPc p, toPc (n, (dat S n).length, t.size))]) := by
  refine ⟨⟨h.up.fuse, h.up.down⟩, h.cln.put hr hs, fun m hm => ?_, ?_, fun p' t' h' => (h.keep p' t' h').put hr, fun p' h' => (h.safe p' h').put hr, fun m hm => (Vl.putS_nums hr h1 h2' m).2 (Or.inl (h.more m hm)), fun k hk => by rw [Vl.putS_get hr, if_neg (hk n h1 h2')]; exact h.els k hk, ?_, fun m hm => ?_⟩
  · rcases (Vl.putS_nums hr h1 h2' m).1 hm with hm | rfl
    · have := h.tops m hm; omega
    · omega
  · have := h.topk
    rw [List.length_append, List.length_singleton]; omega
  · rw [List.map_append, List.filter_append, h.dom]
    congr 1
    simp [toPc, hx]
  · rcases List.mem_append.1 hm with hm | hm
    · obtain ⟨p', q', e, ht', hg, hn⟩ := h.each m hm
      exact ⟨p', q', e, ht', fun t' h' => (hg t' h').put hr, hn⟩
    · refine ⟨p, (n, (dat S n).length, t.size), List.mem_singleton.1 hm, ⟨t, hi⟩, fun t' h' => ?_, fun m hm => h3 m (h.more m hm)⟩
      rw [In.one h' hi]
      exact In.new h.cln hr h1 h2' hs

end Go.Proofs.YtgfmnffaknmcnaaGreatDoor.Sw

namespace Go.Proofs.YtgfmnffaknmcnaaGreatDoor.Sw
open Go.RowKit Go.Joins Go.Sort Go.Maps Gk
open Go.Proofs.YtgfmnffaknmcnaaGreatDoor.Dk (St Rising getL fileOr)
open Go.Proofs.YtgfmnffaknmcnaaGreatDoor.Vl (VH Up nums dat putS In Cln Stp wi PlT nm)

/-- places that lie in a block that is not theirs -/
structure Aw (W : World) (O : Nat → Prop) (a : Option Addr) (l : List Pc) : Prop where
  lies : Lies W penc a l
  no : l ≠ [] → ∀ b off, a = some ⟨b, off, none⟩ → ¬ O b
theorem Aw.step {W W' : World} {O O' : Nat → Prop} {a : Option Addr} {l : List Pc} (h : Aw W O a l) (hs : Stp O O' W W') : Aw W' O' a l := by
  rcases h.lies with rfl | ⟨b, off, rfl, hlt, hl⟩
  · exact ⟨Or.inl rfl, fun h => absurd rfl h⟩
  · by_cases h0 : l = []
    · subst h0; exact ⟨Or.inl rfl, fun h => absurd rfl h⟩
    · have hn := h.no h0 b off rfl
      obtain ⟨e1, e2⟩ := hs.block hlt hn
      refine ⟨h.lies.later (fun b' off' e _ => by cases e; exact e1) hs.only.size, fun _ b' off' e => by cases e; exact e2⟩
theorem MapF.step {W W' : World} {O O' : Nat → Prop} {bm n : Nat} {f : Int → Option Value} (h : MapF intKs W bm n f) (hn : ¬ O bm) (hs : Stp O O' W W') : MapF intKs W' bm n f ∧ ¬ O' bm := by
  obtain ⟨e1, e2⟩ := hs.block h.lt hn
  exact ⟨h.stay e1, e2⟩
theorem mv_info : (Tryz.prog.info? MvT).map (fun i => (i.zero, i.size, i.bytes)) = some (some (.agg #[.int .i64 0, .int .i64 0, .int .i64 0, .int .i64 0, .int .i64 0, .int .i64 0]), 6, 48) := by kernel_rfl

section
variable {w0 w : World} {own : Nat → Prop} {bd bv most top : Nat} {S : St}
/-- what Copy has, behind some places -/
structure CpL (B : Nat) (w0 w : World) (own : Nat → Prop) (bd bv most top : Nat) (S : St) (bm nm_ : Nat) (F : List Int) (aL : Option Addr) (L : List Pc) (k : Nat) (wr : World) (fv : Value) : Prop where
  out : ∃ (own' : Nat → Prop) (S' : St) (top' : Nat) (ms : List Mv), VH w0 wr own' bd bv most top' S' ∧ CpP S S' top top' F (L.take k) ms ∧ Stp (wi own bv) (wi own' bv) w wr ∧ MapF intKs wr bm nm_ (setF F) ∧ ¬ wi own' bv bm ∧ Aw wr (wi own' bv) aL L ∧ wr.ownsRow B MvT 6 fv ms.length (rc menc ms) ∧ ms.length ≤ k ∧ (∀ g, fv.ownBlock = some g → ¬ wi own' bv g) ∧ B ≤ wr.heap.size

/-- what Copy answers, where there was room -/
structure CpR (w0 w : World) (own : Nat → Prop) (bd bv most top : Nat) (S : St) (F : List Int) (l : List Pc) (w' : World) (f : Value) : Prop where
  out : ∃ (L : List Pc) (ms : List Mv) (own' : Nat → Prop) (S' : St) (top' : Nat), Onc l L ∧ VH w0 w' own' bd bv most top' S' ∧ CpP S S' top top' F L ms ∧ Stp (wi own bv) (wi own' bv) w w' ∧ w'.ownsRow w.heap.size MvT 6 f ms.length (rc menc ms) ∧ ms.length ≤ L.length ∧ ∀ g, f.ownBlock = some g → ¬ wi own' bv g
set_option maxHeartbeats 3200000 in
set_option maxRecDepth 100000 in
theorem Copy_any (h : VH w0 w own bd bv most top S) (hu : Up S) (hcl : Cln S) (htops : ∀ n ∈ nums S, n ≤ top) (ht : top ≤ 900000) (fa : Option Addr) (fc : Nat) (F : List Int) (al : Option Addr) (cl : Nat) (l : List Pc) (hF : Lies w nenc' fa F) (hFn : F.length ≤ 100000) (hFi : ∀ x ∈ F, I64 x) (hl : Lies w penc al l) (hln : l.length ≤ 4096) (hin : ∀ p ∈ l, ∃ (p' : Np) (t : ByteArray), p = toPc p' ∧ In S p' t) :
    Calls Tryz.prog 12 #[.pointer (some ⟨bv, 0, none⟩), .slice fa F.length fc, .slice al l.length cl] w fun e w' => ∃ v, e = .returned v ∧
      ((v = .tuple #[.slice none 0 0, .int .i64 22] ∧ Below w0.heap.size w0 w') ∨
       ∃ f, v = .tuple #[f, .int .i64 0] ∧ CpR w0 w own bd bv most top S F l w' f) := by
  have mixed : Tryz.prog.follows .mixedOrders = true := by kernel_rfl
  have hT := many_any al l.length cl w
  rw [decide_eq_false (by omega)] at hT
  have hS := setOf_any fa fc F w hF hFn hFi
  go_enter Tryz.func12, Tryz.ntmps12
  go_wp2_with fail
  refine hT.mono ?_
  rintro e w1 ⟨rfl, hw1⟩
  obtain rfl := hw1.symm
  clear hT
  go_wp2_with fail
  refine hS.mono ?_
  rintro e w2 ⟨bm, rfl, hbm, hM, hb2⟩
  have hI := inOrder_any al cl l w2 (hl.below hb2) hln
  clear hS
  go_wp2_with fail
  refine hI.mono ?_
  rintro e w3 ⟨v3, rfl, hr3, hb3⟩
  obtain ⟨L, aL, cL, hO, rfl, hL, hat3⟩ := hr3.out
  have hb03 := hb2.trans (hb3.mono hb2.size)
  have hLn : L.length ≤ 4096 := Nat.le_trans hO.len hln
  have hnew : ∀ b, w.heap.size ≤ b → ¬ wi own bv b := fun b hb e => by
    rcases e with e | e
    · have := (h.old b e).2; omega
    · have := h.lt; omega
  have hA3 : Aw w3 (wi own bv) aL L := ⟨hL, fun _ b off e => hnew b (Nat.le_trans hb2.size (hat3 b off e))⟩
  have hst3 : Stp (wi own bv) (wi own bv) w w3 := Stp.below hb03
  have HI : Hid (CpL w3.heap.size w0 w own bd bv most top S bm F.length F aL L 0 w3 (.slice none 0 0)) := ⟨own, S, top, [], h.below hb03, CpP.nil hu hcl htops, hst3, hM.below hb3, hnew bm hbm, hA3, World.ownsRow_nil _ _ _ _, Nat.le_refl _, by simp [Value.ownBlock], Nat.le_refl _⟩
  have HOO := hide hO
  have hbmB : bm < w3.heap.size := (hM.below hb3).lt
  have haB : L ≠ [] → ∀ b off, aL = some ⟨b, off, none⟩ → b < w3.heap.size := fun h0 b off e => by
    rcases hL with h1 | ⟨b', off', e', hlt', -⟩
    · exact absurd h1 h0
    · rw [e'] at e; cases e; exact hlt'
  have hz3 : w.heap.size ≤ w3.heap.size := hb03.size
  have hinL : ∀ p ∈ L, ∃ (p' : Np) (t : ByteArray), p = toPc p' ∧ In S p' t := fun p hp => hin p ((hO.mem p).1 hp)
  have HOK := hide h.ok
  have HW0 := hide h.base
  clear hI hr3 hA3 hst3 hM hb3 hL hO hin hl hF hb2 hb03 hnew hat3 h hu hcl htops
  go_wp2
  go_loopw [9, 24] (fun fv i wr => ∃ k : Nat, k ≤ L.length ∧ i = .int .i64 k ∧ CpL w3.heap.size w0 w own bd bv most top S bm F.length F aL L k wr fv) (fun _ i _ => L.length - (intOf i).toNat)
  case atStart => exact ⟨0, Nat.zero_le _, rfl, HI.out⟩
  case round =>
    clear HI
    obtain ⟨k, hk, rfl, hCL⟩ := hrel
    obtain ⟨own', S', top', ms, hV, hC, hst, hM, hbm', hA, hrow, hmsl, hmr, hzr⟩ := hCL.out
    by_cases hlt : k < L.length
    · obtain ⟨b, off, rfl, hbl, hc⟩ := hA.lies.at penc_len k hlt
      have i1 : (0 : Int) ≤ (k : Int) := by omega
      have i2 : (k : Int) < (L.length : Int) := by omega
      have c0 := hc 0 _ rfl
      have c1 := hc 1 _ rfl
      have c2 := hc 2 _ rfl
      rw [Nat.add_zero] at c0
      obtain ⟨p, t, hxp, hin⟩ := hinL L[k] (List.getElem_mem hlt)
      have htk : L.take (k + 1) = L.take k ++ [toPc p] := by rw [List.take_succ_eq_append_getElem hlt, hxp]
      rw [hxp] at c0 c1 c2
      replace c0 : wr.cell? ⟨b, off + k * 3, none⟩ = some (.int .i64 (p.1 : Int)) := c0
      replace c1 : wr.cell? ⟨b, off + k * 3 + 1, none⟩ = some (.int .i64 (p.2.1 : Int)) := c1
      replace c2 : wr.cell? ⟨b, off + k * 3 + 2, none⟩ = some (.int .i64 (p.2.2 : Int)) := c2
      have hin' := hC.keep p t hin
      have hfp := In.fit hin HOK.out
      obtain ⟨W1, hW1⟩ : ∃ W1, W1 = wr.alloc (.cells #[.int .i64 (p.1 : Int), .int .i64 (p.2.1 : Int), .int .i64 (p.2.2 : Int)] PT) := ⟨_, rfl⟩
      have hb1 : Below wr.heap.size wr W1 := by rw [hW1]; exact below_alloc1 _ _
      have hX1 : W1.heap[wr.heap.size]? = some (.cells #[.int .i64 (p.1 : Int), .int .i64 (p.2.1 : Int), .int .i64 (p.2.2 : Int)] PT (0, 0)) := by rw [hW1]; exact heap_alloc_new _ _
      have hH := has_any W1 (hM.below hb1) (p.1 : Int) hfp.1 (fun y v e => by unfold setF at e; split at e <;> simp_all)
      have HCL := hide (And.intro hV (And.intro hC (And.intro hst (And.intro hM (And.intro hbm' (And.intro hA (And.intro hrow (And.intro hmsl (And.intro hmr hzr)))))))))
      have HW1 := hide hW1
      have HT := hide htk
      have HIN := hide (And.intro hin hin')
      clear hc hCL hV hC hst hM hbm' hA hrow hmr hxp htk hin hin' hfp
      by_cases hpF : (p.1 : Int) ∈ F
      · rw [show (setF F (p.1 : Int)).isSome = true by simp [setF, hpF]] at hH
        go_wp2_with fail
        rw [← HW1.out]
        refine hH.mono ?_
        rintro e w2 ⟨rfl, hb2⟩
        have hX2 := keepBlk hb2 hX1
        have x0 : w2.cell? ⟨wr.heap.size, 0, none⟩ = some (.int .i64 (p.1 : Int)) := cell_of_block hX2 0
        have x1 : w2.cell? ⟨wr.heap.size, 1, none⟩ = some (.int .i64 (p.2.1 : Int)) := cell_of_block hX2 1
        have x2 : w2.cell? ⟨wr.heap.size, 2, none⟩ = some (.int .i64 (p.2.2 : Int)) := cell_of_block hX2 2
        have hb02 := hb1.trans (hb2.mono hb1.size)
        obtain ⟨W3, hW3⟩ : ∃ W3, W3 = w2.alloc (.cells #[.int .i64 (p.1 : Int), .int .i64 (p.2.1 : Int), .int .i64 (p.2.2 : Int)] PlT) := ⟨_, rfl⟩
        have hb3 : Below w2.heap.size w2 W3 := by rw [hW3]; exact below_alloc1 _ _
        have hX3 : W3.heap[w2.heap.size]? = some (.cells #[.int .i64 (p.1 : Int), .int .i64 (p.2.1 : Int), .int .i64 (p.2.2 : Int)] PlT (0, 0)) := by rw [hW3]; exact heap_alloc_new _ _
        have hb03 := hb02.trans (hb3.mono hb02.size)
        have htop : top' ≤ 1000000 := by have := HCL.out.2.1.topk; rw [List.length_take] at this; omega
        have hCp := copied_any (HCL.out.1.below hb03) HCL.out.2.1.up HCL.out.2.1.tops htop HIN.out.2
        have HX3 := hide hX3
        have HB3 := hide hb03
        have HW3 := hide hW3
        have HS2 := hide hb02.size
        clear hH hX1 hX2 hb1 hb2 hb02 hb3 hX3 hb03 hW3 c0 c1 c2
        go_wp2_with fail
        rw [← HW3.out]
        refine hCp.mono ?_
        rintro e w4 ⟨v4, rfl, own4, hst4, hcase⟩
        clear hCp x0 x1 x2
        have hX4 : w4.heap[w2.heap.size]? = some (.cells #[.int .i64 (p.1 : Int), .int .i64 (p.2.1 : Int), .int .i64 (p.2.2 : Int)] PlT (0, 0)) := by
          have hlt3 := (Array.getElem?_eq_some_iff.1 HX3.out).1
          refine (hst4.block hlt3 fun e => ?_).1.trans HX3.out
          have h2 := HS2.out
          rcases e with e | e
          · have := (HCL.out.1.old _ e).2; omega
          · have := HCL.out.1.lt; omega
        have y0 : w4.cell? ⟨w2.heap.size, 0, none⟩ = some (.int .i64 (p.1 : Int)) := cell_of_block hX4 0
        have y1 : w4.cell? ⟨w2.heap.size, 1, none⟩ = some (.int .i64 (p.2.1 : Int)) := cell_of_block hX4 1
        have y2 : w4.cell? ⟨w2.heap.size, 2, none⟩ = some (.int .i64 (p.2.2 : Int)) := cell_of_block hX4 2
        have hlt4 : w2.heap.size < w4.heap.size := (Array.getElem?_eq_some_iff.1 hX4).1
        have hne4 : ¬ w2.heap.size = w4.heap.size := by omega
        rcases hcase with ⟨n, rfl, h1, h2, h3, hV4⟩ | ⟨rfl, hV4⟩
        · obtain ⟨q, hq⟩ : ∃ q, (dat S' n).length = q := ⟨_, rfl⟩
          rw [hq]
          obtain ⟨WA, hWA⟩ : ∃ WA, WA = (w4.alloc (.cells #[.int .i64 (n : Int), .int .i64 (q : Int), .int .i64 (t.size : Int)] PlT)).alloc (.cells (menc (toPc p, toPc (n, q, t.size))).toArray MvT) := ⟨_, rfl⟩
          have hbA : Below w4.heap.size w4 WA := by rw [hWA]; exact (below_alloc1 w4 _).alloc (by simp) _
          have hnA : WA.heap[w4.heap.size + 1]? = some (.cells (menc (toPc p, toPc (n, q, t.size))).toArray MvT (0, 0)) := by
            rw [hWA]
            have := heap_alloc_new (w4.alloc (.cells #[.int .i64 (n : Int), .int .i64 (q : Int), .int .i64 (t.size : Int)] PlT)) (.cells (menc (toPc p, toPc (n, q, t.size))).toArray MvT)
            simpa using this
          have hrw4 := (HCL.out.2.2.2.2.2.2.1)
          have hr4 := ((Stp.below (O := wi own' bv) HB3.out).trans hst4).row hrw4 HCL.out.2.2.2.2.2.2.2.2.1
          have hrowA := Gk.own_below hr4.1 hbA
          have HQ := hide hq
          have HWA := hide hWA
          have HBA := hide hbA
          have HNA := hide hnA
          have HRA := hide (And.intro hrowA hr4)
          have hml := HCL.out.2.2.2.2.2.2.2.1
          have HV4 := hide (And.intro hV4 hst4)
          have HSZ : Hid (w3.heap.size ≤ w4.heap.size) := Nat.le_trans (Nat.le_trans (by have := HCL.out.2.2.2.2.2.2.2.2.2; omega) HB3.out.size) hst4.only.size
          clear hq hWA hbA hnA hrw4 hr4 hrowA hV4 hst4 hX4
          go_wp2_with (at_builtin; refine wpList_push (enc := menc) (k := 6) rfl (.tmp 43) (.tmp 47) 45 rfl MvT (.agg #[.int .i64 0, .int .i64 0, .int .i64 0, .int .i64 0, .int .i64 0, .int .i64 0]) 48 Tryz.underlying45 mv_info rfl (by decide) menc_len menc_one w3.heap.size _ ms rfl (by have := HRA.out.1; rw [HWA.out] at this; exact this) (w4.heap.size + 1) (toPc p, toPc (n, q, t.size)) rfl (by have := HNA.out; rw [HWA.out] at this; exact this) ?c1 ?c2 ?c3 ?_)
          case c1 => omega
          case c2 => omega
          case c3 => have := HSZ.out; simp; omega
          intro v9 w9 ho9 hg9 hat9
          have hg9' : WA.grownBy w9 u9.ownBlock := by rw [HWA.out]; exact hg9
          have hzA : WA.heap.size = w4.heap.size + 1 + 1 := by rw [HWA.out]; simp
          have ho9' : w9.ownsRow w3.heap.size MvT 6 v9 (ms ++ [(toPc p, toPc (n, q, t.size))]).length (rc menc (ms ++ [(toPc p, toPc (n, q, t.size))])) := by rw [List.length_append]; exact ho9
          have HF : Hid (CpL w3.heap.size w0 w own bd bv most top S bm F.length F (some ⟨b, off, none⟩) L (k + 1) w9 v9) := by
            obtain ⟨hV, hC, hst, hM, hbm', hA, hrow, hmsl, hmr, hzr⟩ := HCL.out
            obtain ⟨hV4, hst4⟩ := HV4.out
            have hst04 : Stp (wi own' bv) (wi own4 bv) wr w4 := (Stp.below (O := wi own' bv) HB3.out).trans hst4
            have hbA := HBA.out
            have hrA := HRA.out.1
            have hn4 := HRA.out.2.2
            have hgB : ∀ g, u9.ownBlock = some g → w3.heap.size ≤ g := fun g hg => (hrA.lt g hg).1
            have hM4 := MapF.step hM hbm' hst04
            have hA4 := hA.step hst04
            have hblk : ∀ x, x < w4.heap.size → (∀ g, u9.ownBlock = some g → g ≠ x) → w9.heap[x]? = w4.heap[x]? := fun x hx hne => (hg9'.block x (Nat.lt_of_lt_of_le hx hbA.size) fun e => hne x e.symm rfl).trans (hbA.block x hx)
            have hbase : w0.heap.size ≤ w3.heap.size := Nat.le_trans HW0.out.size hz3
            have hbe : Below w0.heap.size w0 w9 := hV4.base.trans ⟨hg9'.os.trans hbA.os, hg9'.tape.trans hbA.tape, hg9'.output.trans hbA.output, Nat.le_trans hbA.size hg9'.size, fun x hx => hblk x (Nat.lt_of_lt_of_le hx hV4.base.size) fun g hg e => by have := hgB g hg; omega⟩
            have hV9 : VH w0 w9 own4 bd bv most (max top' n) (putS S' n t) := ⟨hV4.disk.frame fun x hx ho => hblk x hx fun g hg e => hn4 g hg (by rw [e]; exact Or.inl ho), fun x hx => ⟨(hV4.old x hx).1, Nat.lt_of_lt_of_le (hV4.old x hx).2 (Nat.le_trans hbA.size hg9'.size)⟩, (hblk bv hV4.lt fun g hg e => hn4 g hg (by rw [e]; exact Or.inr rfl)).trans hV4.block, hV4.no, hV4.ge, hV4.env, hbe⟩
            have hst9 : Stp (wi own bv) (wi own4 bv) w w9 := by
              have h1 := hst.trans hst04
              exact ⟨h1.sub, h1.only.trans ⟨hg9'.os.trans hbA.os, hg9'.tape.trans hbA.tape, hg9'.output.trans hbA.output, Nat.le_trans hbA.size hg9'.size, fun x hx hnx => hblk x hx fun g hg e => hnx (Or.inr (by have := hgB g hg; omega))⟩⟩
            have hin := HIN.out.1
            have hts : t.size ≤ 65536 := by
              obtain ⟨-, -, xs, bb, ff, -, -, hm, -, -⟩ := hin
              exact hm t (by simp)
            have htopk := hC.topk
            rw [List.length_take] at htopk
            have hCP := hC.put hV.ok.rising hin hts hpF h1 h2 (by omega) h3
            rw [HQ.out, ← HT.out] at hCP
            refine ⟨own4, putS S' n t, max top' n, ms ++ [(toPc p, toPc (n, q, t.size))], hV9, hCP, hst9, hM4.1.stay (hblk bm hM4.1.lt fun g hg e => by have := hgB g hg; omega), hM4.2, ⟨hA4.lies.later (fun b' off' e hlt' => hblk b' hlt' fun g hg e2 => by
              have := hgB g hg
              have := haB (List.ne_nil_of_length_pos (by omega)) b' off' e
              omega) (Nat.le_trans hbA.size hg9'.size), hA4.no⟩, ho9', by rw [List.length_append, List.length_singleton]; omega, fun g hg => ?_, Nat.le_trans hzr (Nat.le_trans hst04.only.size (Nat.le_trans hbA.size hg9'.size))⟩
            rcases hat9 g hg with h | h
            · exact hn4 g h
            · intro e
              rcases e with e | e
              · have := (hV4.old g e).2; omega
              · have := hV4.lt; omega
          clear ho9'
          clear ho9 hg9 hat9
          go_wp2
          go_roundw
          case rel => exact ⟨k + 1, by omega, by go_num, HF.out⟩
          case measure => simp [intOf]; omega
        · have hbe := hV4.base
          clear hV4 hX4 hst4
          go_wp2
          go_ret2
          exact ⟨_, rfl, Or.inl ⟨rfl, hbe.trans ((below_alloc1 _ _).mono hbe.size)⟩⟩
      · rw [show (setF F (p.1 : Int)).isSome = false by simp [setF, hpF]] at hH
        go_wp2_with fail
        rw [← HW1.out]
        refine hH.mono ?_
        rintro e w2 ⟨rfl, hb2⟩
        have hb02 := hb1.trans (hb2.mono hb1.size)
        clear hH hX1 hb1 hb2 c0 c1 c2
        go_wp2
        go_roundw
        case rel =>
          obtain ⟨hV, hC, hst, hM, hbm', hA, hrow, hmsl, hmr, hzr⟩ := HCL.out
          have hsb : Stp (wi own' bv) (wi own' bv) wr w2 := Stp.below hb02
          refine ⟨k + 1, by omega, by go_num, ⟨own', S', top', ms, hV.below hb02, ?_, hst.trans hsb, hM.below hb02, hbm', hA.step hsb, Gk.own_below hrow hb02, by omega, hmr, Nat.le_trans hzr hb02.size⟩⟩
          rw [HT.out]
          exact hC.skip (x := toPc p) hpF
        case measure => simp [intOf]; omega
    · obtain rfl : k = L.length := by omega
      have i2 : ¬ (L.length : Int) < (L.length : Int) := by omega
      rw [List.take_length] at hC
      go_wp2
      go_ret2
      exact ⟨_, rfl, Or.inr ⟨_, rfl, ⟨L, ms, own', S', top', HOO.out, hV, hC, hst, Gk.own_mono hrow hz3, hmsl, hmr⟩⟩⟩
end

end Go.Proofs.YtgfmnffaknmcnaaGreatDoor.Sw
