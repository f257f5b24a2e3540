/- Walks over skylarkref03: put, Send, Copy. -/
import Derived.Test.YtmdpkkipjdpopaaRtRep
import Derived.Test.YtmdpkkipjdpopaaGApp
namespace Go.Proofs.Ytmdpkkipjdpopaa.Nk
open Go.RowKit Go.Joins Gk
attribute [local go_sem ↓] Go.wp_at_zero Go.wp_at_succ

theorem rlet_info : (Try.prog.info? RLetT).map (fun i => (i.zero, i.size, i.bytes)) = some (some noL, 4, 40) := by kernel_rfl

/-- append of elements that lie somewhere, at a step of a region that draws its order -/
theorem step_append_row {α : Type} {enc : α → List Value} {k : Nat} {w : World} {ops : Array Oper} {o : Oper} {a : Act} {K : Act → World → Prop} {Q : Exit → Act → World → Prop} {E : Prop} (hgd : o.guard = none) (s x : Operand) (t : TypeId)
    (ho : o.op = .call { callee := .builtin .append, args := #[s, x], argTypes := #[t, t] })
    (e : TypeId) (z : Value) (bytes : Nat) (ht : Try.prog.underlying t = some (.slice e)) (hinf : (Try.prog.info? e).map (fun i => (i.zero, i.size, i.bytes)) = some (some z, k, bytes)) (hzs : z.cells.size = k) (hk0 : 0 < k)
    (hk : ∀ x, (enc x).length = k) (h1 : ∀ x, ∀ u ∈ enc x, u.oneCell' = true)
    (v : Value) (l : List α) (hs : a.eval s = v) (hown : Row w enc e k v l) (ad : Option Addr) (fs : List α) (n cap : Nat) (hx : a.eval x = .slice ad n cap) (hn : n = fs.length)
    (hl : Lies w enc ad fs) (hnil : ad = none → cap = 0) (hbytes : (l.length + fs.length) * bytes ≤ 140737488355328) (hlen : l.length + fs.length ≤ 140737488355328)
    (h : ∀ ad' cap' w', Row w' enc e k (.slice ad' (l.length + fs.length) cap') (l ++ fs) → w.grownBy w' v.ownBlock → (∀ g, (Value.slice ad' (l.length + fs.length) cap').ownBlock = some g → v.ownBlock = some g ∨ w.heap.size ≤ g) → K (a.put o.dst (.slice ad' (l.length + fs.length) cap')) w') :
    if Region.wanted o (yielded ops a.tmps) = true then Oper.wp Try.prog o a w K Q else E := by
  have hw : Region.wanted o (yielded ops a.tmps) = true := by simp [Region.wanted, hgd]
  rw [if_pos hw]
  obtain ⟨i0, hi, hz0, hz1, hz2⟩ := info_parts hinf
  subst hn
  cases ad with
  | none =>
    have hfs : fs = [] := by
      rcases hl with h | ⟨_, _, h, _⟩
      · exact h
      · cases h
    have hc := hnil rfl
    subst hfs hc
    have hrun := run_append_owned_none (P := Try.prog) (w := w) 0 t o.type e i0 k ht hi v _ _ hown
    obtain ⟨av, cv, rfl⟩ := hown.slice
    unfold Oper.wp execOp
    simp only [ho, resolve, invoke, builtin, Sem.run_bind, Sem.run_pure, Result.andThen_ok, List.map_toArray, List.map_cons, List.map_nil, hs, hx, List.length_nil, hrun]
    exact h av cv w (by rw [List.append_nil]; exact hown) (World.grownBy.refl _ _) fun g hg => Or.inl hg
  | some ad =>
    obtain ⟨v', w', hr, h2, h3, _, h5⟩ := run_append_own_at (P := Try.prog) w 0 t o.type e i0 z k bytes ht hi hz0 hz1 hz2 hzs hk0 v _ _ hown ad fs.length cap (rc enc fs) (rc_length hk fs) (by
      rcases hl with rfl | ⟨b, off, e, _, hl⟩
      · intro j u hj; simp [rc] at hj
      · cases e
        intro j u hj
        rw [Go.WideShapes.add_plain]
        exact hl j u hj) (rc_oneCell h1 fs) (by unfold maxLen; omega) hbytes (Nat.zero_le _)
    obtain ⟨av, cv, rfl⟩ := own_slice h2
    unfold Oper.wp execOp
    simp only [ho, resolve, invoke, builtin, Sem.run_bind, Sem.run_pure, Result.andThen_ok, List.map_toArray, List.map_cons, List.map_nil, hs, hx, hr]
    refine h av cv w' ?_ h3 fun g hg => ?_
    · show w'.ownsRow 0 e k _ (l ++ fs).length _
      rw [rc_append, List.length_append]; exact h2
    · rcases h5 with h5 | h5
      · exact Or.inl (by rw [← h5]; exact hg)
      · rw [h5] at hg; cases hg; exact Or.inr (Nat.le_refl _)

/-- .. to a new row -/
theorem step_fill {α : Type} {enc : α → List Value} {k : Nat} {w : World} {ops : Array Oper} {o : Oper} {a : Act} {K : Act → World → Prop} {Q : Exit → Act → World → Prop} {E : Prop} (hgd : o.guard = none) (s x : Operand) (t : TypeId)
    (ho : o.op = .call { callee := .builtin .append, args := #[s, x], argTypes := #[t, t] })
    (e : TypeId) (z : Value) (bytes : Nat) (ht : Try.prog.underlying t = some (.slice e)) (hinf : (Try.prog.info? e).map (fun i => (i.zero, i.size, i.bytes)) = some (some z, k, bytes)) (hzs : z.cells.size = k) (hk0 : 0 < k)
    (hk : ∀ x, (enc x).length = k) (h1 : ∀ x, ∀ u ∈ enc x, u.oneCell' = true)
    (v : Value) (hs : a.eval s = v) (hown : Row w enc e k v ([] : List α)) (ad : Option Addr) (fs : List α) (n cap : Nat) (hx : a.eval x = .slice ad n cap) (hn : n = fs.length)
    (hl : Lies w enc ad fs) (hnil : ad = none → cap = 0) (hbytes : fs.length * bytes ≤ 140737488355328) (hlen : fs.length ≤ 140737488355328)
    (h : ∀ ad' cap' w', Row w' enc e k (.slice ad' fs.length cap') fs → w.grownBy w' v.ownBlock → (∀ g, (Value.slice ad' fs.length cap').ownBlock = some g → v.ownBlock = some g ∨ w.heap.size ≤ g) → K (a.put o.dst (.slice ad' fs.length cap')) w') :
    if Region.wanted o (yielded ops a.tmps) = true then Oper.wp Try.prog o a w K Q else E := by
  refine step_append_row hgd s x t ho e z bytes ht hinf hzs hk0 hk h1 v [] hs hown ad fs n cap hx hn hl hnil (by simpa using hbytes) (by simpa using hlen) ?_
  intro ad' cap' w' hr hg hat
  simp only [List.length_nil, Nat.zero_add, List.nil_append] at hr hat ⊢
  exact h ad' cap' w' hr hg hat

def Nst.rput (S : Nst) (x : Lt) : (Int × Int) × Nst := if 65536 < x.body.size ∨ S.full = true then ((0, 2), S) else (((S.sent : Int), 0), S.post x.fr x.to x.body)

set_option maxHeartbeats 3200000 in
set_option maxRecDepth 100000 in
theorem rput_any {own : Nat → Prop} {br : Nat} {S : Nst} {v u : Value} {gs : List Nat} (w : World) (h : RNHeldL w own br S v u gs) (hfr : Fresh own w) (hl : S.ls.length ≤ 4096) (hsn : S.sent ≤ 1099511627776) (x : Lt) :
    Calls Try.prog 45 #[.pointer (some ⟨br, 0, none⟩), lval x] w fun e w' => e = .returned (.tuple #[.int .i64 (S.rput x).1.1, .int .i64 (S.rput x).1.2]) ∧ RNHeld w' own br (S.rput x).2 ∧ Only own w w' := by
  obtain ⟨av, cv, rfl⟩ := h.row.slice
  have hb0 := below_alloc1 w (.cells #[.int .i64 x.id, .int .i64 x.fr, .int .i64 x.to, .string x.body] RLetT)
  have h0 := h.below hb0
  have c1 := h.c1
  have c2 := h.c2
  have hbl := h.lt
  have hne : br ≠ w.heap.size := by omega
  by_cases hc : 65536 < x.body.size ∨ S.full = true
  · have hv : S.rput x = ((0, 2), S) := by rw [Nst.rput, if_pos hc]
    rw [hv]
    have hend : RNHeld (w.alloc (.cells #[.int .i64 x.id, .int .i64 x.fr, .int .i64 x.to, .string x.body] RLetT)) own br S := ⟨_, _, _, h0⟩
    clear h h0 hv
    by_cases hc1 : (65536 : Int) < (x.body.size : Int)
    · go_enter Try.func45, Try.ntmps45
      go_wp2
      go_ret2
      exact ⟨rfl, hend, Only.of_below hb0⟩
    · by_cases hc2 : (4096 : Int) ≤ (S.ls.length : Int)
      · go_enter Try.func45, Try.ntmps45
        go_wp2
        go_ret2
        exact ⟨rfl, hend, Only.of_below hb0⟩
      · have hc3 : (1099511627776 : Int) ≤ (S.sent : Int) := by
          rcases hc with h | h
          · omega
          · simp [Nst.full] at h; omega
        go_enter Try.func45, Try.ntmps45
        go_wp2
        go_ret2
        exact ⟨rfl, hend, Only.of_below hb0⟩
  · have hv : S.rput x = (((S.sent : Int), 0), S.post x.fr x.to x.body) := by rw [Nst.rput, if_neg hc]
    rw [hv]
    have hc1 : ¬ (65536 : Int) < (x.body.size : Int) := by have := fun h => hc (Or.inl h); omega
    have hf : S.full = false := by cases h1 : S.full <;> simp_all
    obtain ⟨f1, f2⟩ := full_iff.1 hf
    have f1' : ¬ (4096 : Int) ≤ (S.ls.length : Int) := by omega
    have f2' : ¬ (1099511627776 : Int) ≤ (S.sent : Int) := by omega
    have hb1 := below_alloc1 w (.cells #[.int .i64 S.sent, .int .i64 x.fr, .int .i64 x.to, .string x.body] RLetT)
    have hA1 := heap_alloc_new w (.cells #[.int .i64 S.sent, .int .i64 x.fr, .int .i64 x.to, .string x.body] RLetT)
    obtain ⟨W, hW⟩ : ∃ W, W = w.alloc (.cells #[.int .i64 S.sent, .int .i64 x.fr, .int .i64 x.to, .string x.body] RLetT) := ⟨_, rfl⟩
    rw [← hW] at hb1 hA1
    have HH := hide (h.below hb1)
    clear h h0 hv hc hf
    go_enter Try.func45, Try.ntmps45
    go_wp2_with fail
    rw [← hW]
    clear hW c1 c2
    have c1 := HH.out.c1
    have d0 : W.cell? ⟨w.heap.size, 0, none⟩ = some (.int .i64 S.sent) := cell_of_block hA1 0
    have d1 : W.cell? ⟨w.heap.size, 1, none⟩ = some (.int .i64 x.fr) := cell_of_block hA1 1
    have d2 : W.cell? ⟨w.heap.size, 2, none⟩ = some (.int .i64 x.to) := cell_of_block hA1 2
    have d3 : W.cell? ⟨w.heap.size, 3, none⟩ = some (.string x.body) := cell_of_block hA1 3
    have hzW : w.heap.size < W.heap.size := (Array.getElem?_eq_some_iff.1 hA1).1
    have hbW : br < W.heap.size := HH.out.lt
    have n1 : br ≠ W.heap.size := by omega
    have n2 : w.heap.size ≠ W.heap.size := by omega
    --PUT
    obtain ⟨L4, hL4⟩ : ∃ L4 : Lt, L4 = ⟨S.sent, x.fr, x.to, x.body⟩ := ⟨_, rfl⟩
    have b1 : Below W.heap.size W (W.drew.alloc (.cells #[] RLetT)) := (Below.refl _ _).drew.alloc (Nat.le_refl _) _
    have b2 : Below W.heap.size W ((W.drew.alloc (.cells (lenc ⟨S.sent, x.fr, x.to, x.body⟩).toArray RLetT)).alloc (.cells #[] RLetT)) := ((Below.refl _ _).drew.alloc (Nat.le_refl _) _).alloc (by simp) _
    have b3 : Below W.heap.size W ((W.drew.alloc (.cells #[] RLetT)).alloc (.cells (lenc ⟨S.sent, x.fr, x.to, x.body⟩).toArray RLetT)) := ((Below.refl _ _).drew.alloc (Nat.le_refl _) _).alloc (by simp) _
    have m1 : Row (W.drew.alloc (.cells #[] RLetT)) lenc RLetT 4 (.slice (some ⟨W.heap.size, 0, none⟩) 0 0) [] := own_mono (World.ownsRow_made (base := 0) (e := RLetT) (size := 4) W.drew #[] 0 (Nat.zero_le _) (Nat.zero_le _) rfl) (Nat.zero_le _)
    have m2 : Row ((W.drew.alloc (.cells (lenc ⟨S.sent, x.fr, x.to, x.body⟩).toArray RLetT)).alloc (.cells #[] RLetT)) lenc RLetT 4 (.slice (some ⟨W.heap.size + 1, 0, none⟩) 0 0) [] := by
      have := World.ownsRow_made (base := 0) (e := RLetT) (size := 4) (W.drew.alloc (.cells (lenc ⟨S.sent, x.fr, x.to, x.body⟩).toArray RLetT)) #[] 0 (Nat.zero_le _) (Nat.zero_le _) rfl
      simpa [Row, rc] using this
    have m3 : Row ((W.drew.alloc (.cells #[] RLetT)).alloc (.cells (lenc ⟨S.sent, x.fr, x.to, x.body⟩).toArray RLetT)) lenc RLetT 4 (.slice (some ⟨W.heap.size, 0, none⟩) 0 0) [] := m1.below (below_alloc1 _ _)
    have s2 : ((W.drew.alloc (.cells (lenc ⟨S.sent, x.fr, x.to, x.body⟩).toArray RLetT)).alloc (.cells #[] RLetT)).heap[W.heap.size]? = some (.cells (lenc ⟨S.sent, x.fr, x.to, x.body⟩).toArray RLetT (0, 0)) := by
      have h1 : W.heap.size < (W.drew.alloc (.cells (lenc ⟨S.sent, x.fr, x.to, x.body⟩).toArray RLetT)).heap.size := by simp
      have h2 := (below_alloc1 (W.drew.alloc (.cells (lenc ⟨S.sent, x.fr, x.to, x.body⟩).toArray RLetT)) (.cells #[] RLetT)).block W.heap.size h1
      exact h2.trans (heap_alloc_new W.drew _)
    have s3 : ((W.drew.alloc (.cells #[] RLetT)).alloc (.cells (lenc ⟨S.sent, x.fr, x.to, x.body⟩).toArray RLetT)).heap[W.heap.size + 1]? = some (.cells (lenc ⟨S.sent, x.fr, x.to, x.body⟩).toArray RLetT (0, 0)) := by
      have := heap_alloc_new (W.drew.alloc (.cells #[] RLetT)) (.cells (lenc ⟨S.sent, x.fr, x.to, x.body⟩).toArray RLetT)
      simpa using this
    have HB1 := hide b1
    have HB2 := hide b2
    have HB3 := hide b3
    have HM1 := hide m1
    have HM2 := hide m2
    have HM3 := hide m3
    have HS2 := hide s2
    have HS3 := hide s3
    have HA := hide hA1
    clear b1 b2 b3 m1 m2 m3 s2 s3 hA1 hb0 hL4
    have hnil : av = none → cv = 0 := fun e => by
      subst e
      rcases HH.out.row.2 with ⟨e1, _⟩ | ⟨_, _, _, e1, _⟩
      · injection e1
      · cases e1
    go_region_law (first | (refine step_fill (enc := lenc) (k := 4) (by rfl) (.tmp 31) (.tmp 35) 63 (by rfl) RLetT noL 40 Try.underlying63 rlet_info rfl (by decide) lenc_len lenc_one (.slice (some ⟨W.heap.size, 0, none⟩) 0 0) (by rfl) HM1.out av S.ls S.ls.length cv (by rfl) rfl (HH.out.below HB1.out).row.lies hnil (by omega) (by omega) ?_; intro ad3 cap3 w3 hrow3 hg3 hat3; have hb3 : Below W.heap.size W w3 := HB1.out.grown hg3 HB1.out.size (fun k hk => by simp [Value.ownBlock] at hk; omega); have hA3 := hide ((hb3.block w.heap.size hzW).trans HA.out); have e0 : w3.cell? ⟨w.heap.size, 0, none⟩ = some (.int .i64 S.sent) := cell_of_block hA3.out 0; have e1 : w3.cell? ⟨w.heap.size, 1, none⟩ = some (.int .i64 x.fr) := cell_of_block hA3.out 1; have e2 : w3.cell? ⟨w.heap.size, 2, none⟩ = some (.int .i64 x.to) := cell_of_block hA3.out 2; have e3 : w3.cell? ⟨w.heap.size, 3, none⟩ = some (.string x.body) := cell_of_block hA3.out 3; have hz3 := hb3.size; have hup3 : ∀ g, (Value.slice ad3 S.ls.length cap3).ownBlock = some g → W.heap.size ≤ g := fun g hg => (hat3 g hg).elim (fun h => by simp [Value.ownBlock] at h; omega) (fun h => by simp at h; omega); have hx3 := trivial) | (refine step_fill (enc := lenc) (k := 4) (by rfl) (.tmp 31) (.tmp 35) 63 (by rfl) RLetT noL 40 Try.underlying63 rlet_info rfl (by decide) lenc_len lenc_one (.slice (some ⟨W.heap.size + 1, 0, none⟩) 0 0) (by rfl) HM2.out av S.ls S.ls.length cv (by rfl) rfl (HH.out.below HB2.out).row.lies hnil (by omega) (by omega) ?_; intro ad3 cap3 w3 hrow3 hg3 hat3; have hb3 : Below W.heap.size W w3 := HB2.out.grown hg3 HB2.out.size (fun k hk => by simp [Value.ownBlock] at hk; omega); have hA3 := hide ((hb3.block w.heap.size hzW).trans HA.out); have e0 : w3.cell? ⟨w.heap.size, 0, none⟩ = some (.int .i64 S.sent) := cell_of_block hA3.out 0; have e1 : w3.cell? ⟨w.heap.size, 1, none⟩ = some (.int .i64 x.fr) := cell_of_block hA3.out 1; have e2 : w3.cell? ⟨w.heap.size, 2, none⟩ = some (.int .i64 x.to) := cell_of_block hA3.out 2; have e3 : w3.cell? ⟨w.heap.size, 3, none⟩ = some (.string x.body) := cell_of_block hA3.out 3; have hz3 := hb3.size; have hup3 : ∀ g, (Value.slice ad3 S.ls.length cap3).ownBlock = some g → W.heap.size ≤ g := fun g hg => (hat3 g hg).elim (fun h => by simp [Value.ownBlock] at h; omega) (fun h => by simp at h; omega); have hs3 := hide ((hg3.block W.heap.size (by simp; omega) (by simp [Value.ownBlock])).trans HS2.out)) | (refine step_fill (enc := lenc) (k := 4) (by rfl) (.tmp 31) (.tmp 35) 63 (by rfl) RLetT noL 40 Try.underlying63 rlet_info rfl (by decide) lenc_len lenc_one (.slice (some ⟨W.heap.size, 0, none⟩) 0 0) (by rfl) HM3.out av S.ls S.ls.length cv (by rfl) rfl (HH.out.below HB3.out).row.lies hnil (by omega) (by omega) ?_; intro ad3 cap3 w3 hrow3 hg3 hat3; have hb3 : Below W.heap.size W w3 := HB3.out.grown hg3 HB3.out.size (fun k hk => by simp [Value.ownBlock] at hk; omega); have hA3 := hide ((hb3.block w.heap.size hzW).trans HA.out); have e0 : w3.cell? ⟨w.heap.size, 0, none⟩ = some (.int .i64 S.sent) := cell_of_block hA3.out 0; have e1 : w3.cell? ⟨w.heap.size, 1, none⟩ = some (.int .i64 x.fr) := cell_of_block hA3.out 1; have e2 : w3.cell? ⟨w.heap.size, 2, none⟩ = some (.int .i64 x.to) := cell_of_block hA3.out 2; have e3 : w3.cell? ⟨w.heap.size, 3, none⟩ = some (.string x.body) := cell_of_block hA3.out 3; have hz3 := hb3.size; have hup3 : ∀ g, (Value.slice ad3 S.ls.length cap3).ownBlock = some g → W.heap.size ≤ g := fun g hg => (hat3 g hg).elim (fun h => by simp [Value.ownBlock] at h; omega) (fun h => by simp at h; omega); have hs3 := hide ((hg3.block (W.heap.size + 1) (by simp) (by simp [Value.ownBlock])).trans HS3.out)) | (refine step_push (enc := lenc) (k := 4) (by rfl) (.tmp 36) (.tmp 38) 63 (by rfl) RLetT noL 40 Try.underlying63 rlet_info rfl (by decide) lenc_len lenc_one (.slice ad3 S.ls.length cap3) S.ls (by rfl) (hrow3.below (below_alloc1 w3 _)) w3.heap.size ⟨S.sent, x.fr, x.to, x.body⟩ (by rfl) (heap_alloc_new w3 _) (by omega) (by omega) ?_; intro ad5 cap5 w5 hrow5 hg5 hat5; have hb5 : Below W.heap.size W w5 := ((hb3.alloc hb3.size _)).grown hg5 ((hb3.alloc hb3.size _)).size (fun k hk => hup3 k hk); have HR5 := hide (HH.out.below hb5); have k5 := HR5.out.c1; have z5 := HR5.out.fz 1; have k52 := HR5.out.c2; have z52 := HR5.out.fz 2; have f0 : w5.cell? ⟨w.heap.size, 0, none⟩ = some (.int .i64 S.sent) := cell_of_block ((hb5.block w.heap.size hzW).trans HA.out) 0) | (refine step_push (enc := lenc) (k := 4) (by rfl) (.tmp 36) (.tmp 38) 63 (by rfl) RLetT noL 40 Try.underlying63 rlet_info rfl (by decide) lenc_len lenc_one (.slice ad3 S.ls.length cap3) S.ls (by rfl) hrow3 W.heap.size ⟨S.sent, x.fr, x.to, x.body⟩ (by rfl) hs3.out (by omega) (by omega) ?_; intro ad5 cap5 w5 hrow5 hg5 hat5; have hb5 : Below W.heap.size W w5 := (hb3).grown hg5 (hb3).size (fun k hk => hup3 k hk); have HR5 := hide (HH.out.below hb5); have k5 := HR5.out.c1; have z5 := HR5.out.fz 1; have k52 := HR5.out.c2; have z52 := HR5.out.fz 2; have f0 : w5.cell? ⟨w.heap.size, 0, none⟩ = some (.int .i64 S.sent) := cell_of_block ((hb5.block w.heap.size hzW).trans HA.out) 0) | (refine step_push (enc := lenc) (k := 4) (by rfl) (.tmp 36) (.tmp 38) 63 (by rfl) RLetT noL 40 Try.underlying63 rlet_info rfl (by decide) lenc_len lenc_one (.slice ad3 S.ls.length cap3) S.ls (by rfl) hrow3 (W.heap.size + 1) ⟨S.sent, x.fr, x.to, x.body⟩ (by rfl) hs3.out (by omega) (by omega) ?_; intro ad5 cap5 w5 hrow5 hg5 hat5; have hb5 : Below W.heap.size W w5 := (hb3).grown hg5 (hb3).size (fun k hk => hup3 k hk); have HR5 := hide (HH.out.below hb5); have k5 := HR5.out.c1; have z5 := HR5.out.fz 1; have k52 := HR5.out.c2; have z52 := HR5.out.fz 2; have f0 : w5.cell? ⟨w.heap.size, 0, none⟩ = some (.int .i64 S.sent) := cell_of_block ((hb5.block w.heap.size hzW).trans HA.out) 0))
    all_goals
      go_wp2
      go_ret2
      have hO5 : Only own w w5 := (Only.of_below hb1).trans ⟨hb5.os, hb5.tape, hb5.output, hb5.size, fun k hk _ => hb5.block k hk⟩
      have hfin := (HR5.out.setRow hrow5 (fun g hg => hfr g (by
        have := hb1.size
        rcases hat5 g hg with h | h
        · have := hup3 g h; omega
        · have := hz3; try simp at h
          omega))).setSent (S.sent + 1)
      exact ⟨rfl, ⟨_, _, _, hfin⟩, (hO5.trans (Only.of_set w5 HR5.out.ownD _)).trans (Only.of_set _ HR5.out.ownD _)⟩

end Go.Proofs.Ytmdpkkipjdpopaa.Nk
