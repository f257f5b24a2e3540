/- Layer 9: walks over rows.go: stretch; table.go: Rows, Drop. -/
import Derived.Test.YthdempdiibjabaaTbDoL
namespace Go.Proofs.Ythdempdiibjabaa.Tb
open Go.RowKit Go.Joins Go.Proofs.Ythdempdiibjabaa.Gk Go.Proofs.Ythdempdiibjabaa.Oq Go.Proofs.Ythdempdiibjabaa.Sp

/-- where a span's rows begin, and where they end -/
def strB (l : List Rw) (s : Sp.Sp) : Nat := pos l s.fr
def strE (l : List Rw) (s : Sp.Sp) : Nat := if s.to = nix then l.length else max (pos l s.fr) (pos l s.to)
theorem strE_le (l : List Rw) (s : Sp.Sp) : strB l s ≤ strE l s ∧ strE l s ≤ l.length := by
  have h1 := pos_le l s.fr
  have h2 := pos_le l s.to
  unfold strB strE
  split <;> omega
/-- the rows of a span -/
theorem rows_has {l : List Rw} (h : Rise l) (s : Sp.Sp) : (l.take (strE l s)).drop (strB l s) = l.filter fun r => s.has r.key := by
  unfold strB strE Sp.Sp.has
  by_cases e : s.to = nix
  · rw [if_pos e, List.take_length, drop_pos h]
    simp [e]
  · rw [if_neg e]
    simp only [e, decide_false, Bool.false_or]
    have key : ∀ (k t : ByteArray), (l.take (pos l t)).drop (pos l k) = l.filter fun r => !B4 r.key k && B4 r.key t := by
      intro k t
      rw [take_pos h t]
      have h1 : Rise (below l t) := below_rise h t
      have h2 : (below l t).drop (pos (below l t) k) = (below l t).filter fun r => !B4 r.key k := drop_pos h1 k
      have h3 : (l.filter fun r => !B4 r.key k && B4 r.key t) = (below l t).filter fun r => !B4 r.key k := by
        unfold below
        rw [List.filter_filter]
      rw [h3, ← h2]
      by_cases hkt : pos l k ≤ pos l t
      · congr 1
        unfold pos below
        rw [List.countP_filter]
        refine List.countP_congr fun r hr => ?_
        constructor
        · intro hb
          simp only [hb, Bool.true_and]
          obtain ⟨i, hi, rfl⟩ := List.getElem_of_mem hr
          by_cases hip : i < pos l k
          · exact pos_lo h t i hi (by omega)
          · have := pos_hi h k i hi (by omega)
            rw [hb] at this; cases this
        · intro hb
          simp only [Bool.and_eq_true] at hb
          exact hb.1
      · have hlen : (below l t).length = pos l t := by rw [← take_pos h t, List.length_take]; have := pos_le l t; omega
        rw [List.drop_of_length_le (by omega), List.drop_of_length_le]
        have hp2 : pos (below l t) k = (below l t).length := by
          unfold pos
          rw [List.countP_eq_length]
          intro r hr
          have hb := (List.mem_filter.1 hr)
          obtain ⟨i, hi, rfl⟩ := List.getElem_of_mem hb.1
          have hit : i < pos l t := by
            by_cases h9 : i < pos l t
            · exact h9
            · have := pos_hi h t i hi (by omega)
              rw [this] at hb; cases hb.2
          exact pos_lo h k i hi (by omega)
        omega
    rcases Nat.le_total (pos l s.fr) (pos l s.to) with hm | hm
    · rw [Nat.max_eq_right hm]
      exact key _ _
    · rw [Nat.max_eq_left hm, ← key]
      rw [List.drop_of_length_le (by rw [List.length_take]; omega), List.drop_of_length_le (by rw [List.length_take]; omega)]
/-- what is not between two places, when what is between them is what f picks -/
theorem part_not {l : List Rw} {p q : Nat} {f : Rw → Bool} (hpq : p ≤ q) (hq : q ≤ l.length) (h1 : (l.take q).drop p = l.filter f) : l.take p ++ l.drop q = l.filter fun r => !f r := by
  have h3 : (l.take q).drop p ++ l.drop q = l.drop p := by
    have h := List.drop_append_of_le_length (l₁ := l.take q) (l₂ := l.drop q) (i := p) (by rw [List.length_take]; omega)
    rw [List.take_append_drop] at h
    exact h.symm
  have h2 : l.take p ++ ((l.take q).drop p ++ l.drop q) = l := by rw [h3, List.take_append_drop]
  have hmem : ∀ r ∈ (l.take q).drop p, f r = true := by
    intro r hr; rw [h1] at hr; exact (List.mem_filter.1 hr).2
  have hcnt : ((l.take q).drop p).length = (l.filter f).length := by rw [h1]
  have hall : (l.filter f).length = ((l.take p).filter f).length + (((l.take q).drop p).filter f).length + ((l.drop q).filter f).length := by
    have h := congrArg (fun m => (m.filter f).length) h2
    rw [List.filter_append, List.filter_append, List.length_append, List.length_append] at h
    omega
  rw [List.filter_eq_self.2 hmem, ← hcnt] at hall
  have z1 : ((l.take p).filter f) = [] := List.eq_nil_of_length_eq_zero (by omega)
  have z2 : ((l.drop q).filter f) = [] := List.eq_nil_of_length_eq_zero (by omega)
  have e1 : (l.take p).filter (fun r => !f r) = l.take p := List.filter_eq_self.2 fun r hr => by have := List.filter_eq_nil_iff.1 z1 r hr; simpa using this
  have e2 : (l.drop q).filter (fun r => !f r) = l.drop q := List.filter_eq_self.2 fun r hr => by have := List.filter_eq_nil_iff.1 z2 r hr; simpa using this
  have e3 : ((l.take q).drop p).filter (fun r => !f r) = [] := List.filter_eq_nil_iff.2 fun r hr => by simp [hmem r hr]
  have h := congrArg (fun m => m.filter fun r => !f r) h2
  rw [List.filter_append, List.filter_append, e1, e2, e3, List.nil_append] at h
  exact h
/-- the others -/
theorem rows_not {l : List Rw} (h : Rise l) (s : Sp.Sp) : l.take (strB l s) ++ l.drop (strE l s) = l.filter fun r => !s.has r.key :=
  part_not (strE_le l s).1 (strE_le l s).2 (rows_has h s)

abbrev spv (s : Sp.Sp) : Value := .agg #[.string s.fr, .string s.to]

set_option maxRecDepth 100000 in
set_option maxHeartbeats 1600000 in
theorem stretch_any (a : Option Addr) (cap : Nat) (l : List Rw) (s : Sp.Sp) (hok : Tok l) (w : World) (hl : Lies w rwenc a l) :
    Calls Try.prog 25 #[.slice a l.length cap, spv s] w fun e w' => e = .returned (.tuple #[.int .i64 (strB l s : Nat), .int .i64 (strE l s : Nat)]) ∧ Gr w w' := by
  obtain ⟨fr, to⟩ := s
  unfold strB strE
  simp only
  have hF := fun k W (hb : Below w.heap.size w W) => find_any a cap k l hok.rise (by have := hok.len; omega) W (hl.below hb)
  have hb0 := below_a1 w (.cells #[.string fr, .string to] 31)
  have hg0 := heap_alloc_new w (.cells #[.string fr, .string to] 31)
  have hgr := fun k => pos_le l k
  have hlen := hok.len
  by_cases e : to = nix
  · subst e
    simp only [if_true]
    go_enter Try.func25, Try.ntmps25
    go_wp2_with fail
    refine (hF _ _ (below_a1 _ _)).mono ?_
    rintro e w1 ⟨rfl, hg1⟩
    have hb1 := hb0.trans (hg1.below.mono (by simp))
    have HG1 := hide ((Gr.alloc1 w _).trans hg1)
    have x1 : w1.cell? ⟨w.heap.size, 1, none⟩ = some (.string nix) := cellB ((hg1.below.block _ (Array.getElem?_eq_some_iff.1 hg0).1).trans hg0) 1 rfl
    go_wp2
    go_ret2
    exact ⟨rfl, HG1.out⟩
  · simp only [if_neg e]
    have b1 : to.toList.isEmpty = false := by
      rw [Oq.str_empty, beq_eq_false_iff_ne]
      intro h
      exact e (ByteArray.ext (Array.eq_empty_of_size_eq_zero h))
    go_enter Try.func25, Try.ntmps25
    go_wp2_with fail
    refine (hF _ _ (below_a1 _ _)).mono ?_
    rintro e w1 ⟨rfl, hg1⟩
    have hb1 := hb0.trans (hg1.below.mono (by simp))
    have HG1 := hide ((Gr.alloc1 w _).trans hg1)
    have x1 : w1.cell? ⟨w.heap.size, 1, none⟩ = some (.string to) := cellB ((hg1.below.block _ (Array.getElem?_eq_some_iff.1 hg0).1).trans hg0) 1 rfl
    go_wp2_with fail
    refine (hF _ _ hb1).mono ?_
    rintro e w2 ⟨rfl, hg2⟩
    have HG2 := hide (HG1.out.trans hg2)
    go_wp2
    go_ret2
    exact ⟨by rw [show ((max (pos l fr) (pos l to) : Nat) : Int) = max (pos l fr : Int) (pos l to : Int) by omega]; rfl, HG2.out⟩

set_option maxRecDepth 100000 in
set_option maxHeartbeats 1600000 in
theorem Rows_tb (bt : Nat) (l : List Rw) (s : Sp.Sp) (w : World) (hT : TH w bt l) :
    Calls Try.prog 19 #[ptr bt, spv s] w fun e w' => ∃ g L, e = .returned (.slice (some ⟨g, 0, none⟩) L.length L.length) ∧ L = l.filter (fun r => s.has r.key) ∧ w'.ownsRow w.heap.size RowT 3 (.slice (some ⟨g, 0, none⟩) L.length L.length) L.length (rc rwenc L) ∧ Below w.heap.size w w' := by
  obtain ⟨hok, a, cap, hg, hl⟩ := id hT
  have hlt := hT.lt
  have t0 := TH.cell hg
  have hS := fun W (hb : Below w.heap.size w W) => stretch_any a cap l s hok W (hl.lies.below hb)
  obtain ⟨hq1, hq2⟩ := strE_le l s
  have HH := hide (rows_has hok.rise s)
  have hroom := hl.room
  have hsub := hl.sub _ _ hq1 hq2
  have hlen := hok.len
  have hLl : ((l.take (strE l s)).drop (strB l s)).length = strE l s - strB l s := by rw [List.length_drop, List.length_take]; omega
  have hLe : ∀ x ∈ (l.take (strE l s)).drop (strB l s), x.key.size ≤ 140737488351232 ∧ x.val.size ≤ 140737488351232 := fun x hx => by
    have h1 := hok.each x (List.mem_of_mem_take (List.mem_of_mem_drop hx))
    exact ⟨Nat.le_trans h1.k2 (by omega), Nat.le_trans h1.v (by omega)⟩
  have HLl := hide hLl
  generalize (l.take (strE l s)).drop (strB l s) = L at *
  generalize strB l s = p at *
  generalize strE l s = q at *
  have hqc : (q : Int) ≤ (cap : Int) := by omega
  obtain ⟨fr, to⟩ := s
  by_cases hcp : cap = p
  · subst hcp
    rw [if_pos rfl, Nat.sub_self] at hsub
    have hC := fun W (hb : Below w.heap.size w W) => copied_any a 0 L W (hsub.below hb).lies (by omega) hLe
    rw [hLl] at hC
    clear hLl hg
    go_enter Try.func19, Try.ntmps19
    go_wp2_with fail
    have mixed : Try.prog.follows .mixedOrders = true := by kernel_rfl
    obtain ⟨W, hW⟩ : ∃ W, W = w.alloc (.cells #[.string fr, .string to] 31) := ⟨_, rfl⟩
    have hbW : Below w.heap.size w W := by rw [hW]; exact below_a1 _ _
    have hgW : W.heap[w.heap.size]? = some (.cells #[.string fr, .string to] 31 (0, 0)) := by rw [hW]; exact heap_alloc_new _ _
    rw [← hW]
    clear hW
    have hltW := (Array.getElem?_eq_some_iff.1 hgW).1
    have t1 := (hbW.cell (p := ⟨bt, 0, none⟩) hlt).trans t0
    have hSq := fun n os => hS (Go.Sort.grow (W.drewN n) os) (hbW.trans ((Gr.grow (Gr.refl W) n os).below.mono hbW.size))
    have y0 := fun n os => cell_grown (w := W) hltW (show W.cell? ⟨w.heap.size, 0, none⟩ = some (.string fr) from cellB hgW 0 rfl) n os
    have y1 := fun n os => cell_grown (w := W) hltW (show W.cell? ⟨w.heap.size, 1, none⟩ = some (.string to) from cellB hgW 1 rfl) n os
    have yt := fun n os => cell_grown (w := W) (Nat.lt_of_lt_of_le hlt hbW.size) t1 n os
    clear t0 t1 hS
    go_quiet_grown (first | (go_at_call 25; refine Calls.grown_of (hSq _ _)))
    have hg1 : Gr W (Go.Sort.grow (W.drewN nq) osq) := Gr.grow (Gr.refl _) nq osq
    have t2 := yt nq osq
    generalize Go.Sort.grow (W.drewN nq) osq = w1 at hg1 t2 ⊢
    have hb1 := hbW.trans (hg1.below.mono hbW.size)
    clear hSq y0 y1 yt
    go_wp2_with fail
    refine (hC _ hb1).mono ?_
    rintro e w3 ⟨rfl, hown3, hb3⟩
    have hbe := hide (hb1.trans (hb3.mono hb1.size))
    have HO := hide (own_mono hown3 hb1.size)
    generalize w1.heap.size = bb at *
    clear hown3 hb3 t2 hg1 hb1
    go_wp2
    go_ret
    exact ⟨bb, L, by rw [HLl.out]; rfl, HH.out, by rw [HLl.out]; exact HO.out, hbe.out⟩
  · rw [if_neg hcp] at hsub
    have hC := fun W (hb : Below w.heap.size w W) => copied_any (a.map fun x => x.add (p * 3)) (cap - p) L W (hsub.below hb).lies (by omega) hLe
    rw [hLl] at hC
    clear hLl hg
    go_enter Try.func19, Try.ntmps19
    go_wp2_with fail
    have mixed : Try.prog.follows .mixedOrders = true := by kernel_rfl
    obtain ⟨W, hW⟩ : ∃ W, W = w.alloc (.cells #[.string fr, .string to] 31) := ⟨_, rfl⟩
    have hbW : Below w.heap.size w W := by rw [hW]; exact below_a1 _ _
    have hgW : W.heap[w.heap.size]? = some (.cells #[.string fr, .string to] 31 (0, 0)) := by rw [hW]; exact heap_alloc_new _ _
    rw [← hW]
    clear hW
    have hltW := (Array.getElem?_eq_some_iff.1 hgW).1
    have t1 := (hbW.cell (p := ⟨bt, 0, none⟩) hlt).trans t0
    have hSq := fun n os => hS (Go.Sort.grow (W.drewN n) os) (hbW.trans ((Gr.grow (Gr.refl W) n os).below.mono hbW.size))
    have y0 := fun n os => cell_grown (w := W) hltW (show W.cell? ⟨w.heap.size, 0, none⟩ = some (.string fr) from cellB hgW 0 rfl) n os
    have y1 := fun n os => cell_grown (w := W) hltW (show W.cell? ⟨w.heap.size, 1, none⟩ = some (.string to) from cellB hgW 1 rfl) n os
    have yt := fun n os => cell_grown (w := W) (Nat.lt_of_lt_of_le hlt hbW.size) t1 n os
    clear t0 t1 hS
    go_quiet_grown (first | (go_at_call 25; refine Calls.grown_of (hSq _ _)))
    have hg1 : Gr W (Go.Sort.grow (W.drewN nq) osq) := Gr.grow (Gr.refl _) nq osq
    have t2 := yt nq osq
    generalize Go.Sort.grow (W.drewN nq) osq = w1 at hg1 t2 ⊢
    have hb1 := hbW.trans (hg1.below.mono hbW.size)
    clear hSq y0 y1 yt
    go_wp2_with fail
    refine (hC _ hb1).mono ?_
    rintro e w3 ⟨rfl, hown3, hb3⟩
    have hbe := hide (hb1.trans (hb3.mono hb1.size))
    have HO := hide (own_mono hown3 hb1.size)
    generalize w1.heap.size = bb at *
    clear hown3 hb3 t2 hg1 hb1
    go_wp2
    go_ret
    exact ⟨bb, L, by rw [HLl.out]; rfl, HH.out, by rw [HLl.out]; exact HO.out, hbe.out⟩

theorem Tok.filter {l : List Rw} (h : Tok l) (f : Rw → Bool) : Tok (l.filter f) :=
  ⟨List.Pairwise.filter _ h.rise, Nat.le_trans (List.length_filter_le _ _) h.len, fun x hx => h.each x (List.mem_filter.1 hx).1⟩

set_option maxRecDepth 100000 in
set_option maxHeartbeats 1600000 in
theorem Drop_tb (bt : Nat) (l : List Rw) (s : Sp.Sp) (w : World) (hT : TH w bt l) :
    Calls Try.prog 14 #[ptr bt, spv s] w fun e w' => e = .returned (.int .i64 ((l.filter fun r => s.has r.key).length : Nat)) ∧ TH w' bt (l.filter fun r => !s.has r.key) ∧ Turn bt w w' := by
  obtain ⟨hok, a, cap, hg, hl⟩ := id hT
  have hlt := hT.lt
  have t0 := TH.cell hg
  have hS := fun W (hb : Below w.heap.size w W) => stretch_any a cap l s hok W (hl.lies.below hb)
  obtain ⟨hq1, hq2⟩ := strE_le l s
  have hlen := hok.len
  have hLl : (l.filter fun r => s.has r.key).length = strE l s - strB l s := by rw [← rows_has hok.rise s, List.length_drop, List.length_take]; omega
  have HH := hide (rows_not hok.rise s)
  have hWi := fun W (hb : Below w.heap.size w W) => without_any a cap l (strB l s) (strE l s) hq1 hq2 W (hl.below hb) (by omega)
  have HOK := hide (hok.filter fun r => !s.has r.key)
  have HLl := hide hLl
  generalize (l.filter fun r => !s.has r.key) = L at *
  generalize (l.filter fun r => s.has r.key).length = n at *
  generalize strB l s = p at *
  generalize strE l s = q at *
  have HSub : Hid ((q : Int) - (p : Int) = (n : Int)) := by have := HLl.out; exact (by omega : (q : Int) - (p : Int) = (n : Int))
  have hsub := HSub.out
  obtain ⟨fr, to⟩ := s
  clear hLl
  go_enter Try.func14, Try.ntmps14
  go_wp2_with fail
  have mixed : Try.prog.follows .mixedOrders = true := by kernel_rfl
  obtain ⟨W, hW⟩ : ∃ W, W = w.alloc (.cells #[.string fr, .string to] 31) := ⟨_, rfl⟩
  have hbW : Below w.heap.size w W := by rw [hW]; exact below_a1 _ _
  have hgW : W.heap[w.heap.size]? = some (.cells #[.string fr, .string to] 31 (0, 0)) := by rw [hW]; exact heap_alloc_new _ _
  rw [← hW]
  clear hW
  have hltW := (Array.getElem?_eq_some_iff.1 hgW).1
  have t1 := (hbW.cell (p := ⟨bt, 0, none⟩) hlt).trans t0
  have hSq := fun n os => hS (Go.Sort.grow (W.drewN n) os) (hbW.trans ((Gr.grow (Gr.refl W) n os).below.mono hbW.size))
  have y0 := fun n os => cell_grown (w := W) hltW (show W.cell? ⟨w.heap.size, 0, none⟩ = some (.string fr) from cellB hgW 0 rfl) n os
  have y1 := fun n os => cell_grown (w := W) hltW (show W.cell? ⟨w.heap.size, 1, none⟩ = some (.string to) from cellB hgW 1 rfl) n os
  have yt := fun n os => cell_grown (w := W) (Nat.lt_of_lt_of_le hlt hbW.size) t1 n os
  clear t0 t1 hS
  go_quiet_grown (first | (go_at_call 25; refine Calls.grown_of (hSq _ _)))
  have hg1 : Gr W (Go.Sort.grow (W.drewN nq) osq) := Gr.grow (Gr.refl _) nq osq
  have t2 := yt nq osq
  generalize Go.Sort.grow (W.drewN nq) osq = w1 at hg1 t2 ⊢
  have hb1 := hbW.trans (hg1.below.mono hbW.size)
  clear hSq y0 y1 yt
  have hg3 := (hb1.block bt hlt).trans hg
  go_wp2_with fail
  refine (hWi _ hb1).mono ?_
  rintro e w3 ⟨a3, cap3, L3, rfl, hL3, hown3, hb3⟩
  have hg4 := (hb3.block bt (Array.getElem?_eq_some_iff.1 hg3).1).trans hg3
  have t3 := cellB hg4 0 rfl
  have ft3 := unfrozen_of_block hg4 0
  have HE := hide (hL3.trans HH.out)
  have HT3 := hide (TH.put hg4 (RL.of_own hown3) (show Tok L3 by rw [HE.out]; exact HOK.out))
  have HTu : Hid (Turn bt w (w3.setCell ⟨bt, 0, none⟩ (.slice a3 L3.length cap3))) := (Only.of_below (hb1.trans (hb3.mono hb1.size))).trans (Only.of_set (own := fun b => b = bt) _ rfl _)
  clear hL3 hg4 hg3 hown3 hb3 hb1 hg1 t2 hg
  go_wp2
  go_ret
  exact ⟨by first | rfl | (rw [← HSub.out]; rfl), Eq.mp (congrArg (TH (w3.setCell ⟨bt, 0, none⟩ (.slice a3 L3.length cap3)) bt) HE.out) HT3.out, HTu.out⟩

theorem all_has (l : List Rw) : (l.filter fun r => Sp.Sp.has ⟨nix, nix⟩ r.key) = l := by
  rw [List.filter_eq_self]
  intro r _
  unfold Sp.Sp.has
  rw [B4.none]; simp
/-- all rows -/
theorem Rows_all (bt : Nat) (l : List Rw) (w : World) (hT : TH w bt l) :
    Calls Try.prog 19 #[ptr bt, .agg #[.string ⟨#[]⟩, .string ⟨#[]⟩]] w fun e w' => ∃ g, e = .returned (.slice (some ⟨g, 0, none⟩) l.length l.length) ∧ w'.ownsRow w.heap.size RowT 3 (.slice (some ⟨g, 0, none⟩) l.length l.length) l.length (rc rwenc l) ∧ Below w.heap.size w w' :=
  (Rows_tb bt l ⟨nix, nix⟩ w hT).mono fun e w' ⟨g, L, he, hL, ho, hb⟩ => by
    rw [all_has] at hL
    subst hL
    exact ⟨g, he, ho, hb⟩

end Go.Proofs.Ythdempdiibjabaa.Tb
