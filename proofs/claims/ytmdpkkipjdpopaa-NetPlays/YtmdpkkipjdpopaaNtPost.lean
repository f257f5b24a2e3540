/- Walks over net.go: post, remove. -/
import Derived.Test.YtmdpkkipjdpopaaNtDelF
namespace Go.Proofs.Ytmdpkkipjdpopaa.Nk
open Go.RowKit Go.Joins Gk
attribute [local go_sem ↓] Go.wp_at_zero Go.wp_at_succ

/-- one element more, at a step of a region that draws its order -/
theorem step_push {α : Type} {enc : α → List Value} {k : Nat} {w : World} {ops : Array Oper} {o : Oper} {a : Act} {K : Act → World → Prop} {Q : Exit → Act → World → Prop} {E : Prop} (hgd : o.guard = none) (s x : Operand) (t : TypeId)
    (ho : o.op = .call { callee := .builtin .append, args := #[s, x], argTypes := #[t, t] })
    (e : TypeId) (z : Value) (bytes : Nat) (ht : Try.prog.underlying t = some (.slice e)) (hinf : (Try.prog.info? e).map (fun i => (i.zero, i.size, i.bytes)) = some (some z, k, bytes)) (hzs : z.cells.size = k) (hk0 : 0 < k)
    (hk : ∀ x, (enc x).length = k) (h1 : ∀ x, ∀ u ∈ enc x, u.oneCell' = true)
    (v : Value) (l : List α) (hs : a.eval s = v) (hown : Row w enc e k v l) (B : Nat) (y : α) (hx : a.eval x = .slice (some ⟨B, 0, none⟩) 1 1) (hB : w.heap[B]? = some (.cells (enc y).toArray e (0, 0))) (hbytes : (l.length + 1) * bytes ≤ 140737488355328) (hlen : l.length + 1 ≤ 140737488355328)
    (h : ∀ ad cap w', Row w' enc e k (.slice ad (l.length + 1) cap) (l ++ [y]) → w.grownBy w' v.ownBlock → (∀ g, (Value.slice ad (l.length + 1) cap).ownBlock = some g → v.ownBlock = some g ∨ w.heap.size ≤ g) → K (a.put o.dst (.slice ad (l.length + 1) cap)) w') :
    if Region.wanted o (yielded ops a.tmps) = true then Oper.wp Try.prog o a w K Q else E := by
  obtain ⟨i0, hi, hz0, hz1, hz2⟩ := info_parts hinf
  refine step_append_lies w hgd s x t ho 0 e i0 z k bytes ht hi hz0 hz1 hz2 hzs hk0 v l.length _ hs hown ⟨B, 0, none⟩ 1 1 (enc y) hx (by rw [hk, Nat.one_mul]) (World.news_of_block hB) (h1 y) (by omega) (by unfold maxLen; omega) hbytes (by omega) _ rfl ?_
  intro g cap w' hown' hg hat _
  refine h _ _ _ ?_ hg (fun g' hg' => ?_)
  · show w'.ownsRow 0 e k _ (l ++ [y]).length (rc enc (l ++ [y]))
    rw [rc_append, rc_one, List.length_append]; exact hown'
  · simp only [Value.ownBlock, Option.some.injEq] at hg'
    subst hg'
    exact hat.imp id fun e => by omega

/-- a letter is posted -/
def Nst.post (S : Nst) (a b : Nat) (s : ByteArray) : Nst := { S with sent := S.sent + 1, ls := S.ls ++ [⟨S.sent, a, b, s⟩] }

set_option maxHeartbeats 3200000 in
set_option maxRecDepth 100000 in
theorem post_any {own : Nat → Prop} {bn : Nat} {S : Nst} {v u : Value} (w : World) (h : NHeldL w own bn S v u) (hfr : Fresh own w) (hl : S.ls.length ≤ 4096) (hsn : S.sent ≤ 1099511627776) (a b : Nat) (s : ByteArray) (hs : s.size ≤ 140737488351232) :
    Calls Try.prog 33 #[.pointer (some ⟨bn, 0, none⟩), .int .i64 a, .int .i64 b, .string s] w fun e w' => e = .returned (.int .i64 S.sent) ∧ NHeld w' own bn (S.post a b s) ∧ Only own w w' := by
  obtain ⟨av, cv, rfl⟩ := h.row.slice
  have c1 := h.c1
  have z1 := h.fz 1
  have hset := h.setSent (S.sent + 1)
  have hbl := h.lt
  go_enter Try.func33, Try.ntmps33
  go_wp2_with fail
  obtain ⟨W, hW⟩ : ∃ W, W = w.setCell ⟨bn, 1, none⟩ (.int .i64 ((S.sent : Int) + 1)) := ⟨_, rfl⟩
  have h1 : NHeldL W own bn { S with sent := S.sent + 1 } (.slice av S.ls.length cv) u := by rw [hW]; exact hset
  have hO1 : Only own w W := by rw [hW]; exact Only.of_set w h.ownD _
  rw [← hW]
  clear hset hW
  have hrb : ∀ g, (Value.slice av S.ls.length cv).ownBlock = some g → g ≠ bn ∧ g < W.heap.size := fun g hg => ⟨h1.rowNe hg, h1.rowLt hg⟩
  have k2 := h1.c2
  have hbW := h1.lt
  have HH := hide h1
  have HR := hide h
  clear h h1 c1 z1
  go_region_law (first | (go_simp; go_at_call 37; refine (clone_any s _ hs).mono ?_; rintro e w1 ⟨rfl, hb1⟩; have hh1 := hide (HH.out.below (w' := w1) ((Below.refl _ _).drew.trans hb1)); have k2' := hh1.out.c2; have z2' := hh1.out.fz 2; have hz1 := hh1.out.lt) | (refine step_push (enc := lenc) (k := 4) (by rfl) (.tmp 25) (.tmp 32) 45 (by rfl) LetT noL 40 Try.underlying45 let_info rfl (by decide) lenc_len lenc_one (.slice av S.ls.length cv) S.ls (by rfl) (hh1.out.below (below_alloc1 w1 _)).row w1.heap.size ⟨S.sent, a, b, s⟩ (by rfl) (heap_alloc_new w1 _) (by omega) (by omega) ?_; intro ad cap w3 hrow3 hg3 hat3; have h2 := hide (hh1.out.below (below_alloc1 w1 (.cells (lenc ⟨S.sent, a, b, s⟩).toArray LetT))); have hb3 := hide (hg3.block bn h2.out.lt (fun e => h2.out.rowNe e.symm rfl)); have k3 := (World.cell?_of_block (a := ⟨bn, 2, none⟩) hb3.out).trans h2.out.c2; have z3 := (World.frozen?_of_block (a := ⟨bn, 2, none⟩) hb3.out).trans (h2.out.fz 2)))
  all_goals
    go_wp2
    go_ret
    have hb2 := (Below.refl W.heap.size W).drew.trans hb1
    have hOw1 : Only own w w1 := hO1.trans (Only.of_below hb2)
    have hO2 := hOw1.trans (Only.of_below (below_alloc1 w1 (.cells (lenc ⟨S.sent, a, b, s⟩).toArray LetT)))
    have hO3 := hO2.trans (Only.of_grown hg3 fun k e => h2.out.ownR k e)
    refine ⟨rfl, ⟨_, _, h2.out.setRow hrow3 hb3.out (fun g hg => hg3.block g (h2.out.prowLt hg) fun e => h2.out.apart e.symm hg rfl) (fun g hg => (hat3 g hg).elim (h2.out.ownR g) fun hge => hfr g (Nat.le_trans hO2.size hge))⟩, hO3.trans (Only.of_set w3 h2.out.ownD _)⟩

set_option maxHeartbeats 1600000 in
theorem remove_any {own : Nat → Prop} {bn : Nat} {S : Nst} {v u : Value} (w : World) (h : NHeldL w own bn S v u) (hl : S.ls.length ≤ 4096) (i : Nat) (hi : i < S.ls.length) :
    Calls Try.prog 35 #[.pointer (some ⟨bn, 0, none⟩), .int .i64 i] w fun e w' => e = .returned (.tuple #[]) ∧ NHeld w' own bn { S with ls := S.ls.eraseIdx i } ∧ Only own w w' := by
  obtain ⟨g, cap, cur, rfl, _⟩ := own_form h.row (by omega)
  have hD := delete_any g cap i (i + 1) S.ls.length S.ls w rfl h.row hi rfl
  have c2 := h.c2
  have HH := hide h
  clear h
  have e1 : ((i + 1 : Nat) : Int) = (i : Int) + 1 := by omega
  rw [e1] at hD
  clear e1
  go_enter Try.func35, Try.ntmps35
  go_wp2_with (go_at_call 51; refine hD.mono ?_; rintro e w1 ⟨rfl, hr1, hg1⟩; have hb1 := hide (hg1.block bn HH.out.lt (fun e => HH.out.rowNe e.symm rfl)); have k1 := (World.cell?_of_block (a := ⟨bn, 2, none⟩) hb1.out).trans HH.out.c2; have z1 := (World.frozen?_of_block (a := ⟨bn, 2, none⟩) hb1.out).trans (HH.out.fz 2))
  refine bodyPost_end (v := .tuple #[]) (by simp [results, Try.results35]) rfl ?_
  refine ⟨rfl, ⟨_, _, HH.out.setRow hr1 hb1.out (fun g' hg => hg1.block g' (HH.out.prowLt hg) fun e => HH.out.apart e.symm hg rfl) (fun g' hg => HH.out.ownR g' hg)⟩, (Only.of_grown hg1 fun k e => HH.out.ownR k e).trans (Only.of_set w1 HH.out.ownD _)⟩

end Go.Proofs.Ytmdpkkipjdpopaa.Nk
