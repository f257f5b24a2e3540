/- Layer 9: what Do comes to, of one and of more; results that stay. -/
import Derived.Test.YthdempdiibjabaaTbPly
import Derived.Test.YthdempdiibjabaaGArgs
namespace Go.Proofs.Ythdempdiibjabaa.Tb
open Go.RowKit Go.Joins Go.Proofs.Ythdempdiibjabaa.Gk Go.Proofs.Ythdempdiibjabaa.Oq Go.Proofs.Ythdempdiibjabaa.Sp

theorem dos_more {ops : List Opn} {l : List Rw} (h2 : 2 ≤ ops.length) : (∃ at_ code, code ≠ 0 ∧ dos l ops = (⟨[], at_, code⟩, l)) ∨ ((∀ x ∈ ops, x.may = true) ∧ ops.length ≤ 32 ∧ (∀ r ∈ (runs l ops).1, r.code = 0) ∧ dos l ops = (⟨(runs l ops).1, 0, 0⟩, (runs l ops).2)) := by
  by_cases hc : (chk ops).2 ≠ 0
  · exact Or.inl ⟨_, _, hc, dos_bad l hc⟩
  · have hz : (chk ops).2 = 0 := Decidable.byContradiction fun h => hc h
    have hn : ¬ (ops.length < 1 ∨ 32 < ops.length) := by
      intro hn; unfold chk at hz; rw [if_pos hn] at hz; cases hz
    have hb : badAt ops = none := by
      cases hb : badAt ops with
      | none => rfl
      | some i => unfold chk at hz; rw [if_neg hn, hb] at hz; cases hz
    have hm := badAt_none hb
    cases hf : failAt (runs l ops).1 with
    | none =>
      have hz : ∀ r ∈ (runs l ops).1, r.code = 0 := by
        intro r hr
        have := List.findIdx?_eq_none_iff.1 hf r hr
        simpa using this
      exact Or.inr ⟨hm, by omega, hz, dos_ok hm (by omega) (by omega) fun _ => hz⟩
    | some i =>
      obtain ⟨hi, h1, _⟩ := List.findIdx?_eq_some_iff_getElem.1 hf
      refine Or.inl ⟨i, (runs l ops).1[i].code, by simpa using h1, ?_⟩
      · unfold dos
        rw [if_neg hn, hb]
        simp only
        rw [if_neg (by omega), hf]
        simp only
        rw [List.getElem?_eq_getElem hi]
        rfl
/-- one that may be, alone -/
theorem dos_one {x : Opn} (l : List Rw) (hm : x.may = true) : dos l [x] = (⟨[(one l x).1], 0, 0⟩, (one l x).2) := by
  rw [dos_ok (ops := [x]) (fun y hy => by rw [List.mem_singleton.1 hy]; exact hm) (by simp) (by simp) (fun h => by simp at h)]
  rfl

theorem one_rows {l : List Rw} (h : Tok l) (x : Opn) : (one l x).1.rows.length ≤ 4096 := by
  have hl := h.len
  unfold one
  split
  · simp only [List.length_take, List.length_drop]; omega
  · split
    · split
      · split
        · simp
        · split <;> simp
      · simp
    · split
      · simp
      · split
        · simp
        · split
          · simp
          · split
            · simp
            · split
              · simp
              · split <;> simp
/-- results that stay -/
structure Got (w : World) (ra : Option Addr) (rcap : Nat) (rl : List RsA) : Prop where
  row : w.ownsRow 0 ResT 4 (.slice ra rl.length rcap) rl.length (rc rsenc rl)
  rows : ∀ x ∈ rl, RL w x.a x.cap x.r.rows
theorem DoP.got {bt : Nat} {w w' : World} {an : Ans × List Rw} {ra : Option Addr} {rcap : Nat} {rl : List RsA} (h : DoP bt w an ra rcap rl w') : Got w' ra rcap rl := ⟨own_mono h.row (Nat.zero_le _), h.rows⟩
theorem Got.below {w w' : World} {ra : Option Addr} {rcap : Nat} {rl : List RsA} (h : Got w ra rcap rl) (hb : Below w.heap.size w w') : Got w' ra rcap rl := ⟨own_below h.row hb, fun x hx => (h.rows x hx).below hb⟩
theorem Got.turn {w w' : World} {ra : Option Addr} {rcap : Nat} {rl : List RsA} {b : Nat} {m : List Rw} (h : Got w ra rcap rl) (ht : TH w b m) (k : Turn b w w') : Got w' ra rcap rl := by
  refine ⟨own_stay h.row fun g hg => k.block g (h.row.lt g hg).2 ?_, fun x hx => (h.rows x hx).turn ht k⟩
  obtain ⟨_, a, cap, hb, _⟩ := ht
  exact own_ne h.row hb (by decide) hg
theorem Got.lies {w : World} {ra : Option Addr} {rcap : Nat} {rl : List RsA} (h : Got w ra rcap rl) : ResL w ra rl := ⟨Row.lies (enc := rsenc) (k := 4) h.row, h.rows⟩
theorem Got.at {w : World} {ra : Option Addr} {rcap : Nat} {rl : List RsA} (h : Got w ra rcap rl) (i : Nat) (hi : i < rl.length) : ∃ g, ra = some ⟨g, 0, none⟩ ∧ rl.length ≤ rcap ∧ ResL w (some ⟨g, i * 4, none⟩) [rl[i]] := by
  obtain ⟨g, cap, cur, e, hg, h1, h2, h3, h4⟩ := own_form h.row (by omega)
  cases e
  refine ⟨g, rfl, h1, ⟨Or.inr ⟨g, i * 4, rfl, (Array.getElem?_eq_some_iff.1 hg).1, fun j u hj => ?_⟩, fun x hx => ?_⟩⟩
  · rw [rc_one] at hj
    have hj4 : j < 4 := by have := (List.getElem?_eq_some_iff.1 hj).1; rwa [rsenc_len] at this
    have := (rc_at rsenc_len rl i hi j hj4).trans hj
    rw [cell_of_block hg, ← Array.getElem?_toList]
    rw [← h4, List.getElem?_take] at this
    split at this
    · exact this
    · cases this
  · rw [List.mem_singleton.1 hx]; exact h.rows _ (List.getElem_mem hi)
/-- one of a list of operations -/
theorem op_at {w : World} {a : Option Addr} {l : List Opn} (h : Lies w oenc a l) (i : Nat) (hi : i < l.length) : ∃ b off, a = some ⟨b, off, none⟩ ∧ Lies w oenc (some ⟨b, off + i * 6, none⟩) [l[i]] := by
  obtain ⟨b, off, e, hb, hc⟩ := h.at (k := 6) oenc_len i hi
  refine ⟨b, off, e, Or.inr ⟨b, off + i * 6, rfl, hb, fun j u hj => ?_⟩⟩
  rw [rc_one] at hj
  exact hc j u hj

end Go.Proofs.Ythdempdiibjabaa.Tb
