/- Layer 9: a map of stamps, by keys: what a table's rows say. -/
import Derived.Test.YthdempdiibjabaaTbEff
import Derived.Maps.OwnSet
namespace Go.Proofs.Ythdempdiibjabaa.Tb
open Go.RowKit Go.Joins Go.Maps Go.Proofs.Ythdempdiibjabaa.Gk Go.Proofs.Ythdempdiibjabaa.Oq Go.Proofs.Ythdempdiibjabaa.Sp

abbrev RV : Value → Option (DataW Value × List MemPlace) := fun v => some (.held v, [])
abbrev StmT : TypeId := 64
theorem keyedS : Keyed Try.prog 9 := string_keyed Try.underlying9
theorem key_str (s : ByteArray) (h : s.size ≤ 140737488351232) : keyOf Try.prog 9 (.string s) = some (.string s.data.toList) := by
  have hm : s.size ≤ maxLen := by unfold maxLen; omega
  simp [keyOf, mapKey, Try.underlying9, hm]
theorem zero_int (w : World) : (zeroValue 3).run Try.prog w = .ok (.int .i64 0) w := by kernel_rfl

/-- the stamp of a key's row, or 0 -/
def stv (T : List Rw) (q : ByteArray) : Int := match row? T q with | some r => r.stamp | none => 0
/-- a map lies there that has just the rows' stamps -/
def SM (w : World) (b n : Nat) (T : List Rw) : Prop := ∃ D : DataW Value, w.ownsMap Try.prog 9 RV b n D ∧ (∀ q : ByteArray, has D (.string q.data.toList) = (row? T q).isSome) ∧ (∀ q : ByteArray, D.atKey (.string q.data.toList) (.held (.int .i64 0)) = .held (.int .i64 (stv T q))) ∧ Maps.size D = T.length
theorem SM.obj {w : World} {b n : Nat} {T : List Rw} (h : SM w b n T) : ∃ es c, w.heap[b]? = some (.map es c) := by
  obtain ⟨D, ⟨es, c, hb, _⟩, _⟩ := h; exact ⟨es, c, hb⟩
theorem SM.lt {w : World} {b n : Nat} {T : List Rw} (h : SM w b n T) : b < w.heap.size := by
  obtain ⟨es, c, hb⟩ := h.obj; exact (Array.getElem?_eq_some_iff.1 hb).1
theorem SM.stay {w w' : World} {b n : Nat} {T : List Rw} (h : SM w b n T) (e : w'.heap[b]? = w.heap[b]?) : SM w' b n T := by
  obtain ⟨D, ⟨es, c, hb, rest⟩, h2⟩ := h; exact ⟨D, ⟨es, c, e.trans hb, rest⟩, h2⟩
theorem SM.below {w w' : World} {b n : Nat} {T : List Rw} (h : SM w b n T) (hb : Below w.heap.size w w') : SM w' b n T := h.stay (hb.block b h.lt)
theorem SM.turn {w w' : World} {b n bt : Nat} {T l : List Rw} (h : SM w b n T) (ht : TH w bt l) (k : Turn bt w w') : SM w' b n T := by
  refine h.stay (k.block b h.lt ?_)
  obtain ⟨es, c, hb⟩ := h.obj
  obtain ⟨_, a', cap', hg', _⟩ := ht
  show b ≠ bt
  rintro rfl
  rw [hb] at hg'; cases hg'
theorem SM.mono {w : World} {b n m : Nat} {T : List Rw} (h : SM w b n T) (hm : n ≤ m) : SM w b m T := by
  obtain ⟨D, ho, rest⟩ := h; exact ⟨D, ho.mono hm, rest⟩
theorem SM.made (w : World) : SM (w.alloc (.map #[] 0)) w.heap.size 0 [] :=
  ⟨.map [], World.ownsMap_made w Try.prog 9 RV, fun _ => rfl, fun _ => rfl, rfl⟩
theorem SM.look {w : World} {b n : Nat} {T : List Rw} (h : SM w b n T) {q : ByteArray} (hq : q.size ≤ 64) :
    (Instr.lookup StmT (.map (some b)) (.string q) false).run Try.prog w = .ok (.int .i64 (stv T q)) w := by
  obtain ⟨D, ho, h1, h2, _⟩ := h
  obtain ⟨v, ps, hrun, hv⟩ := ho.lookup keyedS Try.underlying64 (zero_int w) (R := RV) (zd := .held (.int .i64 0)) (zp := []) rfl (key_str q (by omega))
  rw [hrun]
  simp only [h2, Option.some.injEq, Prod.mk.injEq] at hv
  rw [DataW.held.inj hv.1]
theorem SM.len {w : World} {b n : Nat} {T : List Rw} (h : SM w b n T) (ty : TypeId) : (Builtin.len_ #[StmT] ty #[.map (some b)]).run Try.prog w = .ok (.int .i64 (T.length : Nat)) w := by
  obtain ⟨D, ho, _, _, h3⟩ := h
  rw [← h3]
  exact ho.len Try.underlying64 ty
theorem ba_data {a b : ByteArray} (h : a ≠ b) : Lit.string a.data.toList ≠ Lit.string b.data.toList := fun e => h (ba_ext (Lit.string.inj e))
theorem SM.put {w : World} {b n : Nat} {T : List Rw} (h : SM w b n T) (hn : n < 1000000) (hT : Rise T) (r : Rw) (hq : r.key.size ≤ 64) :
    ∃ w', (Instr.mapUpdate StmT (.map (some b)) (.string r.key) (.int .i64 r.stamp)).run Try.prog w = .ok () w' ∧ SM w' b (n + 1) (put T r) ∧ w.mapTurned w' b := by
  obtain ⟨D, ho, h1, h2, h3⟩ := h
  obtain ⟨w', hrun, ho', hg⟩ := ho.store keyedS Try.underlying64 (by unfold maxLen; omega) (val := .int .i64 r.stamp) (d := .held (.int .i64 r.stamp)) (ps := []) (key_str r.key (by omega)) rfl
  have hkl : WideAt.IsKeyLit (.string r.key.data.toList) := by simp [WideAt.IsKeyLit]
  refine ⟨w', hrun, ⟨_, ho', fun q => ?_, fun q => ?_, ?_⟩, hg⟩
  · rw [row?_put]
    by_cases e : r.key = q
    · subst e; rw [has_put_same ho.isMap hkl, if_pos rfl]; rfl
    · rw [has_put_other (ba_data (Ne.symm e)), h1, if_neg e]
  · unfold stv
    rw [row?_put]
    by_cases e : r.key = q
    · subst e; rw [atKey_put_same ho.isMap hkl, if_pos rfl]
    · rw [atKey_put_other (ba_data (Ne.symm e)), h2, if_neg e]; rfl
  · rw [size_put (ho.tidy keyedS), h1, h3]
    cases ho : row? T r.key with
    | none => rw [Tb.put_new hT ho]; rfl
    | some x => rw [Tb.put_old hT ho]; rfl
theorem SM.drop {w : World} {b n : Nat} {T : List Rw} (h : SM w b n T) (hT : Rise T) {k : ByteArray} {x : Rw} (hk : row? T k = some x) (hq : k.size ≤ 64) (ty : TypeId) :
    ∃ w', (Builtin.delete_ #[StmT, 9] ty #[.map (some b), .string k]).run Try.prog w = .ok (.tuple #[]) w' ∧ SM w' b n (del T k) ∧ w.mapTurned w' b := by
  obtain ⟨D, ho, h1, h2, h3⟩ := h
  obtain ⟨w', hrun, ho', hg⟩ := ho.drop keyedS Try.underlying64 (key_str k (by omega)) ty
  refine ⟨w', hrun, ⟨_, ho', fun q => ?_, fun q => ?_, ?_⟩, hg⟩
  · rw [row?_del]
    by_cases e : k = q
    · subst e; rw [has_del_same, if_pos rfl]; rfl
    · rw [has_del_other (ba_data (Ne.symm e)), h1, if_neg e]
  · unfold stv
    rw [row?_del]
    by_cases e : k = q
    · subst e; rw [atKey_del_same, if_pos rfl]
    · rw [atKey_del_other (ba_data (Ne.symm e)), h2, if_neg e]; rfl
  · have h5 := size_del (k := .string k.data.toList) (ho.tidy keyedS)
    have h4 := del_old hT hk
    rw [h1, hk] at h5
    simp at h5
    omega
theorem TH.mapped {w w' : World} {b n bt : Nat} {T l : List Rw} (h : SM w b n T) (ht : TH w bt l) (hm : w.mapTurned w' b) : TH w' bt l := by
  obtain ⟨es, c, hb⟩ := h.obj
  obtain ⟨hok, a, cap, hg, hr⟩ := ht
  have hgr := hm.grown
  have hne : ∀ (k : Nat) (cs : Array Value) (T : TypeId), w.heap[k]? = some (.cells cs T (0, 0)) → w'.heap[k]? = w.heap[k]? := fun k cs T hk => hgr.block k (Array.getElem?_eq_some_iff.1 hk).1 fun e => by
    cases e; rw [hb] at hk; cases hk
  refine ⟨hok, a, cap, (hne _ _ _ hg).trans hg, hr.stay fun g hg => ?_⟩
  obtain ⟨cur, hc⟩ := hr.lt hg
  exact hne _ _ _ hc

/-- what a write that is OK does -/
theorem one_fail {T : List Rw} {x : Opn} (hc : (one T x).1.code ≠ 0) : (one T x).2 = T := by
  revert hc
  unfold one
  split
  · intro _; rfl
  · split
    · split
      · split
        · intro _; rfl
        · split
          · intro _; rfl
          · intro h; exact absurd rfl h
      · intro _; rfl
    · split
      · intro _; rfl
      · split
        · intro _; rfl
        · split
          · intro h; exact absurd rfl h
          · split
            · intro h; exact absurd rfl h
            · split
              · intro _; rfl
              · split
                · intro _; rfl
                · intro h; exact absurd rfl h
theorem write_kind {x : Opn} (hw : x.writes = true) : 1 ≤ x.kind ∧ x.kind ≤ 4 := by
  unfold Opn.writes at hw
  exact within_iff hw
theorem may_stamp {x : Opn} (hm : x.may = true) (hk : x.kind = 1 ∨ x.kind = 2 ∨ x.kind = 3) : 1 ≤ x.stamp := by
  have hp : x.put = true := by
    unfold Opn.may at hm
    rcases hk with h | h | h <;> simp [h] at hm <;> exact hm.1
  unfold Opn.put at hp
  simp only [Bool.and_eq_true] at hp
  obtain ⟨⟨⟨h1, _⟩, h3⟩, _⟩ := hp
  exact (within_iff h3).1
theorem one_write {T : List Rw} {x : Opn} (hm : x.may = true) (hw : x.writes = true) (hc : (one T x).1.code = 0) :
    (x.kind = 4 ∧ ∃ r, row? T x.key = some r ∧ one T x = (Tb.rs 0 r.stamp nix, del T x.key)) ∨ (x.kind ≠ 4 ∧ one T x = (Tb.rs 0 x.stamp nix, put T (Opn.row x)) ∧ stv T x.key < x.stamp ∧ (x.kind = 1 → stv T x.key = 0) ∧ x.val.size ≤ 4096) := by
  have hk := write_kind hw
  revert hc
  unfold one stv
  rw [if_neg (by omega)]
  cases ho : row? T x.key with
  | none =>
    simp only
    split
    · rename_i h1
      have h4 : x.kind ≠ 4 := by omega
      have hst := may_stamp hm (by omega)
      split
      · intro h; exact absurd h (by simp)
      · rename_i hv
        split
        · intro h; exact absurd h (by simp)
        · intro _; exact Or.inr ⟨h4, rfl, by omega, fun _ => trivial, by omega⟩
    · intro h; exact absurd h (by simp)
  | some r =>
    simp only
    split
    · intro h; exact absurd h (by simp)
    · rename_i h1
      split
      · intro h; exact absurd h (by simp)
      · split
        · rename_i h4; intro _; exact Or.inl ⟨h4, r, rfl, rfl⟩
        · rename_i h4
          split
          · rename_i h5; omega
          · split
            · intro h; exact absurd h (by simp)
            · rename_i h6
              split
              · intro h; exact absurd h (by simp)
              · rename_i h7
                intro _; exact Or.inr ⟨h4, rfl, by omega, fun h => absurd h h1, by omega⟩
/-- reading a key -/
theorem get_may {x : Opn} (hm : x.may = true) (hw : x.writes = true) : Opn.may ⟨5, x.key, ⟨#[]⟩, 0, 0, 0⟩ = true ∧ x.key.size ≤ 64 := by
  have hk := write_kind hw
  have hb : keyB x.key = true := by
    unfold Opn.may Opn.put at hm
    by_cases k1 : x.kind = 1
    · simp [k1] at hm; exact hm.1.1.1.1
    by_cases k2 : x.kind = 2
    · simp [k2] at hm; exact hm.1.1.1.1
    by_cases k3 : x.kind = 3
    · simp [k3] at hm; exact hm.1.1.1.1
    have k4 : x.kind = 4 := by omega
    simp [k4] at hm; exact hm.1.1.1.1
  have hs : x.key.size ≤ 64 := by
    have := (within_iff (show within x.key.size 1 64 = true from hb)).2
    omega
  refine ⟨?_, hs⟩
  unfold Opn.may
  simp only
  rw [if_neg (by decide), if_neg (by decide), if_pos (by decide), hb]
  rfl
theorem get_del {T : List Rw} {x : Opn} (hm : x.may = true) (hw : x.writes = true) : dos (del T x.key) [⟨5, x.key, ⟨#[]⟩, 0, 0, 0⟩] = (⟨[Tb.rs 91 0 nix], 0, 0⟩, del T x.key) := by
  rw [dos_one _ (get_may hm hw).1]
  have : one (del T x.key) ⟨5, x.key, ⟨#[]⟩, 0, 0, 0⟩ = (Tb.rs 91 0 nix, del T x.key) := by
    unfold one
    rw [if_neg (by simp)]
    simp only
    rw [row?_del, if_pos rfl]
    simp
  rw [this]
theorem get_put {T : List Rw} {x : Opn} (hm : x.may = true) (hw : x.writes = true) : dos (put T (Opn.row x)) [⟨5, x.key, ⟨#[]⟩, 0, 0, 0⟩] = (⟨[Tb.rs 0 x.stamp x.val], 0, 0⟩, put T (Opn.row x)) := by
  rw [dos_one _ (get_may hm hw).1]
  have : one (put T (Opn.row x)) ⟨5, x.key, ⟨#[]⟩, 0, 0, 0⟩ = (Tb.rs 0 x.stamp x.val, put T (Opn.row x)) := by
    unfold one
    rw [if_neg (by simp)]
    simp only
    rw [row?_put, if_pos rfl]
    simp
  rw [this]

end Go.Proofs.Ythdempdiibjabaa.Tb
