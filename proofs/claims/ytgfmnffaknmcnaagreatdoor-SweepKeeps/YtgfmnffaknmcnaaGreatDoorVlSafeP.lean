/- ValsSafe in plain mathematics: what is known behind puts, syncs, a crash and Open. -/
import Derived.Test.YtgfmnffaknmcnaaGreatDoorVlNew
import Derived.Test.YtgfmnffaknmcnaaGreatDoorGArgs
namespace Go.Proofs.YtgfmnffaknmcnaaGreatDoor.Vl
open Go.RowKit Go.Joins
open Go.Proofs.YtgfmnffaknmcnaaGreatDoor.Dk (Bs Fil Fls St St.Ok Held Only Rising named getL getL_some getL_none getL_of_mem putL fileOr used syncL crashL tornF keptOf keptOf_le)

theorem getL_sync (k : Bs) (l : Fls) : getL k (syncL l) = (getL k l).map fun f => ⟨f.data, f.data.length⟩ := Dk.getL_map (fun f : Fil => (⟨f.data, f.data.length⟩ : Fil)) k l
theorem getL_crash (k : Bs) : ∀ (l : Fls) (ds : List Int) (f : Fil), getL k l = some f → f.safe ≤ f.data.length → ∃ m, f.safe ≤ m ∧ m ≤ f.data.length ∧ getL k (crashL l ds) = some ⟨f.data.take m, m⟩
  | [], _, _, h, _ => by simp [getL] at h
  | p :: r, ds, f, h, hs => by
    unfold crashL
    by_cases hk : (p.1 == k) = true
    · have e : p.2 = f := by simpa [getL, List.find?_cons, hk] using h
      subst e
      split
      · rename_i e
        refine ⟨p.2.data.length, by omega, Nat.le_refl _, ?_⟩
        have : p.2 = ⟨p.2.data.take p.2.data.length, p.2.data.length⟩ := by
          rw [List.take_length]; cases hp : p.2 with | mk d s => simp only [hp] at e; simp only [e]
        simp only [getL, List.find?_cons, hk, Option.map_some]; rw [← this]
      · have := keptOf_le (ds.headD 0) (p.2.data.length - p.2.safe)
        exact ⟨p.2.safe + keptOf (ds.headD 0) (p.2.data.length - p.2.safe), by omega, by omega, by simp only [getL, List.find?_cons, hk, Option.map_some]; rfl⟩
    · have hk' : (p.1 == k) = false := by simpa using hk
      have h' : getL k r = some f := by simpa [getL, List.find?_cons, hk'] using h
      split
      · obtain ⟨m, h1, h2, h3⟩ := getL_crash k r ds f h' hs
        exact ⟨m, h1, h2, by simpa [getL, List.find?_cons, hk'] using h3⟩
      · obtain ⟨m, h1, h2, h3⟩ := getL_crash k r ds.tail f h' hs
        exact ⟨m, h1, h2, by simpa [getL, List.find?_cons, hk'] using h3⟩
theorem ints_lies {w W : World} {own : Nat → Prop} {a : Option Addr} {cap : Nat} {ds : List Int} (h : Gk.IntsAt w a cap ds) (hb : Below w.heap.size w W) (ho : ∀ b, own b → w.heap.size ≤ b) : Dk.LiesI W own a ds := by
  rcases h.lies with e | ⟨b, off, e, hlt, hc⟩
  · exact Or.inl e
  · refine Or.inr ⟨b, off, e, Nat.lt_of_lt_of_le hlt hb.size, fun hh => by have := ho b hh; omega, fun i hi => ?_⟩
    obtain ⟨b', off', e', hlt', hc'⟩ := (h.lies.below hb).at Gk.ienc_len i hi
    rw [e] at e'
    cases e'
    have := hc' 0 _ rfl
    rwa [Nat.mul_one, Nat.add_zero] at this
/-- what was put, where, and how much of it is safe -/
structure Sf (S : St) (ps : List (Nat × Nat × Nat)) (ts : List ByteArray) (sure : Nat) : Prop where
  len : ps.length = ts.length
  ins : ∀ j (h : j < ps.length) (h2 : j < ts.length), In S ps[j] ts[j]
  ord : ∀ i j (hi : i < ps.length) (hj : j < ps.length), i < j → ps[i].1 = ps[j].1 → ps[i].2.1 + ps[i].2.2 + 8 ≤ ps[j].2.1
  le : sure ≤ ps.length
  safe : ∀ j (h : j < ps.length), j < sure → ∃ f, getL (nm ps[j].1) S.files = some f ∧ ps[j].2.1 + ps[j].2.2 + 8 ≤ f.safe
theorem Sf.nil (S : St) : Sf S [] [] 0 := ⟨rfl, by simp, by simp, by simp, by simp⟩
theorem Sf.put {S : St} {ps : List (Nat × Nat × Nat)} {ts : List ByteArray} {sure n : Nat} {s : ByteArray} (h : Sf S ps ts sure) (hr : Rising S.files) (hc : Cln S) (h1 : 1 ≤ n) (h2 : n ≤ 1048576) (hs : s.size ≤ 65536) : Sf (putS S n s) (ps ++ [(n, (dat S n).length, s.size)]) (ts ++ [s]) sure := by
  have hl := h.len
  refine ⟨by simp [hl], fun j hj hj2 => ?_, fun i j hi hj hij e => ?_, by rw [List.length_append]; exact Nat.le_trans h.le (Nat.le_add_right _ _), fun j hj hjs => ?_⟩
  · by_cases hjl : j < ps.length
    · rw [List.getElem_append_left hjl, List.getElem_append_left (by omega)]
      exact (h.ins j hjl (by omega)).put hr
    · have e : j = ps.length := by simp at hj; omega
      subst e
      have e1 : (ps ++ [(n, (dat S n).length, s.size)])[ps.length] = (n, (dat S n).length, s.size) := by simp
      have e2 : (ts ++ [s])[ps.length]'hj2 = s := by simp [hl]
      rw [e1, e2]
      exact In.new hc hr h1 h2 hs
  · have hil : i < ps.length := by simp at hj; omega
    rw [List.getElem_append_left hil] at e ⊢
    by_cases hjl : j < ps.length
    · rw [List.getElem_append_left hjl] at e ⊢
      exact h.ord i j hil hjl hij e
    · have ej : j = ps.length := by simp at hj; omega
      subst ej
      simp only [List.getElem_append_right (Nat.le_refl _), Nat.sub_self, List.getElem_cons_zero] at e ⊢
      have := (h.ins i hil (by omega)).le
      rw [e] at this
      exact this
  · have hjl : j < ps.length := Nat.lt_of_lt_of_le hjs h.le
    rw [List.getElem_append_left hjl]
    obtain ⟨f, hf, hle⟩ := h.safe j hjl hjs
    by_cases e : nm ps[j].1 = nm n
    · refine ⟨⟨dat S n ++ frm s.data.toList, (fileOr (nm n) S.files).safe⟩, by rw [putS_get hr, if_pos e], ?_⟩
      have : fileOr (nm n) S.files = f := by rw [← e]; unfold fileOr; rw [hf]; rfl
      rw [this]; exact hle
    · exact ⟨f, by rw [putS_get hr, if_neg e]; exact hf, hle⟩
/-- all is synced -/
theorem Up.sync {S : St} (h : Up S) : S.sync = (0, { S with files := syncL S.files }) := h.do _
theorem sync_dat {S : St} {n : Nat} (hn : n ≤ 1048577) : dat { S with files := syncL S.files } n = dat S n := by
  unfold dat St.read
  rw [if_neg (by simp [nm_named hn]), if_neg (by simp [nm_named hn]), getL_sync]
  cases getL (nm n) S.files <;> rfl
theorem Sf.sync {S : St} {ps : List (Nat × Nat × Nat)} {ts : List ByteArray} {sure : Nat} (h : Sf S ps ts sure) : Sf { S with files := syncL S.files } ps ts ps.length := by
  refine ⟨h.len, fun j hj hj2 => ?_, h.ord, Nat.le_refl _, fun j hj _ => ?_⟩
  · obtain ⟨h1, h2, xs, b, f, hf, hd, hm, e1, e2⟩ := h.ins j hj hj2
    exact ⟨h1, h2, xs, b, ⟨f.data, f.data.length⟩, by rw [getL_sync, hf]; rfl, hd, hm, e1, e2⟩
  · have hi := h.ins j hj (by have := h.len; omega)
    have hle := hi.le
    obtain ⟨h1, h2, xs, b, f, hf, _⟩ := hi
    rw [dat_get (by omega) hf] at hle
    exact ⟨⟨f.data, f.data.length⟩, by rw [getL_sync, hf]; rfl, hle⟩
theorem Vs.sync {S : St} {top c k : Nat} (h : Vs S top c k) (hr : Rising S.files) : Vs { S with files := syncL S.files } top c k := by
  have hn : nums { S with files := syncL S.files } = nums S := nums_same hr (Dk.rising_map hr _) fun n => by
    simp only [getL_sync, Option.isSome_map]
  exact ⟨⟨h.up.fuse, h.up.down⟩, h.room, by rw [hn]; exact h.tops, h.topk, by rw [Dk.used_syncL]; exact h.used, by simpa [syncL] using h.many⟩
theorem Cln.sync {S : St} (h : Cln S) : Cln { S with files := syncL S.files } := fun n hn => by rw [sync_dat hn]; exact h n hn
/-- what Get answers behind a crash and Open: of a file the first Q bytes are left -/
structure Aft (S' : St) (ps : List (Nat × Nat × Nat)) (ts : List ByteArray) (sure : Nat) (Q : Nat → Nat) : Prop where
  file : ∀ j (h : j < ps.length), ps[j].1 ∈ nums S'
  get : ∀ j (h : j < ps.length) (h2 : j < ts.length), getR ⟨(dat S' ps[j].1).toArray⟩ (ps[j].2.1 : Nat) (ps[j].2.2 : Nat) = if ps[j].2.1 + ps[j].2.2 + 8 ≤ Q ps[j].1 then (ts[j], 0) else (⟨#[]⟩, 110)
  sure : ∀ j (h : j < ps.length), j < sure → ps[j].2.1 + ps[j].2.2 + 8 ≤ Q ps[j].1
  small : ∀ j (h : j < ps.length), ps[j].2.1 ≤ 262144
theorem crash_open {S S2 S3 : St} {ps : List (Nat × Nat × Nat)} {ts : List ByteArray} {sure : Nat} (h : Sf S ps ts sure) (hok : S.Ok) (ds : List Int) (hS2 : S2 = { S with files := crashL S.files ds, fuse := -1, down := false }) (hO : Opd S2 S3 (nums S2)) : ∃ Q, Aft S3 ps ts sure Q := by
  have hn2 : nums S2 = nums S := by
    unfold nums
    rw [hS2]
    show numsL ((crashL S.files ds).map (·.1)) = _
    rw [Dk.crashL_keys]
  have key : ∀ n ∈ nums S, ∃ f q, getL (nm n) S.files = some f ∧ q ≤ f.data.length ∧ dat S3 n = f.data.take q ∧ ∀ xs b, f.data = vfr xs ++ b → mayV xs → lens xs ≤ f.safe → lens xs ≤ q := fun n hn => by
    obtain ⟨f, hf⟩ := nums_get hok.rising hn
    have hb := nums_bound hn
    have hsafe : f.safe ≤ f.data.length := (hok.each _ (getL_some hf)).2
    obtain ⟨m, m1, m2, m3⟩ := getL_crash (nm n) S.files ds f hf hsafe
    have hf2 : getL (nm n) S2.files = some ⟨f.data.take m, m⟩ := by rw [hS2]; exact m3
    have hf3 := hO.here n (by rw [hn2]; exact hn)
    rw [hf2] at hf3
    have hd3 : dat S3 n = (tidyF ⟨f.data.take m, m⟩).data := dat_get (by omega) hf3
    have hml : (f.data.take m).length = m := by rw [List.length_take]; omega
    have hend := (frames_end ⟨(f.data.take m).toArray⟩).2.1
    have hsz : (ByteArray.mk (f.data.take m).toArray).size = m := by show Array.size _ = _; rw [List.size_toArray]; exact hml
    refine ⟨f, (frames ⟨(f.data.take m).toArray⟩).2, hf, by omega, ?_, fun xs b hd hm hs => ?_⟩
    · rw [hd3]
      unfold tidyF
      simp only
      split
      · simp only
        rw [List.take_take, Nat.min_eq_left (by omega)]
      · rename_i hc
        simp only
        congr 1
        omega
    · have ht : f.data.take m = vfr xs ++ b.take (m - lens xs) := by
        rw [hd, List.take_append, List.take_of_length_le (by rw [vfr_length]; omega), vfr_length]
      obtain ⟨zs, _, h2⟩ := frames_has xs (b.take (m - lens xs)) hm
      rw [← ht] at h2
      omega
  refine ⟨fun n => if hn : n ∈ nums S then (key n hn).choose_spec.choose else 0, fun j hj => ?_, fun j hj hj2 => ?_, fun j hj hjs => ?_, fun j hj => by
    have hi := h.ins j hj (by have := h.len; omega)
    have h1 := hi.le
    have h2 := dat_le hok (show ps[j].1 ≤ 1048577 by have := hi.2.1; omega)
    omega⟩
  · rw [hO.nums, hn2]; exact (h.ins j hj (by have := h.len; omega)).file
  · have hi := h.ins j hj hj2
    have hmem := hi.file
    rw [dif_pos hmem]
    obtain ⟨k1, k2, k3, -⟩ := (key _ hmem).choose_spec.choose_spec
    generalize (key _ hmem).choose_spec.choose = q at *
    generalize (key _ hmem).choose = f at *
    obtain ⟨h1, h2, xs, b, f', hf', hd, hm, e1, e2⟩ := hi
    rw [k1] at hf'
    cases hf'
    rw [k3, hd, e1, e2]
    rw [hd] at k2
    exact getR_in hm q k2
  · have hi := h.ins j hj (by have := h.len; omega)
    have hmem := hi.file
    rw [dif_pos hmem]
    obtain ⟨k1, k2, -, k4⟩ := (key _ hmem).choose_spec.choose_spec
    obtain ⟨f0, hf0, hs0⟩ := h.safe j hj hjs
    generalize (key _ hmem).choose_spec.choose = q at *
    generalize (key _ hmem).choose = f at *
    obtain ⟨h1, h2, xs, b, f', hf', hd, hm, e1, e2⟩ := hi
    rw [k1] at hf' hf0
    cases hf'
    cases hf0
    have := k4 (xs ++ [ts[j]'(by have := h.len; omega)]) b hd hm (by rw [lens_snoc]; omega)
    rw [lens_snoc] at this
    omega

theorem Stp.wide {own own' : Nat → Prop} {bv bv' : Nat} {w w' : World} (h : Stp own (wi own' bv') w w') : Stp (wi own bv) (wi own' bv') w w' := ⟨fun b hb => (h.sub b hb).imp Or.inl id, h.only.mono fun _ _ hb => hb.imp Or.inl id⟩
/-- a map of the law's own has turned -/
theorem Rws.mapped {w0 w w' : World} {own : Nat → Prop} {bd bv most top : Nat} {S : St} {vA vB : Value} {ps : List (Nat × Nat × Nat)} {ts : List ByteArray} (h : Rws w0 w own bd bv most top S vA vB ps ts) {bm : Nat} (hg : w.grownBy w' (some bm)) (h1 : ¬ wi own bv bm) (h2 : w0.heap.size ≤ bm) (hA : ∀ g, vA.ownBlock = some g → g ≠ bm) (hB : ∀ g, vB.ownBlock = some g → g ≠ bm) : Rws w0 w' own bd bv most top S vA vB ps ts :=
  ⟨h.grown hg fun g e => by cases e; exact ⟨h1, h2⟩, Gk.own_stay h.rA fun g hv => hg.block g (h.rA.lt g hv).2 fun e => hA g hv (Option.some.inj e), Gk.own_stay h.rB fun g hv => hg.block g (h.rB.lt g hv).2 fun e => hB g hv (Option.some.inj e), h.nA, h.nB⟩

end Go.Proofs.YtgfmnffaknmcnaaGreatDoor.Vl
