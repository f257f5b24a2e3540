/- A record more in a log, all made safe: what becomes of its segments. -/
import Derived.Test.YtdlicndbdnfekaaGreatDoorWlColl
namespace Go.Proofs.YtdlicndbdnfekaaGreatDoor.Wl
open Go.RowKit Go.Joins
open Go.Proofs.YtdlicndbdnfekaaGreatDoor.Dk (Bs Fil Fls St St.Ok Held Only)

/-- all records up to a number are safe -/
def SafeTo (k : Nat) (l : List Sg) : Prop := ∀ s ∈ l, (frs s.first (s.recs.take (k + 1 - s.first))).length ≤ s.safe
/-- a last segment without a record is the only one -/
def LastOk (l : List Sg) : Prop := ∀ a s, l = a ++ [s] → s.recs = [] → a = []
structure Grew (most : Nat) (S S' : St) (l l' : List Sg) (n m m' : Nat) (r : Rec) (c : Nat) : Prop where
  on : On S' l'
  lg : Lg l' n m'
  clean : Clean l'
  recs : allRecs l' = allRecs l ++ (if c = 0 then [r] else [])
  nx : m' = if c = 0 then m + 1 else m
  code : c = 0 ∨ c = 21 ∨ c = 22
  up : Up S → Up S' ∧ c ≠ 21
  safe : ∀ k, k < m → SafeTo k l → SafeTo k l'
  last : LastOk l → LastOk l'
  seg : c = 0 → (∀ s ∈ l, most ≤ s.bytes) → l'.map (·.first) = l.map (·.first) ++ [m]
  full : c = 22 → S.room < Dk.used S.files + (fr m r).length ∨ 64 ≤ S.files.length
  room : S'.room = S.room
  ne : (∀ s ∈ l, s.recs ≠ []) → ∀ s ∈ l', s.recs ≠ []
theorem syncd_data (s : Sg) : (syncd s).data = s.data := rfl
theorem ms_syncd (l : List Sg) : ms (l.map syncd) = ms l := by simp only [ms, List.map_map]; rfl
theorem allRecs_syncd (l : List Sg) : allRecs (l.map syncd) = allRecs l := by
  induction l with
  | nil => rfl
  | cons s l ih => simp only [allRecs, List.map_cons, List.flatMap_cons] at *; rw [ih]; rfl
theorem clean_syncd {l : List Sg} (h : Clean l) : Clean (l.map syncd) := fun s hs => by
  obtain ⟨t, ht, rfl⟩ := List.mem_map.1 hs; exact h t ht
theorem allSafe_syncd (l : List Sg) : AllSafe (l.map syncd) := fun s hs => by
  obtain ⟨t, ht, rfl⟩ := List.mem_map.1 hs; rfl
theorem frs_le (s : Sg) (k : Nat) : (frs s.first (s.recs.take k)).length ≤ s.data.length := by
  have h1 := frs_take_le s.first s.recs k (max k s.recs.length) (Nat.le_max_left _ _)
  rw [List.take_of_length_le (Nat.le_max_right k s.recs.length)] at h1
  rw [Sg.data, List.length_append]; omega
theorem AllSafe.to {l : List Sg} (h : AllSafe l) (k : Nat) : SafeTo k l := fun s hs => by rw [h s hs]; exact frs_le s _
theorem safe_syncd (k : Nat) (l : List Sg) : SafeTo k (l.map syncd) := (allSafe_syncd l).to k
theorem chain_syncd : ∀ {l : List Sg} {n m : Nat}, Chain n l m → Chain n (l.map syncd) m
  | [], _, _, h => h
  | _ :: _, _, _, h => ⟨h.1, chain_syncd h.2⟩
theorem Lg.syncd {l : List Sg} {n m : Nat} (h : Lg l n m) : Lg (l.map Wl.syncd) n m := by
  refine ⟨chain_syncd h.chain, fun s hs => ?_, fun s hs => ?_, fun s hs => ?_, fun s hs => ?_⟩
  · rw [← List.map_dropLast] at hs
    obtain ⟨t, ht, rfl⟩ := List.mem_map.1 hs
    exact ⟨(h.full t ht).1, (h.full t ht).2.1, rfl⟩
  all_goals obtain ⟨t, ht, rfl⟩ := List.mem_map.1 hs
  · exact h.may t ht
  · exact h.torn t ht
  · exact Nat.le_refl _
theorem LastOk.syncd {l : List Sg} (h : LastOk l) : LastOk (l.map Wl.syncd) := fun a s e hs => by
  rcases nil_or_snoc l with rfl | ⟨b, t, rfl⟩
  · simp at e
  · rw [List.map_append, List.map_singleton] at e
    obtain ⟨e1, e2⟩ := List.append_inj' e rfl
    have e3 : Wl.syncd t = s := by simpa using e2
    have := h b t rfl (by rw [← e3] at hs; exact hs)
    subst this
    simpa using e1.symm
theorem lastOk_snoc {a : List Sg} {s : Sg} (h : s.recs ≠ []) : LastOk (a ++ [s]) := fun b t e ht => by
  obtain ⟨_, e2⟩ := List.append_inj' e rfl
  have e3 : s = t := by simpa using e2
  rw [← e3] at ht
  exact absurd ht h
/-- nothing has come of it -/
theorem Grew.none {most : Nat} {S S' : St} {l : List Sg} {n m c : Nat} {r : Rec} (ho : On S l) (hl : Lg l n m) (hc : Clean l) (hf : S'.files = S.files) (h0 : c ≠ 0) (hcode : c = 21 ∨ c = 22) (hu : Up S → Up S' ∧ c ≠ 21) (hfull : c = 22 → S.room < Dk.used S.files + (fr m r).length ∨ 64 ≤ S.files.length) (hroom : S'.room = S.room) : Grew most S S' l l n m m r c :=
  ⟨ho.files hf, hl, hc, by rw [if_neg h0, List.append_nil], by rw [if_neg h0], Or.inr hcode, hu, fun _ _ h => h, id, fun h => absurd h h0, hfull, hroom, id⟩
theorem up_sync {S : St} (h : Up S) : Up S.sync.2 ∧ S.sync.1 = 0 := by unfold St.sync; rw [h.do]; exact ⟨h.with _, rfl⟩
theorem up_append {S : St} (h : Up S) (k d : Bs) (hn : Dk.named k = true) : Up (S.append k d).2 ∧ (S.append k d).1 ≠ 21 := by
  unfold St.append
  rw [if_neg (by simp [hn])]
  split
  · exact ⟨h, by simp⟩
  · rw [h.do]; exact ⟨h.with _, by simp⟩
theorem append_full {S : St} {k d : Bs} (h : (S.append k d).1 = 22) : S.room < Dk.used S.files + d.length ∨ 64 ≤ S.files.length := by
  unfold St.append at h
  split at h
  · exact absurd h (by simp)
  · split at h
    · rename_i h1; exact h1.imp id (·.2)
    · unfold St.do at h
      split at h
      · exact absurd h (by simp)
      · exact absurd h (by simp)
theorem do_room (S : St) (g : Fls → Fls) : (S.do g).2.room = S.room := by unfold St.do; split <;> rfl
theorem append_room (S : St) (k d : Bs) : (S.append k d).2.room = S.room := by
  unfold St.append
  split
  · rfl
  · split
    · rfl
    · exact do_room S _
theorem sync_room (S : St) : S.sync.2.room = S.room := do_room S _
theorem sync_used (l : Fls) : Dk.used (Dk.syncL l) = Dk.used l := by
  induction l with
  | nil => rfl
  | cons p l ih => simp only [Dk.used, Dk.sumL, Dk.syncL, List.map_cons, List.sum_cons] at *; rw [ih]
theorem sync_same {S : St} (h : S.sync.1 = 0) : Dk.used S.sync.2.files = Dk.used S.files ∧ S.sync.2.files.length = S.files.length := by
  have e : S.sync.2.files = Dk.syncL S.files := (do_yes h).1
  rw [e, sync_used]
  exact ⟨rfl, by simp [Dk.syncL]⟩
/-- a new last segment -/
theorem lg_new {l : List Sg} {n m : Nat} {r : Rec} (hl : Lg l n m) (hr : r.may) (ha : ∀ s ∈ l, s.recs ≠ [] ∧ s.tl = [] ∧ s.safe = s.data.length) : Lg (l ++ [⟨m, [r], [], 0⟩]) n (m + 1) :=
  Lg.snoc.2 ⟨hl.chain, rfl, ha, hl.may, by simpa using hr, Torn.nil, Nat.zero_le _⟩
theorem safeTo_append {k : Nat} {a b : List Sg} : SafeTo k (a ++ b) ↔ SafeTo k a ∧ SafeTo k b :=
  ⟨fun h => ⟨fun s hs => h s (List.mem_append_left _ hs), fun s hs => h s (List.mem_append_right _ hs)⟩, fun h s hs => (List.mem_append.1 hs).elim (h.1 s) (h.2 s)⟩
theorem clean_append {a b : List Sg} : Clean (a ++ b) ↔ Clean a ∧ Clean b :=
  ⟨fun h => ⟨fun s hs => h s (List.mem_append_left _ hs), fun s hs => h s (List.mem_append_right _ hs)⟩, fun h s hs => (List.mem_append.1 hs).elim (h.1 s) (h.2 s)⟩

/-- Append, of a log as it lies on the disk -/
theorem Append_log {own : Nat → Prop} {bw bd most : Nat} {S : St} {v : Value} {l : List Sg} {n m : Nat} {r : Rec} (w : World) (h : Both w own bd bw most S v (ms l) m) (ho : On S l) (hl : Lg l n m) (hc : Clean l) (hmo : 1 ≤ most) (hm : m ≤ 1048576) (hr : r.may) :
    Calls Tryz.prog 12 #[.pointer (some ⟨bw, 0, none⟩), .int .i64 r.brick, .string r.body] w fun e w' => ∃ own' S' v' l' m' c, Both w' own' bd bw most S' v' (ms l') m' ∧ Grew most S S' l l' n m m' r c ∧ (c = 0 → e = .returned (.tuple #[.int .i64 m, .int .i64 0])) ∧ (c ≠ 0 → e = .returned (.tuple #[.int .i64 0, .int .i64 c])) ∧ (∀ b, own' b → own b ∨ w.heap.size ≤ b) ∧ (∀ g, v'.ownBlock = some g → v.ownBlock = some g ∨ w.heap.size ≤ g) ∧ Only (mayL own bw v w.heap.size) w w' := by
  have hris := h.disk.held.ok.rising
  have hlen := ho.len hl h.disk.held.ok
  rcases nil_or_snoc l with rfl | ⟨a, s, rfl⟩
  · refine (Append_first w h hr hm).mono ?_
    rintro e w' ⟨own', hsub, hO, -, hno, hyes⟩
    have hnm := nm_named (show m ≤ 1048577 by omega)
    by_cases h0 : (S.append (nm m) (fr m r)).1 = 0
    · obtain ⟨rfl, u, hB, hu⟩ := hyes rfl h0
      have hon := ho.new hris (by simp) (by omega) r h0
      have hnm' : n = m := hl.chain
      refine ⟨own', _, u, [⟨m, [r], [], 0⟩], m + 1, 0, ?_, ⟨hon, ?_, by simp [Clean], by simp [allRecs], by simp, Or.inl rfl, fun hu => ⟨(up_append hu _ _ hnm).1, by decide⟩, fun k hk _ => ?_, fun _ => lastOk_snoc (a := []) (by simp), fun _ _ => rfl, fun h => absurd h (by decide), append_room _ _ _, fun _ => by simp⟩, fun _ => rfl, fun h => absurd rfl h, hsub, hu, hO⟩
      · have : ms [⟨m, [r], [], 0⟩] = [] ++ [(m, 0 + (fr m r).length)] := by simp [ms, Sg.bytes, frs]
        rw [this]; exact hB
      · exact lg_new (l := []) hl hr (by simp)
      · intro s hs
        rw [List.mem_singleton.1 hs]
        show (frs m (List.take (k + 1 - m) [r])).length ≤ 0
        rw [show k + 1 - m = 0 by omega]; simp [frs]
    · obtain ⟨rfl, hB⟩ := hno rfl h0
      obtain ⟨hf, hcd⟩ := append_no hnm h0
      exact ⟨own', _, v, [], m, _, hB, Grew.none ho hl hc hf h0 (hcd.imp id (·.1)) (fun hu => up_append hu _ _ hnm) append_full (append_room _ _ _), fun h => absurd h h0, fun _ => rfl, hsub, fun g hg => Or.inl hg, hO⟩
  · obtain ⟨hl1, hl2, hl3, hl4, hl5, hl6, hl7⟩ := Lg.snoc.1 hl
    have hms : ms (a ++ [s]) = ms a ++ [(s.first, s.bytes)] := by simp [ms]
    have htl : s.tl = [] := hc s (by simp)
    have hca := (clean_append.1 hc).1
    rw [List.length_append, List.length_singleton] at hlen
    have hsz : s.data.length ≤ 262144 := by
      have h2 := Dk.le_sumL' (fun f : Fil => f.data.length) (Dk.getL_some (ho.has s (by simp)))
      exact Nat.le_trans h2 (Nat.le_trans h.disk.held.ok.sum h.disk.held.ok.room)
    have hda : s.data = frs s.first s.recs := by rw [Sg.data, htl, List.append_nil]
    have hbs : s.bytes ≤ 262144 := by rw [hda] at hsz; exact hsz
    have hsf : s.first ≤ m := by unfold Sg.last at hl2; omega
    rw [hms] at h
    by_cases hro : s.bytes < most
    · refine (Append_room w h hr hm (by omega) (by rw [ms_length]; omega) (by omega) hro).mono ?_
      rintro e w' ⟨own', hsub, hO, -, hno, hyes⟩
      have hnm := nm_named (show s.first ≤ 1048577 by omega)
      by_cases h0 : (S.append (nm s.first) (fr m r)).1 = 0
      · obtain ⟨rfl, u, hB, hu⟩ := hyes rfl h0
        have hon := ho.more hris hl htl (by omega) r h0
        refine ⟨own', _, u, a ++ [{ s with recs := s.recs ++ [r] }], m + 1, 0, ?_, ⟨hon, ?_, ?_, ?_, by simp, Or.inl rfl, fun hu => ⟨(up_append hu _ _ hnm).1, by decide⟩, fun k hk hs => ?_, fun _ => lastOk_snoc (by simp), fun _ h => absurd (h s (by simp)) (by omega), fun h => absurd h (by decide), append_room _ _ _, fun h t ht => (List.mem_append.1 ht).elim (fun h2 => h t (List.mem_append_left _ h2)) fun h2 => by rw [List.mem_singleton.1 h2]; simp⟩, fun _ => rfl, fun h => absurd rfl h, hsub, hu, hO⟩
        · have e1 : ms (a ++ [{ s with recs := s.recs ++ [r] }]) = ms a ++ [(s.first, s.bytes + (fr m r).length)] := by
            simp only [ms, List.map_append, List.map_cons, List.map_nil, Sg.bytes, frs_snoc, List.length_append]
            rw [show s.first + s.recs.length = m from hl2]
          rw [e1]; exact hB
        · refine Lg.snoc.2 ⟨hl1, ?_, hl3, hl4, ?_, by rw [show ({ s with recs := s.recs ++ [r] } : Sg).tl = s.tl from rfl]; exact hl6, ?_⟩
          · unfold Sg.last at hl2 ⊢; simp only [List.length_append, List.length_singleton]; omega
          · intro x hx
            rcases List.mem_append.1 hx with hx | hx
            · exact hl5 x hx
            · rw [List.mem_singleton.1 hx]; exact hr
          · rw [hda] at hl7
            show s.safe ≤ (frs s.first (s.recs ++ [r]) ++ s.tl).length
            rw [frs_snoc, List.length_append, List.length_append]; omega
        · exact clean_append.2 ⟨hca, by intro t ht; rw [List.mem_singleton.1 ht]; exact htl⟩
        · rw [allRecs_append, allRecs_append, allRecs_one, allRecs_one, if_pos rfl, List.append_assoc]
        · obtain ⟨h1, h2⟩ := safeTo_append.1 hs
          refine safeTo_append.2 ⟨h1, fun t ht => ?_⟩
          rw [List.mem_singleton.1 ht]
          show (frs s.first ((s.recs ++ [r]).take (k + 1 - s.first))).length ≤ s.safe
          rw [List.take_append_of_le_length (by unfold Sg.last at hl2; omega)]
          exact h2 s (by simp)
      · obtain ⟨rfl, hB⟩ := hno rfl h0
        obtain ⟨hf, hcd⟩ := append_no hnm h0
        exact ⟨own', _, v, a ++ [s], m, _, by rw [hms]; exact hB, Grew.none ho hl hc hf h0 (hcd.imp id (·.1)) (fun hu => up_append hu _ _ hnm) append_full (append_room _ _ _), fun h => absurd h h0, fun _ => rfl, hsub, fun g hg => Or.inl hg, hO⟩
    · refine (Append_full w h hr hm (by rw [ms_length]; omega) (by omega)).mono ?_
      rintro e w' ⟨own', hsub, hO, hbad, hno, hyes⟩
      have hnm := nm_named (show m ≤ 1048577 by omega)
      have hrecs : s.recs ≠ [] := fun e => by simp [Sg.bytes, e, frs] at hro; omega
      by_cases hs0 : S.sync.1 = 0
      · have ho1 := ho.sync hs0
        have hl1' := hl.syncd
        have hall : ∀ t ∈ (a ++ [s]).map syncd, t.recs ≠ [] ∧ t.tl = [] ∧ t.safe = t.data.length := fun t ht => by
          obtain ⟨x, hx, rfl⟩ := List.mem_map.1 ht
          refine ⟨?_, hc x hx, rfl⟩
          rcases List.mem_append.1 hx with hx | hx
          · exact (hl3 x hx).1
          · rw [List.mem_singleton.1 hx]; exact hrecs
        have hris1 : Dk.Rising S.sync.2.files := h.disk.held.ok.sync.rising
        have hne : ∀ t ∈ (a ++ [s]).map syncd, t.first ≠ m := fun t ht => by
          obtain ⟨x, hx, rfl⟩ := List.mem_map.1 ht
          show x.first ≠ m
          have h4 : x.first + x.recs.length ≤ m := hl.chain.last_le x hx
          have h3 : x.recs ≠ [] := (hall _ ht).1
          have := List.length_pos_iff.2 h3
          omega
        by_cases h0 : (S.sync.2.append (nm m) (fr m r)).1 = 0
        · obtain ⟨rfl, u, hB, hu⟩ := hyes hs0 h0
          have hon := ho1.new hris1 hne (by omega) r h0
          refine ⟨own', _, u, (a ++ [s]).map syncd ++ [⟨m, [r], [], 0⟩], m + 1, 0, ?_, ⟨hon, lg_new hl1' hr hall, clean_append.2 ⟨clean_syncd hc, by simp [Clean]⟩, ?_, by simp, Or.inl rfl, fun hu => ⟨(up_append (up_sync hu).1 _ _ hnm).1, by decide⟩, fun k hk hs => ?_, fun _ => lastOk_snoc (by simp), fun _ _ => ?_, fun h => absurd h (by decide), (append_room _ _ _).trans (sync_room S), fun _ t ht => (List.mem_append.1 ht).elim (fun h2 => (hall t h2).1) fun h2 => by rw [List.mem_singleton.1 h2]; simp⟩, fun _ => rfl, fun h => absurd rfl h, hsub, hu, hO⟩
          · have e1 : ms ((a ++ [s]).map syncd ++ [⟨m, [r], [], 0⟩]) = ms a ++ [(s.first, s.bytes)] ++ [(m, 0 + (fr m r).length)] := by
              rw [ms_append, ms_syncd, hms]; simp [ms, Sg.bytes, frs]
            rw [e1]; exact hB
          · rw [allRecs_append, allRecs_one, allRecs_syncd, if_pos rfl]
          · refine safeTo_append.2 ⟨safe_syncd k _, fun t ht => ?_⟩
            rw [List.mem_singleton.1 ht]
            show (frs m (List.take (k + 1 - m) [r])).length ≤ 0
            rw [show k + 1 - m = 0 by omega]; simp [frs]
          · rw [List.map_append, List.map_map]; rfl
        · obtain ⟨rfl, hB⟩ := hno hs0 h0
          obtain ⟨hf, hcd⟩ := append_no hnm h0
          exact ⟨own', _, v, (a ++ [s]).map syncd, m, _, by rw [ms_syncd, hms]; exact hB, ⟨ho1.files hf, hl1', clean_syncd hc, by rw [allRecs_syncd, if_neg h0, List.append_nil], by rw [if_neg h0], Or.inr (hcd.imp id (·.1)), fun hu => up_append (up_sync hu).1 _ _ hnm, fun k _ _ => safe_syncd k _, fun h => h.syncd, fun h => absurd h h0, fun h => by rw [← (sync_same hs0).1, ← (sync_same hs0).2, ← sync_room S]; exact append_full h, (append_room _ _ _).trans (sync_room S), fun _ t ht => (hall t ht).1⟩, fun h => absurd h h0, fun _ => rfl, hsub, fun g hg => Or.inl hg, hO⟩
      · obtain ⟨rfl, hB⟩ := hbad hs0
        obtain ⟨hf, hcd⟩ := sync_no hs0
        exact ⟨own', _, v, a ++ [s], m, _, by rw [hms]; exact hB, Grew.none ho hl hc hf hs0 (Or.inl hcd) (fun hu => absurd (up_sync hu).2 hs0) (fun h => by omega) (sync_room S), fun h => absurd h hs0, fun _ => rfl, hsub, fun g hg => Or.inl hg, hO⟩

end Go.Proofs.YtdlicndbdnfekaaGreatDoor.Wl
