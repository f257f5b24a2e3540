/- Layer 12: SweepKeeps in plain mathematics. Layer 12: two rows that grow beside two rows that stay. -/
import Derived.Test.YtgfmnffaknmcnaaGreatDoorSwFre
namespace Go.Proofs.YtgfmnffaknmcnaaGreatDoor.Sw
open Go.RowKit Go.Joins Go.Sort Go.Maps Gk
open Go.Proofs.YtgfmnffaknmcnaaGreatDoor.Dk (St Rising getL fileOr Bs Fil crashL syncL)
open Go.Proofs.YtgfmnffaknmcnaaGreatDoor.Vl (VH Up nums dat putS In Cln Stp wi PlT nm remS nE vfr lens mayV tidyF Opd Sf)

/-- two lists, place by place -/
def All2 (P : Np → ByteArray → Prop) : List Np → List ByteArray → Prop
  | [], [] => True
  | p :: ps, t :: ts => P p t ∧ All2 P ps ts
  | _, _ => False
theorem All2.len {P : Np → ByteArray → Prop} : ∀ {ps : List Np} {ts : List ByteArray}, All2 P ps ts → ps.length = ts.length
  | [], [], _ => rfl
  | _ :: _, _ :: _, h => by simp [All2.len h.2]
  | [], _ :: _, h => h.elim
  | _ :: _, [], h => h.elim
theorem All2.get {P : Np → ByteArray → Prop} : ∀ {ps : List Np} {ts : List ByteArray}, All2 P ps ts → ∀ j (h : j < ps.length) (h2 : j < ts.length), P ps[j] ts[j]
  | _ :: _, _ :: _, h, 0, _, _ => h.1
  | _ :: _, _ :: _, h, j + 1, h1, h2 => All2.get h.2 j (Nat.lt_of_succ_lt_succ h1) (Nat.lt_of_succ_lt_succ h2)
  | [], [], _, _, h, _ => absurd h (by simp)
  | [], _ :: _, h, _, _, _ => h.elim
  | _ :: _, [], h, _, _, _ => h.elim
theorem All2.of {P : Np → ByteArray → Prop} : ∀ {ps : List Np} {ts : List ByteArray}, ps.length = ts.length → (∀ j (h : j < ps.length) (h2 : j < ts.length), P ps[j] ts[j]) → All2 P ps ts
  | [], [], _, _ => trivial
  | p :: ps, t :: ts, hl, h => ⟨h 0 (by simp) (by simp), All2.of (by simpa using hl) fun j h1 h2 => h (j + 1) (Nat.succ_lt_succ h1) (Nat.succ_lt_succ h2)⟩
theorem All2.imp {P Q : Np → ByteArray → Prop} (hpq : ∀ p t, P p t → Q p t) : ∀ {ps : List Np} {ts : List ByteArray}, All2 P ps ts → All2 Q ps ts
  | [], [], _ => trivial
  | _ :: _, _ :: _, h => ⟨hpq _ _ h.1, All2.imp hpq h.2⟩
  | [], _ :: _, h => h.elim
  | _ :: _, [], h => h.elim
theorem All2.snoc {P : Np → ByteArray → Prop} {p : Np} {t : ByteArray} (hp : P p t) : ∀ {ps : List Np} {ts : List ByteArray}, All2 P ps ts → All2 P (ps ++ [p]) (ts ++ [t])
  | [], [], _ => ⟨hp, trivial⟩
  | _ :: _, _ :: _, h => ⟨h.1, All2.snoc hp h.2⟩
  | [], _ :: _, h => h.elim
  | _ :: _, [], h => h.elim
theorem All2.left {P : Np → ByteArray → Prop} : ∀ {ps : List Np} {ts : List ByteArray}, All2 P ps ts → ∀ p ∈ ps, ∃ t, P p t
  | _ :: _, _ :: _, h, p, hp => by
    rcases List.mem_cons.1 hp with rfl | hp
    · exact ⟨_, h.1⟩
    · exact All2.left h.2 p hp
  | [], [], _, _, hp => by cases hp
  | [], _ :: _, h, _, _ => h.elim
  | _ :: _, [], h, _, _ => h.elim
/-- every value stands at its place, and is synced -/
abbrev Kp (S : St) : List Np → List ByteArray → Prop := All2 fun p t => In S p t ∧ Sfe S p
/-- no file but those of the numbers -/
def Nb (S : St) : Prop := ∀ n, n ≤ 1048577 → ¬ (1 ≤ n ∧ n ≤ 1048576) → getL (nm n) S.files = none

theorem take_vfr (m : Nat) : ∀ vs : List ByteArray, mayV vs → ∃ us b, (vfr vs).take m = vfr us ++ b ∧ mayV us ∧ (unf b).2.2 ≠ 0
  | [], _ => ⟨[], [], by simp [vfr], by simp [mayV], Vl.unf_nil0⟩
  | t :: r, hm => by
    have ht : t.data.toList.length ≤ 65536 := by rw [← Lib.size_eq]; exact hm t (by simp)
    by_cases h : m < (frm t.data.toList).length
    · refine ⟨[], (frm t.data.toList).take m, ?_, by simp [mayV], ?_⟩
      · rw [Vl.vfr_cons, List.take_append_of_le_length (by omega)]; simp [vfr]
      · rw [Vl.unf_torn _ ht m h]; simp
    · obtain ⟨us, b, h1, h2, h3⟩ := take_vfr (m - (frm t.data.toList).length) r fun x hx => hm x (by simp [hx])
      refine ⟨t :: us, b, ?_, fun x hx => ?_, h3⟩
      · rw [Vl.vfr_cons, List.take_append, List.take_of_length_le (by omega), h1, Vl.vfr_cons, List.append_assoc]
      · rcases List.mem_cons.1 hx with rfl | hx
        · exact hm _ (by simp)
        · exact h2 x hx
theorem tidy_clean {us : List ByteArray} {b : Bs} {m : Nat} (hm : mayV us) (hb : (unf b).2.2 ≠ 0) (hl : (vfr us ++ b).length = m) : tidyF ⟨vfr us ++ b, m⟩ = ⟨vfr us, lens us⟩ := by
  have hl' := hl
  rw [List.length_append, Vl.vfr_length] at hl'
  unfold tidyF
  simp only
  rw [Vl.frames_vfr us b hm hb]
  simp only
  by_cases h : lens us < (vfr us ++ b).length
  · rw [if_pos h, Nat.min_eq_right (by omega), List.take_left' (Vl.vfr_length us)]
  · rw [if_neg h]
    have e : b = [] := List.eq_nil_of_length_eq_zero (by omega)
    subst e
    rw [List.append_nil]
    simp only [List.length_nil] at hl'
    congr 1
    omega
theorem crash_file {S S2 S3 : St} (hok : S.Ok) (hcl : Cln S) (ds : List Int) (hS2 : S2 = { S with files := crashL S.files ds, fuse := -1, down := false }) (hO : Opd S2 S3 (nums S2)) {n : Nat} (hn : n ∈ nums S) :
    ∃ f us, getL (nm n) S.files = some f ∧ getL (nm n) S3.files = some ⟨vfr us, lens us⟩ ∧ mayV us ∧ ∀ xs b, f.data = vfr xs ++ b → mayV xs → lens xs ≤ f.safe → ∃ zs, us = xs ++ zs := by
  have hn2 : nums S2 = nums S := by
    unfold nums
    rw [hS2]
    show Vl.numsL ((crashL S.files ds).map (·.1)) = _
    rw [Dk.crashL_keys]
  obtain ⟨f, hf⟩ := Vl.nums_get hok.rising hn
  have hb := Vl.nums_bound hn
  have hsafe : f.safe ≤ f.data.length := (hok.each _ (Dk.getL_some hf)).2
  obtain ⟨m, m1, m2, m3⟩ := Vl.getL_crash (nm n) S.files ds f hf hsafe
  have hf2 : getL (nm n) S2.files = some ⟨f.data.take m, m⟩ := by rw [hS2]; exact m3
  have hf3 := hO.here n (by rw [hn2]; exact hn)
  rw [hf2] at hf3
  obtain ⟨vs, hv1, hv2⟩ := hcl n (by omega)
  rw [Vl.dat_get (by omega) hf] at hv2
  obtain ⟨us, b, hu1, hu2, hu3⟩ := take_vfr m vs hv1
  have ht : f.data.take m = vfr us ++ b := by rw [hv2, hu1]
  have hml : (vfr us ++ b).length = m := by rw [← ht, List.length_take]; omega
  rw [Option.map_some, ht, tidy_clean hu2 hu3 hml] at hf3
  refine ⟨f, us, hf, hf3, hu2, fun xs c hd hm hs => ?_⟩
  have ht2 : f.data.take m = vfr xs ++ c.take (m - lens xs) := by
    rw [hd, List.take_append, List.take_of_length_le (by rw [Vl.vfr_length]; omega), Vl.vfr_length]
  obtain ⟨zs, h2, _⟩ := Vl.frames_has xs (c.take (m - lens xs)) hm
  rw [← ht2, ht, Vl.frames_vfr us b hu2 hu3] at h2
  exact ⟨zs, h2⟩
/-- behind a crash and Open what was synced stands -/
theorem crash_kp {S S2 S3 : St} (hok : S.Ok) (hcl : Cln S) (hnb : Nb S) (ds : List Int) (hS2 : S2 = { S with files := crashL S.files ds, fuse := -1, down := false }) (hO : Opd S2 S3 (nums S2)) :
    (∀ ps ts, Kp S ps ts → Kp S3 ps ts) ∧ Cln S3 ∧ Nb S3 ∧ nums S3 = nums S ∧ nums S2 = nums S ∧ Up S3 := by
  have hn2 : nums S2 = nums S := by
    unfold nums
    rw [hS2]
    show Vl.numsL ((crashL S.files ds).map (·.1)) = _
    rw [Dk.crashL_keys]
  have hnone : ∀ n, n ≤ 1048577 → n ∉ nums S → getL (nm n) S3.files = none := fun n hn hm => by
    have h1 : getL (nm n) S.files = none := by
      by_cases hb : 1 ≤ n ∧ n ≤ 1048576
      · exact Vl.nums_none hb.1 hb.2 hm
      · exact hnb n hn hb
    rw [hO.else_ (nm n) fun k hk e => hm (by rw [Vl.nm_inj e, ← hn2]; exact hk), hS2]
    show getL (nm n) (crashL S.files ds) = none
    cases hg : getL (nm n) (crashL S.files ds) with
    | none => rfl
    | some f =>
      have hmem := List.mem_map_of_mem (f := (·.1)) (Dk.getL_some hg)
      rw [Dk.crashL_keys] at hmem
      obtain ⟨q, hq, e⟩ := List.mem_map.1 hmem
      exact absurd e (Dk.getL_none h1 q hq)
  refine ⟨fun ps ts h => All2.imp (fun p t hh => ?_) h, fun n hn => ?_, fun n hn hb => hnone n hn fun hm => hb (Vl.nums_bound hm), by rw [hO.nums, hn2], hn2, hO.up⟩
  · obtain ⟨hi, hs⟩ := hh
    obtain ⟨f, us, hf, hf3, hu, hall⟩ := crash_file hok hcl ds hS2 hO hi.file
    obtain ⟨h1, h2, xs, b, f', hf', hd, hm, e1, e2⟩ := hi
    obtain ⟨f'', hf'', hsf⟩ := hs
    rw [hf] at hf' hf''
    cases hf'
    cases hf''
    obtain ⟨zs, hz⟩ := hall (xs ++ [t]) b hd hm (by rw [Vl.lens_snoc]; omega)
    refine ⟨⟨h1, h2, xs, vfr zs, _, hf3, ?_, hm, e1, e2⟩, _, hf3, ?_⟩
    · simp only; rw [hz, Vl.vfr_append]
    · simp only
      have : lens us = lens (xs ++ [t]) + lens zs := by rw [hz]; simp [lens]; omega
      rw [this, Vl.lens_snoc]; omega
  · by_cases hm : n ∈ nums S
    · obtain ⟨f, us, hf, hf3, hu, -⟩ := crash_file hok hcl ds hS2 hO hm
      exact ⟨us, hu, Vl.dat_get hn hf3⟩
    · exact ⟨[], by simp [mayV], by rw [Vl.dat_none hn (hnone n hn hm)]; rfl⟩

/-- all is synced -/
theorem sync_kp {S : St} {ps : List Np} {ts : List ByteArray} (h : All2 (In S) ps ts) : Kp { S with files := syncL S.files } ps ts := by
  refine All2.imp (fun p t hi => ?_) h
  have hle := hi.le
  obtain ⟨h1, h2, xs, b, f, hf, hd, hm, e1, e2⟩ := hi
  rw [Vl.dat_get (by omega) hf] at hle
  have hg : getL (nm p.1) (syncL S.files) = some ⟨f.data, f.data.length⟩ := by rw [Vl.getL_sync, hf]; rfl
  exact ⟨⟨h1, h2, xs, b, ⟨f.data, f.data.length⟩, hg, hd, hm, e1, e2⟩, ⟨f.data, f.data.length⟩, hg, hle⟩
theorem Nb.sync {S : St} (h : Nb S) : Nb { S with files := syncL S.files } := fun n hn hb => by
  show getL (nm n) (syncL S.files) = none
  rw [Vl.getL_sync, h n hn hb]; rfl
theorem Nb.put {S : St} {n : Nat} {s : ByteArray} (h : Nb S) (hr : Rising S.files) (h1 : 1 ≤ n) (h2 : n ≤ 1048576) : Nb (putS S n s) := fun m hm hb => by
  rw [Vl.putS_get hr, if_neg (fun e => hb (by rw [Vl.nm_inj e]; exact ⟨h1, h2⟩))]; exact h m hm hb
theorem Nb.copy {S0 S : St} {top0 top : Nat} {F : List Int} {Ls : List Pc} {ms : List Mv} (h : Nb S0) (hc : CpP S0 S top0 top F Ls ms) : Nb S := fun n hn hb => by
  rw [hc.els (nm n) fun m h1 h2 e => hb (by rw [Vl.nm_inj e]; exact ⟨h1, h2⟩)]; exact h n hn hb
theorem sync_nums {S : St} (hr : Rising S.files) : nums { S with files := syncL S.files } = nums S := Vl.nums_same hr (Dk.rising_map hr _) fun n => by
  simp only [Vl.getL_sync, Option.isSome_map]

/-- where a place swings to -/
theorem swing_one {S0 S : St} {top0 top : Nat} {F : List Int} {L : List Pc} {ms : List Mv} (h : CpP S0 S top0 top F L ms) (hF : ∀ f ∈ F, ∃ n ∈ nums S0, f < (n : Int)) {p : Np} {t : ByteArray} (hi : In S0 p t) (hL : toPc p ∈ L) :
    ∃ q : Np, sw ms (toPc p) = toPc q ∧ In S q t ∧ (q.1 : Int) ∉ F := by
  by_cases hpF : (p.1 : Int) ∈ F
  · have hd : toPc p ∈ ms.map (·.1) := by
      rw [h.dom, List.mem_filter]
      exact ⟨hL, decide_eq_true hpF⟩
    obtain ⟨m0, hm0, e0⟩ := List.mem_map.1 hd
    cases hw : ms.find? fun m => decide (m.1 = toPc p) with
    | none => exact absurd e0 (by simpa using List.find?_eq_none.1 hw m0 hm0)
    | some m =>
      have e1 : m.1 = toPc p := by simpa using List.find?_some hw
      obtain ⟨p', q, e, -, hg, hn⟩ := h.each m (List.mem_of_find?_eq_some hw)
      have e2 : p' = p := toPc_inj (by rw [← e1, e])
      subst e2
      refine ⟨q, ?_, hg t hi, fun hq => ?_⟩
      · unfold sw wayF
        rw [hw, e]; rfl
      · obtain ⟨n, hn1, hn2⟩ := hF _ hq
        have := hn n hn1
        omega
  · refine ⟨p, ?_, h.keep p t hi, hpF⟩
    unfold sw wayF
    rw [List.find?_eq_none.2 fun m hm => ?_]
    · rfl
    · rw [decide_eq_true_eq]
      intro e
      have hd : toPc p ∈ ms.map (·.1) := by rw [← e]; exact List.mem_map_of_mem hm
      rw [h.dom, List.mem_filter] at hd
      exact hpF (of_decide_eq_true hd.2)
theorem swing_all {S0 S : St} {top0 top : Nat} {F : List Int} {L : List Pc} {ms : List Mv} (h : CpP S0 S top0 top F L ms) (hF : ∀ f ∈ F, ∃ n ∈ nums S0, f < (n : Int)) : ∀ {ps : List Np} {ts : List ByteArray}, All2 (In S0) ps ts → (∀ p ∈ ps, toPc p ∈ L) →
    ∃ qs : List Np, qs.map toPc = (ps.map toPc).map (sw ms) ∧ All2 (In S) qs ts ∧ ∀ q ∈ qs, (q.1 : Int) ∉ F
  | [], [], _, _ => ⟨[], rfl, trivial, by simp⟩
  | p :: ps, t :: ts, ha, hL => by
    obtain ⟨q, e1, e2, e3⟩ := swing_one h hF ha.1 (hL p (by simp))
    obtain ⟨qs, h1, h2, h3⟩ := swing_all h hF ha.2 fun p hp => hL p (by simp [hp])
    refine ⟨q :: qs, by simp [e1, h1], ⟨e2, h2⟩, fun x hx => ?_⟩
    rcases List.mem_cons.1 hx with rfl | hx
    · exact e3
    · exact h3 x hx
  | [], _ :: _, ha, _ => ha.elim
  | _ :: _, [], ha, _ => ha.elim

/-- files that hold nothing of it are removed -/
theorem remA_kp {S : St} {F : List Nat} {ps : List Np} {ts : List ByteArray} (h : Kp S ps ts) (hF : ∀ p ∈ ps, p.1 ∉ F) : Kp (remA S F) ps ts := by
  refine All2.of (All2.len h) fun j hj hj2 => ?_
  obtain ⟨⟨h1, h2, xs, b, f, hf, hd⟩, g, hg, hs⟩ := h.get j hj hj2
  have hk : ∀ n ∈ F, nm ps[j].1 ≠ nm n := fun n hn e => hF _ (List.getElem_mem hj) (by rw [Vl.nm_inj e]; exact hn)
  exact ⟨⟨h1, h2, xs, b, f, by rw [remA_get F _ hk]; exact hf, hd⟩, g, by rw [remA_get F _ hk]; exact hg, hs⟩
theorem remA_none {S : St} {k : Bs} (F : List Nat) (h : getL k S.files = none) : getL k (remA S F).files = none := by
  induction F generalizing S with
  | nil => exact h
  | cons x r ih =>
    refine ih ?_
    show getL k (Dk.delL (nm x) S.files) = none
    rw [Dk.getL_delL, h]; split <;> rfl
theorem Nb.remA {S : St} {F : List Nat} (h : Nb S) : Nb (remA S F) := fun n hn hb => remA_none F (h n hn hb)
theorem remA_cln {S : St} {F : List Nat} (h : Cln S) : Cln (remA S F) := fun n hn => by
  induction F generalizing S with
  | nil => exact h n hn
  | cons x r ih =>
    refine ih fun m hm => ?_
    by_cases e : m = x
    · subst e
      refine ⟨[], by simp [mayV], ?_⟩
      rw [Vl.dat_none hm]
      · rfl
      · show getL (nm m) (Dk.delL (nm m) S.files) = none
        rw [Dk.getL_delL, if_pos rfl]
    · obtain ⟨vs, h1, h2⟩ := h m hm
      refine ⟨vs, h1, ?_⟩
      rw [← h2]
      unfold dat Dk.St.read
      have : getL (nm m) (remS S x).files = getL (nm m) S.files := by
        show getL (nm m) (Dk.delL (nm x) S.files) = _
        rw [Dk.getL_delL, if_neg fun e' => e (Vl.nm_inj e')]
      rw [this]

end Go.Proofs.YtgfmnffaknmcnaaGreatDoor.Sw

namespace Go.Proofs.YtgfmnffaknmcnaaGreatDoor.Sw
open Go.RowKit Go.Joins Go.Sort Go.Maps Gk
open Go.Proofs.YtgfmnffaknmcnaaGreatDoor.Dk (St Rising getL fileOr)
open Go.Proofs.YtgfmnffaknmcnaaGreatDoor.Vl (VH Up nums Stp wi PlT Rws StrT plE sE)

/-- values, their two rows, a box, and two rows that are newer than all those -/
structure TR (w0 B0 : World) (own : Nat → Prop) (bd bv most top : Nat) (S : St) (vA0 vB0 : Value) (ps0 : List Np) (ts0 : List ByteArray) (bx : Nat) (X : Obj) (vA vB : Value) (ps : List Np) (ts : List ByteArray) (W : World) : Prop where
  old : Rws w0 W own bd bv most top S vA0 vB0 ps0 ts0
  rA : W.ownsRow B0.heap.size PlT 3 vA ps.length (Gk.rc plE ps)
  rB : W.ownsRow B0.heap.size StrT 1 vB ts.length (Gk.rc sE ts)
  nA : ∀ g, vA.ownBlock = some g → ¬ wi own bv g
  nB : ∀ g, vB.ownBlock = some g → ¬ wi own bv g
  z : B0.heap.size ≤ W.heap.size
  z0 : w0.heap.size ≤ B0.heap.size
  oA : ∀ g, vA0.ownBlock = some g → g < B0.heap.size
  oB : ∀ g, vB0.ownBlock = some g → g < B0.heap.size
  box : W.heap[bx]? = some X
  bxl : bx < B0.heap.size
section
variable {w0 B0 W W' : World} {own : Nat → Prop} {bd bv most top : Nat} {S : St} {vA0 vB0 : Value} {ps0 : List Np} {ts0 : List ByteArray} {bx : Nat} {X : Obj} {vA vB : Value} {ps : List Np} {ts : List ByteArray}
theorem TR.below (h : TR w0 B0 own bd bv most top S vA0 vB0 ps0 ts0 bx X vA vB ps ts W) (hb : Below W.heap.size W W') : TR w0 B0 own bd bv most top S vA0 vB0 ps0 ts0 bx X vA vB ps ts W' :=
  ⟨h.old.below hb, Gk.own_below h.rA hb, Gk.own_below h.rB hb, h.nA, h.nB, Nat.le_trans h.z hb.size, h.z0, h.oA, h.oB, (hb.block bx (Nat.lt_of_lt_of_le h.bxl h.z)).trans h.box, h.bxl⟩
theorem TR.ne (h : TR w0 B0 own bd bv most top S vA0 vB0 ps0 ts0 bx X vA vB ps ts W) {g : Nat} (hA : vA.ownBlock = some g) : vB.ownBlock ≠ some g := fun hB => by
  rcases h.rA.2 with ⟨rfl, _⟩ | ⟨g1, cap1, cur1, rfl, _, hc1, _⟩
  · simp [Value.ownBlock] at hA
  · simp only [Value.ownBlock, Option.some.injEq] at hA
    subst hA
    exact Gk.own_ne h.rB hc1 (by decide) hB rfl
/-- a new row has grown: the old ones stay -/
theorem TR.olds (h : TR w0 B0 own bd bv most top S vA0 vB0 ps0 ts0 bx X vA vB ps ts W) {o : Option Nat} (hg : W.grownBy W' o) (ho : ∀ g, o = some g → ¬ wi own bv g ∧ B0.heap.size ≤ g) : Rws w0 W' own bd bv most top S vA0 vB0 ps0 ts0 ∧ W'.heap[bx]? = some X :=
  ⟨⟨h.old.grown hg fun g e => ⟨(ho g e).1, Nat.le_trans h.z0 (ho g e).2⟩, Gk.own_stay h.old.rA fun g hv => hg.block g (h.old.rA.lt g hv).2 fun e => by have := (ho g e.symm).2; have := h.oA g hv; omega, Gk.own_stay h.old.rB fun g hv => hg.block g (h.old.rB.lt g hv).2 fun e => by have := (ho g e.symm).2; have := h.oB g hv; omega, h.old.nA, h.old.nB⟩,
   (hg.block bx (Nat.lt_of_lt_of_le h.bxl h.z) fun e => by have := (ho bx e.symm).2; have := h.bxl; omega).trans h.box⟩
theorem TR.keepA (h : TR w0 B0 own bd bv most top S vA0 vB0 ps0 ts0 bx X vA vB ps ts W) (hg : W.grownBy W' vA.ownBlock) (hk : W'.ownsRow B0.heap.size PlT 3 vA ps.length (Gk.rc plE ps)) : TR w0 B0 own bd bv most top S vA0 vB0 ps0 ts0 bx X vA vB ps ts W' :=
  have ho := h.olds hg fun g e => ⟨h.nA g e, (h.rA.lt g e).1⟩
  ⟨ho.1, hk, Gk.own_stay h.rB fun g hv => hg.block g (h.rB.lt g hv).2 fun e => h.ne e.symm hv, h.nA, h.nB, Nat.le_trans h.z hg.size, h.z0, h.oA, h.oB, ho.2, h.bxl⟩
theorem TR.keepB (h : TR w0 B0 own bd bv most top S vA0 vB0 ps0 ts0 bx X vA vB ps ts W) (hg : W.grownBy W' vB.ownBlock) (hk : W'.ownsRow B0.heap.size StrT 1 vB ts.length (Gk.rc sE ts)) : TR w0 B0 own bd bv most top S vA0 vB0 ps0 ts0 bx X vA vB ps ts W' :=
  have ho := h.olds hg fun g e => ⟨h.nB g e, (h.rB.lt g e).1⟩
  ⟨ho.1, Gk.own_stay h.rA fun g hv => hg.block g (h.rA.lt g hv).2 fun e => h.ne hv e.symm, hk, h.nA, h.nB, Nat.le_trans h.z hg.size, h.z0, h.oA, h.oB, ho.2, h.bxl⟩
/-- one more in each -/
theorem TR.both {vA' vB' : Value} {ps' : List Np} {ts' : List ByteArray} {W0 : World} (h0 : TR w0 B0 own bd bv most top S vA0 vB0 ps0 ts0 bx X vA vB ps ts W0) (h : TR w0 B0 own bd bv most top S vA0 vB0 ps0 ts0 bx X vA vB ps ts W) (hA : W.ownsRow B0.heap.size PlT 3 vA' ps'.length (Gk.rc plE ps')) (hB : W.ownsRow B0.heap.size StrT 1 vB' ts'.length (Gk.rc sE ts')) (gA : ∀ g, vA'.ownBlock = some g → vA.ownBlock = some g ∨ W0.heap.size ≤ g) (gB : ∀ g, vB'.ownBlock = some g → vB.ownBlock = some g ∨ W0.heap.size ≤ g) : TR w0 B0 own bd bv most top S vA0 vB0 ps0 ts0 bx X vA' vB' ps' ts' W :=
  ⟨h.old, hA, hB, fun g hg => (gA g hg).elim (h.nA g) h0.old.fresh, fun g hg => (gB g hg).elim (h.nB g) h0.old.fresh, h.z, h.z0, h.oA, h.oB, h.box, h.bxl⟩
end
/-- and the cells of a place and of a text, in the rows that stay -/
abbrev TQ (w0 B0 : World) (own : Nat → Prop) (bd bv most top : Nat) (S : St) (vA0 vB0 : Value) (ps0 : List Np) (ts0 : List ByteArray) (bx : Nat) (X : Obj) (vA vB : Value) (ps : List Np) (ts : List ByteArray) (gA po : Nat) (p : Np) (gB to : Nat) (t : ByteArray) (W : World) : Prop :=
  (W.cell? ⟨gA, po, none⟩ = some (.int .i64 p.1) ∧ W.cell? ⟨gA, po + 1, none⟩ = some (.int .i64 p.2.1) ∧ W.cell? ⟨gA, po + 2, none⟩ = some (.int .i64 p.2.2) ∧ W.cell? ⟨gB, to, none⟩ = some (.string t)) ∧
  Hid (TR w0 B0 own bd bv most top S vA0 vB0 ps0 ts0 bx X vA vB ps ts W ∧ gA < B0.heap.size ∧ gB < B0.heap.size)
section
variable {w0 B0 W W' : World} {own : Nat → Prop} {bd bv most top : Nat} {S : St} {vA0 vB0 : Value} {ps0 : List Np} {ts0 : List ByteArray} {bx : Nat} {X : Obj} {vA vB : Value} {ps : List Np} {ts : List ByteArray} {gA po : Nat} {p : Np} {gB to : Nat} {t : ByteArray}
theorem TQ.stay (h : TQ w0 B0 own bd bv most top S vA0 vB0 ps0 ts0 bx X vA vB ps ts gA po p gB to t W) (hR : TR w0 B0 own bd bv most top S vA0 vB0 ps0 ts0 bx X vA vB ps ts W') (h1 : W'.heap[gA]? = W.heap[gA]?) (h2 : W'.heap[gB]? = W.heap[gB]?) : TQ w0 B0 own bd bv most top S vA0 vB0 ps0 ts0 bx X vA vB ps ts gA po p gB to t W' :=
  ⟨⟨(World.cell?_of_block (a := ⟨gA, po, none⟩) h1).trans h.1.1, (World.cell?_of_block (a := ⟨gA, po + 1, none⟩) h1).trans h.1.2.1, (World.cell?_of_block (a := ⟨gA, po + 2, none⟩) h1).trans h.1.2.2.1, (World.cell?_of_block (a := ⟨gB, to, none⟩) h2).trans h.1.2.2.2⟩, hR, h.2.out.2⟩
theorem TQ.call (hb : Below W.heap.size W W') (h : TQ w0 B0 own bd bv most top S vA0 vB0 ps0 ts0 bx X vA vB ps ts gA po p gB to t W) : TQ w0 B0 own bd bv most top S vA0 vB0 ps0 ts0 bx X vA vB ps ts gA po p gB to t W' :=
  h.stay (h.2.out.1.below hb) (hb.block gA (Nat.lt_of_lt_of_le h.2.out.2.1 h.2.out.1.z)) (hb.block gB (Nat.lt_of_lt_of_le h.2.out.2.2 h.2.out.1.z))
theorem TQ.drew (h : TQ w0 B0 own bd bv most top S vA0 vB0 ps0 ts0 bx X vA vB ps ts gA po p gB to t W) : TQ w0 B0 own bd bv most top S vA0 vB0 ps0 ts0 bx X vA vB ps ts gA po p gB to t W.drew := TQ.call ((Below.refl _ _).drew) h
theorem TQ.alloc (h : TQ w0 B0 own bd bv most top S vA0 vB0 ps0 ts0 bx X vA vB ps ts gA po p gB to t W) (o : Obj) : TQ w0 B0 own bd bv most top S vA0 vB0 ps0 ts0 bx X vA vB ps ts gA po p gB to t (W.alloc o) := TQ.call (below_alloc1 W o) h
theorem TQ.keepA (h : TQ w0 B0 own bd bv most top S vA0 vB0 ps0 ts0 bx X vA vB ps ts gA po p gB to t W) (hg : W.grownBy W' vA.ownBlock) (hk : W'.ownsRow B0.heap.size PlT 3 vA ps.length (Gk.rc plE ps)) : TQ w0 B0 own bd bv most top S vA0 vB0 ps0 ts0 bx X vA vB ps ts gA po p gB to t W' :=
  h.stay (h.2.out.1.keepA hg hk) (hg.block gA (Nat.lt_of_lt_of_le h.2.out.2.1 h.2.out.1.z) fun e => by have := (h.2.out.1.rA.lt gA e.symm).1; have := h.2.out.2.1; omega) (hg.block gB (Nat.lt_of_lt_of_le h.2.out.2.2 h.2.out.1.z) fun e => by have := (h.2.out.1.rA.lt gB e.symm).1; have := h.2.out.2.2; omega)
theorem TQ.keepB (h : TQ w0 B0 own bd bv most top S vA0 vB0 ps0 ts0 bx X vA vB ps ts gA po p gB to t W) (hg : W.grownBy W' vB.ownBlock) (hk : W'.ownsRow B0.heap.size StrT 1 vB ts.length (Gk.rc sE ts)) : TQ w0 B0 own bd bv most top S vA0 vB0 ps0 ts0 bx X vA vB ps ts gA po p gB to t W' :=
  h.stay (h.2.out.1.keepB hg hk) (hg.block gA (Nat.lt_of_lt_of_le h.2.out.2.1 h.2.out.1.z) fun e => by have := (h.2.out.1.rB.lt gA e.symm).1; have := h.2.out.2.1; omega) (hg.block gB (Nat.lt_of_lt_of_le h.2.out.2.2 h.2.out.1.z) fun e => by have := (h.2.out.1.rB.lt gB e.symm).1; have := h.2.out.2.2; omega)
end

end Go.Proofs.YtgfmnffaknmcnaaGreatDoor.Sw
