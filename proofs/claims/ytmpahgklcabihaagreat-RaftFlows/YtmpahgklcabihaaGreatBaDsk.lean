/- Layer 15, plain: the ballot's file on a disk: what a call leaves there, and what a crash leaves of that. -/
import Derived.Test.YtmpahgklcabihaaGreatBaMrg
import Derived.Test.YtmpahgklcabihaaGreatBaOpen
import Derived.Test.YtmpahgklcabihaaGreatDNew
namespace Go.Proofs.YtmpahgklcabihaaGreat.Ba
open Go.Proofs.YtmpahgklcabihaaGreat.Dk (Bs named Fil Fls St St.Ok getL putL delL Rising getL_of_mem getL_some getL_none mem_putL mem_delL getL_put syncL crashL tornF keptOf keptOf_le fileOr used taken)
open Go.Proofs.YtmpahgklcabihaaGreat.Rl (En Lo mcode nmb)

/-- the file -/
def fl (S : St) : Fil := fileOr nmB S.files
def Up (S : St) : Prop := S.fuse = -1 ∧ S.down = false
theorem read_fl (S : St) : (S.read nmB).1 = (fl S).data := by
  unfold St.read fl fileOr
  rw [if_neg (by simp [nmB_named])]
  cases getL nmB S.files <;> rfl
theorem getL_sync (k : Bs) (l : Fls) : getL k (syncL l) = (getL k l).map fun f => ⟨f.data, f.data.length⟩ := Dk.getL_map (fun f : Fil => (⟨f.data, f.data.length⟩ : Fil)) k l
theorem fl_sync (S : St) : fileOr nmB (syncL S.files) = ⟨(fl S).data, (fl S).data.length⟩ := by
  unfold fl fileOr
  rw [getL_sync]
  cases getL nmB S.files <;> rfl
theorem fl_ok {S : St} (h : S.Ok) : (fl S).data.length ≤ 262144 ∧ (fl S).safe ≤ (fl S).data.length := by
  unfold fl fileOr
  cases hg : getL nmB S.files with
  | none => simp
  | some f =>
    have hm := getL_some hg
    have h1 := (h.each _ hm).2
    have h2 : f.data.length ≤ used S.files := by
      have := Dk.sumL_del (fun f : Fil => f.data.length) h.rising hg
      unfold used; omega
    have := h.sum
    have := h.room
    exact ⟨by show f.data.length ≤ _; omega, h1⟩
theorem do_cases (S : St) (g : Fls → Fls) : ((S.do g).1 = 0 ∧ (S.do g).2.files = g S.files ∧ (Up S → Up (S.do g).2)) ∨ ((S.do g).1 = 21 ∧ (S.do g).2.files = S.files ∧ ¬ Up S) := by
  unfold St.do
  split
  · rename_i h
    refine Or.inl ⟨rfl, rfl, fun hu => ?_⟩
    obtain ⟨h1, h2⟩ := hu
    unfold St.take taken Up
    rw [h1, h2]; simp
  · rename_i h
    refine Or.inr ⟨rfl, rfl, fun hu => h ?_⟩
    obtain ⟨h1, h2⟩ := hu
    unfold St.take taken
    rw [h1, h2]; simp
/-- what is written -/
theorem wrt_cases {S : St} (hS : S.Ok) (p : Bs) :
    ((wrt S p).1 = 0 ∧ fl (wrt S p).2 = ⟨(fl S).data ++ p, ((fl S).data ++ p).length⟩ ∧ (Up S → Up (wrt S p).2)) ∨ ((wrt S p).1 = 22 ∧ (wrt S p).2 = S) ∨
      ((wrt S p).1 = 21 ∧ ¬ Up S ∧ (fl (wrt S p).2 = fl S ∨ fl (wrt S p).2 = ⟨(fl S).data ++ p, (fl S).safe⟩)) := by
  unfold wrt
  by_cases hr : S.room < used S.files + p.length ∨ (getL nmB S.files = none ∧ 64 ≤ S.files.length)
  · have ea : S.append nmB p = (22, S) := by unfold St.append; rw [if_neg (by simp [nmB_named]), if_pos hr]
    rw [ea, if_neg (by simp)]
    exact Or.inr (Or.inl ⟨rfl, rfl⟩)
  · have ea : S.append nmB p = S.do (putL nmB ⟨(fileOr nmB S.files).data ++ p, (fileOr nmB S.files).safe⟩) := by unfold St.append; rw [if_neg (by simp [nmB_named]), if_neg hr]
    rw [ea]
    rcases do_cases S (putL nmB ⟨(fileOr nmB S.files).data ++ p, (fileOr nmB S.files).safe⟩) with ⟨h1, h2, h3⟩ | ⟨h1, h2, h3⟩
    · rw [if_pos h1]
      obtain ⟨S1, hS1⟩ : ∃ S1, (S.do (putL nmB ⟨(fileOr nmB S.files).data ++ p, (fileOr nmB S.files).safe⟩)).2 = S1 := ⟨_, rfl⟩
      rw [hS1] at h2 h3 ⊢
      have hf : fl S1 = ⟨(fl S).data ++ p, (fl S).safe⟩ := by
        unfold fl; rw [h2, fileOr, getL_put hS.rising]; rfl
      rcases do_cases S1 syncL with ⟨k1, k2, k3⟩ | ⟨k1, k2, k3⟩
      · refine Or.inl ⟨k1, ?_, fun hu => k3 (h3 hu)⟩
        show fileOr nmB (S1.do syncL).2.files = _
        rw [k2, fl_sync, hf]
      · refine Or.inr (Or.inr ⟨k1, fun hu => k3 (h3 hu), Or.inr ?_⟩)
        show fileOr nmB (S1.do syncL).2.files = _
        rw [k2]; exact hf
    · rw [if_neg (by rw [h1]; decide)]
      refine Or.inr (Or.inr ⟨h1, h3, Or.inl ?_⟩)
      show fileOr nmB _ = _
      rw [h2]; rfl
theorem getL_crash (k : Bs) : ∀ (l : Fls) (ds : List Int) (f : Fil), getL k l = some f → f.safe ≤ f.data.length → ∃ m, f.safe ≤ m ∧ m ≤ f.data.length ∧ getL k (crashL l ds) = some ⟨f.data.take m, m⟩
  | [], _, _, h, _ => by simp [getL] at h
  | p :: r, ds, f, h, hs => by
    unfold crashL
    by_cases hk : (p.1 == k) = true
    · have e : p.2 = f := by simpa [getL, List.find?_cons, hk] using h
      subst e
      split
      · rename_i e
        refine ⟨p.2.data.length, by omega, Nat.le_refl _, ?_⟩
        have : p.2 = ⟨p.2.data.take p.2.data.length, p.2.data.length⟩ := by
          rw [List.take_length]; cases hp : p.2 with | mk d s => simp only [hp] at e; simp only [e]
        simp only [getL, List.find?_cons, hk, Option.map_some]; rw [← this]
      · have := keptOf_le (ds.headD 0) (p.2.data.length - p.2.safe)
        exact ⟨p.2.safe + keptOf (ds.headD 0) (p.2.data.length - p.2.safe), by omega, by omega, by simp only [getL, List.find?_cons, hk, Option.map_some]; rfl⟩
    · have hk' : (p.1 == k) = false := by simpa using hk
      have h' : getL k r = some f := by simpa [getL, List.find?_cons, hk'] using h
      split
      · obtain ⟨m, h1, h2, h3⟩ := getL_crash k r ds f h' hs
        exact ⟨m, h1, h2, by simpa [getL, List.find?_cons, hk'] using h3⟩
      · obtain ⟨m, h1, h2, h3⟩ := getL_crash k r ds.tail f h' hs
        exact ⟨m, h1, h2, by simpa [getL, List.find?_cons, hk'] using h3⟩
theorem crash_none (k : Bs) : ∀ (l : Fls) (ds : List Int), getL k l = none → getL k (crashL l ds) = none
  | [], _, _ => by simp [crashL, getL]
  | p :: r, ds, h => by
    unfold crashL
    have hk : (p.1 == k) = false := by
      cases hk : (p.1 == k) with
      | false => rfl
      | true => simp [getL, hk] at h
    have h' : getL k r = none := by simpa [getL, List.find?_cons, hk] using h
    split
    · have := crash_none k r ds h'
      simpa [getL, List.find?_cons, hk] using this
    · have := crash_none k r ds.tail h'
      simpa [getL, List.find?_cons, hk] using this
/-- what a crash leaves -/
theorem crash_fl {S : St} (hS : S.Ok) (ds : List Int) (hd : ds.length ≤ 4096) : (S.crash ds).1 = 0 ∧ Up (S.crash ds).2 ∧ ∃ m, (fl S).safe ≤ m ∧ m ≤ (fl S).data.length ∧ fl (S.crash ds).2 = ⟨(fl S).data.take m, m⟩ := by
  unfold St.crash
  rw [if_neg (by omega)]
  refine ⟨rfl, ⟨rfl, rfl⟩, ?_⟩
  cases hg : getL nmB S.files with
  | none =>
    refine ⟨0, ?_⟩
    have h1 : fl S = ⟨[], 0⟩ := by unfold fl fileOr; rw [hg]; rfl
    rw [h1]
    refine ⟨Nat.le_refl _, Nat.le_refl _, ?_⟩
    unfold fl fileOr
    dsimp only
    rw [crash_none _ _ ds hg]; rfl
  | some f =>
    have h1 : fl S = f := by unfold fl fileOr; rw [hg]; rfl
    rw [h1]
    obtain ⟨m, h2, h3, h4⟩ := getL_crash nmB S.files ds f hg ((hS.each _ (getL_some hg)).2)
    refine ⟨m, h2, h3, ?_⟩
    unfold fl fileOr
    dsimp only
    rw [h4]; rfl
/-- what is cut off -/
theorem cut_fl {S : St} (hS : S.Ok) (hu : Up S) (k : Nat) (hk : k < (fl S).data.length) : (S.cut nmB k).1 = 0 ∧ Up (S.cut nmB k).2 ∧ fl (S.cut nmB k).2 = ⟨(fl S).data.take k, min (fl S).safe k⟩ := by
  cases hg : getL nmB S.files with
  | none =>
    have h1 : fl S = ⟨[], 0⟩ := by unfold fl fileOr; rw [hg]; rfl
    rw [h1] at hk; simp at hk
  | some f =>
    have h1 : fl S = f := by unfold fl fileOr; rw [hg]; rfl
    rw [h1] at hk ⊢
    have e : S.cut nmB (k : Int) = S.do (putL nmB ⟨f.data.take k, min f.safe k⟩) := by
      unfold St.cut
      rw [if_neg (by simp [nmB_named]), hg]
      dsimp only
      rw [if_neg (by omega), Int.toNat_natCast]
    rw [e]
    rcases do_cases S (putL nmB ⟨f.data.take k, min f.safe k⟩) with ⟨h2, h3, h4⟩ | ⟨_, _, h4⟩
    · refine ⟨h2, h4 hu, ?_⟩
      unfold fl; rw [h3, fileOr, getL_put hS.rising]; rfl
    · exact absurd hu h4
theorem sync_up {S : St} (hu : Up S) : S.sync.1 = 0 ∧ Up S.sync.2 ∧ fl S.sync.2 = ⟨(fl S).data, (fl S).data.length⟩ := by
  rcases do_cases S syncL with ⟨h1, h2, h3⟩ | ⟨_, _, h3⟩
  · refine ⟨h1, h3 hu, ?_⟩
    show fileOr nmB (S.do syncL).2.files = _
    rw [h2, fl_sync]
  · exact absurd hu h3
theorem light_fl (S : St) (n : Int) : fl (S.light n).2 = fl S := by
  unfold St.light; split <;> rfl

/-- the file has just these lists, all safe -/
structure DI (n : Int) (S : St) (rs : List Rc) : Prop where
  data : (fl S).data = frs rs
  safe : (fl S).safe = (frs rs).length
  oks : Oks n Bl.new rs
theorem DI.light {n : Int} {S : St} {rs : List Rc} (h : DI n S rs) (x : Int) : DI n (S.light x).2 rs := by
  have := light_fl S x
  exact ⟨by rw [this]; exact h.data, by rw [this]; exact h.safe, h.oks⟩
theorem DI.sync {n : Int} {S : St} {rs : List Rc} (h : DI n S rs) (hu : Up S) : DI n S.sync.2 rs := by
  have := (sync_up hu).2.2
  exact ⟨by rw [this]; exact h.data, by rw [this, h.data], h.oks⟩
theorem DI.new (n : Int) (room : Nat) : DI n (Dk.St.new room) [] := ⟨rfl, rfl, trivial⟩
theorem DI.many {n : Int} {S : St} {rs : List Rc} (h : DI n S rs) (hS : S.Ok) : (run Bl.new rs).es.length ≤ 32768 ∧ (frs rs).length ≤ 262144 := by
  have h1 := (fl_ok hS).1
  rw [h.data] at h1
  have h2 := frs_many rs
  have h3 := run_many Bl.new rs
  have h4 : Bl.new.es.length = 0 := rfl
  omega
/-- how states go on -/
theorem on_do {n : Int} {s : Bl} {r : Rc} (h : r.ok n s) : s.t ≤ (r.do s).t ∧ ((r.do s).t = s.t → s.v ≠ -1 → (r.do s).v = s.v) := by
  cases r with
  | st t v =>
    obtain ⟨_, h⟩ := h
    simp only [Rc.do]
    rcases h with h | ⟨h, h2⟩
    · exact ⟨by omega, fun e => by omega⟩
    · refine ⟨by omega, fun _ e => ?_⟩
      rcases h2 with h2 | h2
      · exact absurd h2 e
      · exact h2
  | en e => exact ⟨Int.le_refl _, fun _ _ => rfl⟩
  | ct k => exact ⟨Int.le_refl _, fun _ _ => rfl⟩
def On (s s' : Bl) : Prop := s.t ≤ s'.t ∧ (s'.t = s.t → s.v ≠ -1 → s'.v = s.v)
theorem On.refl (s : Bl) : On s s := ⟨Int.le_refl _, fun _ _ => rfl⟩
theorem On.trans {a b c : Bl} (h : On a b) (k : On b c) : On a c := by
  refine ⟨Int.le_trans h.1 k.1, fun e hv => ?_⟩
  have h1 := h.1
  have h2 := k.1
  have e1 : b.t = a.t := by omega
  have hb := h.2 e1 hv
  rw [k.2 (by omega) (by rw [hb]; exact hv), hb]
theorem on_run {n : Int} : ∀ {s : Bl} {l : List Rc}, Oks n s l → On s (run s l)
  | s, [], _ => On.refl s
  | _, _ :: _, h => On.trans (on_do h.2.1) (on_run h.2.2)

/-- behind a crash and Open -/
theorem crash_open {n : Int} {S : St} (hS : S.Ok) (rs more : List Rc) (ho : Oks n Bl.new (rs ++ more)) (hd : (fl S).data = frs (rs ++ more)) (hsf : (fl S).safe = (frs rs).length) (ds : List Int) (hds : ds.length ≤ 4096) :
    ∃ j tl, Torn tl ∧ (((S.crash ds).2).read nmB).1 = frs (rs ++ more.take j) ++ tl ∧ (frs (rs ++ more.take j) ++ tl).length ≤ 262144 ∧ Oks n Bl.new (rs ++ more.take j) ∧
      (tl ≠ [] → ((S.crash ds).2.cut nmB (frs (rs ++ more.take j)).length).1 = 0) ∧ DI n (ldd (S.crash ds).2 (rs ++ more.take j) tl) (rs ++ more.take j) ∧ Up (ldd (S.crash ds).2 (rs ++ more.take j) tl) ∧ (more = [] → tl = []) := by
  obtain ⟨h1, h2, m, h3, h4, h5⟩ := crash_fl hS ds hds
  have hokC := hS.crash ds
  rw [hsf] at h3
  rw [hd] at h4 h5
  obtain ⟨h6, h7⟩ := Oks.append.1 ho
  obtain ⟨j, tl, hj, ht, e⟩ := frs_cut2 rs more m h7.may h3 h4
  have hokj : Oks n Bl.new (rs ++ more.take j) := Oks.append.2 ⟨h6, h7.take j⟩
  have hdat : (fl (S.crash ds).2).data = frs (rs ++ more.take j) ++ tl := by rw [h5]; exact e
  have hlen : (frs (rs ++ more.take j) ++ tl).length = m := by rw [← e, List.length_take]; omega
  refine ⟨j, tl, ht, by rw [read_fl]; exact hdat, by rw [← hdat]; exact (fl_ok hokC).1, hokj, ?_, ?_, ?_, ?_⟩
  · intro hne
    have hp := List.length_pos_iff.2 hne
    exact (cut_fl hokC h2 _ (by rw [hdat, List.length_append]; omega)).1
  · unfold ldd
    split
    · rename_i htl
      subst htl
      rw [List.append_nil] at hdat hlen
      exact ⟨hdat, by rw [h5, hlen], hokj⟩
    · rename_i hne
      have hp := List.length_pos_iff.2 hne
      obtain ⟨_, _, k3⟩ := cut_fl hokC h2 (frs (rs ++ more.take j)).length (by rw [hdat, List.length_append]; omega)
      refine ⟨by rw [k3, hdat]; exact List.take_left, ?_, hokj⟩
      rw [k3, h5]
      rw [List.length_append] at hlen
      show min m _ = _
      omega
  · unfold ldd
    split
    · exact h2
    · rename_i hne
      have hp := List.length_pos_iff.2 hne
      exact (cut_fl hokC h2 _ (by rw [hdat, List.length_append]; omega)).2.1
  · intro hm
    subst hm
    simp only [List.take_nil, List.append_nil] at hlen h4
    rw [List.length_append] at hlen
    exact List.eq_nil_of_length_eq_zero (by omega)

/-- how a call of a ballot ends -/
inductive Out (n : Int) (S : St) (s : Bl) (rs : List Rc) (c : Int) (S' : St) (s' : Bl) : Prop where
  | fine (rs' : List Rc) (h1 : c ≠ 21) (h2 : c ≠ 22) (h3 : DI n S' rs') (h4 : s' = run Bl.new rs') (h5 : On s s') (h6 : Up S → Up S')
  | full (h1 : c = 22) (h2 : s' = s) (h3 : S' = S)
  | down (more : List Rc) (h1 : c = 21) (h2 : s' = s) (h3 : ¬ Up S) (h4 : Oks n Bl.new (rs ++ more)) (h5 : (fl S').data = frs (rs ++ more)) (h6 : (fl S').safe = (frs rs).length)
theorem wrt_out {n : Int} {S : St} {rs more : List Rc} (hS : S.Ok) (h : DI n S rs) (ho : Oks n (run Bl.new rs) more) :
    ((wrt S (frs more)).1 = 0 ∧ DI n (wrt S (frs more)).2 (rs ++ more) ∧ (Up S → Up (wrt S (frs more)).2)) ∨ ((wrt S (frs more)).1 = 22 ∧ (wrt S (frs more)).2 = S) ∨
      ((wrt S (frs more)).1 = 21 ∧ ¬ Up S ∧ ∃ m, Oks n Bl.new (rs ++ m) ∧ (fl (wrt S (frs more)).2).data = frs (rs ++ m) ∧ (fl (wrt S (frs more)).2).safe = (frs rs).length) := by
  have ho' : Oks n Bl.new (rs ++ more) := Oks.append.2 ⟨h.oks, ho⟩
  rcases wrt_cases hS (frs more) with ⟨h1, h2, h3⟩ | h1 | ⟨h1, h2, h3⟩
  · refine Or.inl ⟨h1, ⟨by rw [h2, h.data, frs_append], by rw [h2, h.data, frs_append], ho'⟩, h3⟩
  · exact Or.inr (Or.inl h1)
  · refine Or.inr (Or.inr ⟨h1, h2, ?_⟩)
    rcases h3 with h3 | h3
    · exact ⟨[], by rw [List.append_nil]; exact h.oks, by rw [h3, h.data, List.append_nil], by rw [h3, h.safe]⟩
    · exact ⟨more, ho', by rw [h3, h.data, frs_append], by rw [h3, h.safe]⟩
theorem stn_out {n : Int} {S : St} {s : Bl} {rs : List Rc} {t v : Int} (hS : S.Ok) (h : DI n S rs) (hs : s = run Bl.new rs) (hm : (Rc.st t v).may) (ho : (Rc.st t v).ok n s) : Out n S s rs (stn S s t v).1 (stn S s t v).2.1 (stn S s t v).2.2 := by
  have hok : Oks n (run Bl.new rs) [Rc.st t v] := ⟨hm, hs ▸ ho, trivial⟩
  have hw := wrt_out hS h hok
  rw [frs_one] at hw
  unfold stn pick0
  dsimp only
  rcases hw with ⟨h1, h2, h3⟩ | ⟨h1, h2⟩ | ⟨h1, h2, m, h3, h4, h5⟩
  · rw [h1, if_pos rfl]
    refine .fine (rs ++ [Rc.st t v]) (by decide) (by decide) h2 ?_ (on_do ho) h3
    rw [run_append, ← hs]; rfl
  · rw [h1, if_neg (by decide)]
    exact .full rfl rfl h2
  · rw [h1, if_neg (by decide)]
    exact .down m rfl rfl h2 h3 h4 h5
theorem trn_out {n : Int} {S : St} {s : Bl} {rs : List Rc} (t : Int) (hS : S.Ok) (h : DI n S rs) (hs : s = run Bl.new rs) (hn : 1 ≤ n) : Out n S s rs (trn S s t).1 (trn S s t).2.1 (trn S s t).2.2 := by
  unfold trn
  split
  · exact .fine rs (by simp) (by simp) h hs (On.refl _) id
  · split
    · exact .fine rs (by simp) (by simp) h hs (On.refl _) id
    · exact stn_out hS h hs ⟨by omega, by omega, by decide, by decide⟩ ⟨by omega, Or.inl (by omega)⟩
theorem cst_out {n : Int} {S : St} {s : Bl} {rs : List Rc} (x : Int) (hS : S.Ok) (h : DI n S rs) (hs : s = run Bl.new rs) (hn : 1 ≤ n) (hn2 : n ≤ 16) : Out n S s rs (cst n S s x).1 (cst n S s x).2.1 (cst n S s x).2.2 := by
  have hok : s.Ok n := hs ▸ (Bl.Ok.new hn).run h.oks
  have := hok.t0
  have := hok.t1
  unfold cst
  split
  · exact .fine rs (by simp) (by simp) h hs (On.refl _) id
  · split
    · exact .fine rs (by simp) (by simp) h hs (On.refl _) id
    · split
      · exact .fine rs (by simp) (by simp) h hs (On.refl _) id
      · split
        · exact .fine rs (by simp) (by simp) h hs (On.refl _) id
        · rename_i h5
          have h5' : s.v = -1 := by simpa using h5
          exact stn_out hS h hs ⟨by omega, by omega, by omega, by omega⟩ ⟨by omega, Or.inr ⟨rfl, Or.inl h5'⟩⟩
theorem mcode_ne (t : Int) (L : List (Nat × En)) : mcode t L ≠ 21 ∧ mcode t L ≠ 22 := by
  unfold mcode
  split
  · decide
  · split
    · decide
    · split <;> decide
theorem mgd_out {n : Int} {S : St} {s : Bl} {rs : List Rc} (p : Nat) (fs : List En) (hS : S.Ok) (h : DI n S rs) (hs : s = run Bl.new rs) (hn : 1 ≤ n) (hp : p ≤ s.es.length) (hf : ∀ e ∈ fs, e.t ≤ s.t) : Out n S s rs (mgd S s p fs).2.1 (mgd S s p fs).2.2.1 (mgd S s p fs).2.2.2 := by
  have hok : s.Ok n := hs ▸ (Bl.Ok.new hn).run h.oks
  have hmany := (h.many hS).1
  rw [← hs] at hmany
  unfold mgd
  split
  · obtain ⟨h1, h2⟩ := mcode_ne (s.lo.tm p) (nmb (p + 1) fs)
    exact .fine rs h1 h2 h hs (On.refl _) id
  · rename_i hc
    obtain ⟨i, cc, es', hM⟩ := mrg_ok hok p hp fs hf (by simpa using hc) (by omega)
    rw [hM.res]
    dsimp only
    rw [show s.es.length - cc = i by have := hM.was; omega]
    have hon : On s ⟨s.t, s.v, es'⟩ := ⟨Int.le_refl _, fun _ _ => rfl⟩
    by_cases hcl : cnl i cc es' = []
    · have e : cnf S (cnl i cc es') = (0, S) := by rw [cnf, if_pos hcl]
      rw [e, if_pos rfl]
      refine .fine rs (by simp) (by simp) h ?_ hon id
      have := hM.run
      rw [hcl] at this
      rw [← this, ← hs]; rfl
    · have e : cnf S (cnl i cc es') = wrt S (frs (cnl i cc es')) := by rw [cnf, if_neg hcl]
      rw [e]
      rcases wrt_out hS h (hs ▸ hM.oks) with ⟨h1, h2, h3⟩ | ⟨h1, h2⟩ | ⟨h1, h2, m, h3, h4, h5⟩
      · rw [h1, if_pos rfl]
        refine .fine (rs ++ cnl i cc es') (by simp) (by simp) h2 ?_ hon h3
        rw [run_append, ← hs]; exact hM.run.symm
      · rw [h1, if_neg (by decide)]
        exact .full rfl rfl h2
      · rw [h1, if_neg (by decide)]
        exact .down m rfl rfl h2 h3 h4 h5
end Go.Proofs.YtmpahgklcabihaaGreat.Ba
