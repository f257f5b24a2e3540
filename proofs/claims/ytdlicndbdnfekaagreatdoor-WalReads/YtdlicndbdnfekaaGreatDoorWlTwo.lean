/- A crash of a log's disk; two logs on one disk. -/
import Derived.Test.YtdlicndbdnfekaaGreatDoorWlWorks
import Derived.Test.YtdlicndbdnfekaaGreatDoorWlArgs
namespace Go.Proofs.YtdlicndbdnfekaaGreatDoor.Wl
open Go.RowKit Go.Joins
open Go.Proofs.YtdlicndbdnfekaaGreatDoor.Dk (Bs Fil Fls St St.Ok Held Only)

/-- draws that lay there at the call -/
theorem ints_lies {w W : World} {own : Nat → Prop} {a : Option Addr} {cap : Nat} {ds : List Int} (h : Gk.IntsAt w a cap ds) (hb : Below w.heap.size w W) (ho : ∀ b, own b → w.heap.size ≤ b) : Dk.LiesI W own a ds := by
  rcases h.lies with e | ⟨b, off, e, hlt, hc⟩
  · exact Or.inl e
  · refine Or.inr ⟨b, off, e, Nat.lt_of_lt_of_le hlt hb.size, fun hh => by have := ho b hh; omega, fun i hi => ?_⟩
    obtain ⟨b', off', e', hlt', hc'⟩ := (h.lies.below hb).at Gk.ienc_len i hi
    rw [e] at e'
    cases e'
    have := hc' 0 _ rfl
    rwa [Nat.mul_one, Nat.add_zero] at this
section
variable {B bd bw most n m : Nat} {w0 w w' : World} {O : Nat → Prop} {S : St} {l : List Sg}
theorem opened_nil {l : List Sg} : opened l = [] ↔ l = [] := by
  rcases nil_or_snoc l with rfl | ⟨a, s, rfl⟩
  · simp [opened]
  · rw [opened_snoc]
    split
    · rename_i hc; simp [hc.2]
    · simp
theorem forg_nil {seq : Nat} {l : List Sg} : forg seq l = [] ↔ l = [] := by
  obtain ⟨k, h1, h2, h3⟩ := forg_suffix seq l
  rw [h2]
  constructor
  · intro h
    by_cases hl : l = []
    · exact hl
    · have := h3 hl
      have h4 := congrArg List.length h
      rw [List.length_drop, List.length_nil] at h4
      omega
  · rintro rfl; simp
theorem Lg.le (h : Lg l n m) : n ≤ m := by
  rcases nil_or_snoc l with rfl | ⟨a, s, rfl⟩
  · exact Nat.le_of_eq h.chain
  · have := h.rise.2 s (by simp); omega
theorem forg_first (h : Lg l n m) (seq : Nat) : n ≤ lfst (forg seq l) m := by
  have hl := h.forg seq
  rcases hf : forg seq l with _ | ⟨s, r⟩
  · rw [show lfst [] m = m from rfl]; exact h.le
  · obtain ⟨k, h1, h2, h3⟩ := forg_suffix seq l
    have hm : s ∈ l := List.mem_of_mem_drop (by rw [← h2, hf]; simp : s ∈ l.drop k)
    exact (h.rise.2 s hm).1
/-- the disk crashes -/
theorem Sn.crash (h : Sn B w0 w O bd bw most S l n m) (hB : B = w0.heap.size) {a : Option Addr} {cap : Nat} {ds : List Int} (hI : Gk.IntsAt w0 a cap ds) (hd : ds.length ≤ 4096) :
    Calls Tryz.prog 13 #[.pointer (some ⟨bd, 0, none⟩), .slice a ds.length cap] w fun e w' => ∃ O' S' l' m', e = .returned (.int .i64 0) ∧ Ds B w0 w' O' bd S' l' n m' ∧ Up S' ∧ AllSafe l' ∧ m' ≤ m ∧ (l' = [] ↔ l = []) ∧ Stp O O' w w' := by
  obtain ⟨own, v, hBo, h1, h2, h3, h4, h5, h6, h7, h8, h9⟩ := h
  have hz := h9.size
  have hown : ∀ b, own b → w0.heap.size ≤ b := fun b hb => by have := (h8 b (h5 b hb)).1; omega
  subst hB
  refine (Dk.crash_any w hBo.disk.held a cap ds (ints_lies hI h9 hown) hI.room hI.nil hI.max hI.each).mono ?_
  rintro e w' ⟨rfl, hH, hO⟩
  have hDH : DH w' own bd (S.crash ds).2 := ⟨hH, fun b hb => Nat.lt_of_lt_of_le (hBo.disk.old b hb) hO.size⟩
  have hbas : Below w0.heap.size w0 w' := h9.trans ⟨hO.os, hO.tape, hO.output, hO.size, fun k hk => hO.block k (by omega) fun e => by have := hown k e; omega⟩
  have hT' : Tab w' := hBo.tab.stay (hO.block _ hBo.tab.lt hBo.noTab)
  have hst : Stp O own w w' := ⟨fun b hb => Or.inl (h5 b hb), hO.mono fun b _ hb => Or.inl (h5 b hb)⟩
  rcases nil_or_snoc l with rfl | ⟨a1, s, rfl⟩
  · obtain ⟨c1, c2, c3⟩ := crash_none h1 ds hd
    refine ⟨own, _, [], m, by rw [c1]; rfl, ⟨own, hDH, hBo.noTab, hT', c3, h2, fun _ h => h, fun b hb => ⟨hown b hb, hDH.old b hb⟩, hbas⟩, c2, by simp [AllSafe], Nat.le_refl _, Iff.rfl, hst⟩
  · obtain ⟨j, t, hj, c1, c2, c3, c4, _⟩ := crash_log h1 h2 (h3 s (by simp)) ds hd
    obtain ⟨g1, g2, g3, g4⟩ := Lg.snoc.1 h2
    refine ⟨own, _, _, s.first + j, by rw [c1]; rfl, ⟨own, hDH, hBo.noTab, hT', c3, c4, fun _ h => h, fun b hb => ⟨hown b hb, hDH.old b hb⟩, hbas⟩, c2, fun x hx => ?_, by rw [← g2, Sg.last]; omega, by simp, hst⟩
    rcases List.mem_append.1 hx with hx | hx
    · exact (g3 x hx).2.2
    · rw [List.mem_singleton.1 hx]
      simp only [Sg.data, List.length_append]
/-- the disk, and the log beside it, and from where on they lie -/
theorem Sn.split2 (h : Sn B w0 w O bd bw most S l n m) : ∃ Od v, Ds B w0 w Od bd S l n m ∧ WH w bw bd most v (ms l) m ∧ ¬ Od bw ∧ (∀ g, v.ownBlock = some g → ¬ Od g) ∧ (∀ b, Od b → O b) ∧ B ≤ bw ∧ ∀ g, v.ownBlock = some g → B ≤ g := by
  obtain ⟨own, v, hB, h1, h2, h3, h4, h5, h6, h7, h8, h9⟩ := h
  exact ⟨own, v, ⟨own, hB.disk, hB.noTab, hB.tab, h1, h2, fun _ h => h, fun b hb => h8 b (h5 b hb), h9⟩, hB.log, hB.no, hB.noRow, h5, (h8 _ h6).1, fun g hg => (h8 g (h7 g hg)).1⟩
/-- a disk with a log that lies beside it -/
theorem Ds.with {v : Value} (h : Ds B w0 w O bd S l n m) (hW : WH w bw bd most v (ms l) m) (hc : Clean l) (hla : LastOk l) (h1 : ¬ O bw) (h2 : ∀ g, v.ownBlock = some g → ¬ O g) (h3 : B ≤ bw) (h4 : ∀ g, v.ownBlock = some g → B ≤ g) (hB : B = w0.heap.size) (hT : Tab w0) :
    Sn B w0 w (fun b => O b ∨ b = bw ∨ v.ownBlock = some b) bd bw most S l n m := by
  obtain ⟨own, a1, a2, a3, a4, a5, a6, a7, a8⟩ := h
  refine ⟨own, v, ⟨a1, hW, fun e => h1 (a6 _ e), fun g hg e => h2 g hg (a6 _ e), a3, a2, fun e => by have := h4 _ e; have := hT.lt; omega⟩, a4, a5, hc, hla, fun b hb => Or.inl (a6 b hb), Or.inr (Or.inl rfl), fun g hg => Or.inr (Or.inr hg), fun b hb => ?_, a8⟩
  rcases hb with hb | rfl | hb
  · exact a7 b hb
  · exact ⟨h3, hW.lt⟩
  · exact ⟨h4 b hb, hW.row.lt hb⟩
/-- opened twice: two logs, that say the same -/
theorem Ds.twice (h : Ds B w0 w O bd S l n m) (hB : B = w0.heap.size) (hT : Tab w0) (hu : Up S) (h1 : 1 ≤ n) (hm : m ≤ 1048576) (hn1 : l = [] → m = 1) (hmo : 1 ≤ most) (hmo2 : most ≤ 65536) (hs : AllSafe l) :
    Calls Tryz.prog 8 #[.pointer (some ⟨bd, 0, none⟩), .int .i64 most] w fun e w' => ∃ ba, e = .returned (.tuple #[.pointer (some ⟨ba, 0, none⟩), .int .i64 0]) ∧
      Calls Tryz.prog 8 #[.pointer (some ⟨bd, 0, none⟩), .int .i64 most] w' fun e w2 => ∃ bb Oa Ob S2, e = .returned (.tuple #[.pointer (some ⟨bb, 0, none⟩), .int .i64 0]) ∧
        Sn B w0 w2 Oa bd ba most S2 (opened l) n m ∧ Sn B w0 w2 Ob bd bb most S2 (opened l) n m ∧ Up S2 := by
  refine (h.open (by rw [hB]; exact h.base.size) hu h1 hm hn1 hmo hmo2).mono ?_
  rintro e w1 ⟨ba, O1, S1, rfl, hS1, hu1, -, -, hst1⟩
  refine ⟨ba, rfl, ?_⟩
  obtain ⟨Od, v, hD, hW, n1, n2, hsub, b1, b2⟩ := hS1.split2
  refine (hD.open (by rw [hB]; exact hS1.base.size) hu1 h1 hm (fun e => hn1 (opened_nil.1 e)) hmo hmo2).mono ?_
  rintro e w2 ⟨bb, O2, S2, rfl, hS2, hu2, -, -, hst2⟩
  have hag : opened (opened l) = opened l := opened_again (opened_lg h.lg) (opened_clean h.lg) (opened_safe h.lg hs) (opened_last h.lg)
  rw [hag] at hS2
  have hW2 := hst2.log hW n1 n2
  obtain ⟨Oe, v', hD2, hW', m1, m2, hsub2, d1, d2⟩ := hS2.split2
  have na : ¬ Oe ba := fun e => (hst2.block hW.lt n1).2 (hsub2 _ e)
  have nr : ∀ g, v.ownBlock = some g → ¬ Oe g := fun g hg e => (hst2.block (hW.row.lt hg) (n2 g hg)).2 (hsub2 _ e)
  exact ⟨bb, _, _, S2, rfl, hD2.with hW2 (opened_clean h.lg) (opened_last h.lg) na nr b1 b2 hB hT, hS2, hu2⟩
end

end Go.Proofs.YtdlicndbdnfekaaGreatDoor.Wl
