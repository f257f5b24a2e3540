/- WalBegins: a fuse; a crash of a log's disk, with how many records stay; texts that a log has. -/
import Derived.Test.YtdlicndbdnfekaaGreatDoorWlTwo
import Derived.Test.YtdlicndbdnfekaaGreatDoorDFuse
namespace Go.Proofs.YtdlicndbdnfekaaGreatDoor.Wl
open Go.RowKit Go.Joins
open Go.Proofs.YtdlicndbdnfekaaGreatDoor.Dk (Bs Fil Fls St St.Ok Held Only)

/-- a text's record -/
def rec1 (s : ByteArray) : Rec := ⟨1, s⟩
/-- a log has these texts, and so many of them are safe -/
structure Beg (l : List Sg) (m : Nat) (M : List ByteArray) (sure : Nat) : Prop where
  recs : allRecs l = M.map rec1
  nx : m = M.length + 1
  safe : SafeTo sure l
  le : sure ≤ M.length
theorem Beg.grew {most : Nat} {S S' : St} {l l' : List Sg} {n m m' c sure : Nat} {M : List ByteArray} {s : ByteArray} (h : Beg l m M sure) (hG : Grew most S S' l l' n m m' (rec1 s) c) : Beg l' m' (if c = 0 then M ++ [s] else M) sure := by
  have e1 := hG.recs
  have e2 := hG.nx
  have e3 := hG.safe sure (by have := h.le; have := h.nx; omega) h.safe
  by_cases hc : c = 0
  · rw [if_pos hc] at e1 e2 ⊢
    refine ⟨by rw [e1, h.recs]; simp, by rw [e2, h.nx]; simp, e3, by have := h.le; simp; omega⟩
  · rw [if_neg hc] at e1 e2 ⊢
    exact ⟨by rw [e1, h.recs]; simp, by rw [e2, h.nx], e3, h.le⟩
theorem Beg.synced {l : List Sg} {m sure : Nat} {M : List ByteArray} (h : Beg l m M sure) : Beg (l.map syncd) m M M.length :=
  ⟨by rw [allRecs_syncd]; exact h.recs, h.nx, safe_syncd _ _, Nat.le_refl _⟩
section
variable {B bd bw most n m : Nat} {w0 w w' : World} {O : Nat → Prop} {S : St} {l : List Sg}
/-- a fuse is lit -/
theorem Sn.fuse (h : Sn B w0 w O bd bw most S l n m) (hB : B ≤ w.heap.size) (k : Nat) (hk : k ≤ 1000) :
    Calls Tryz.prog 11 #[.pointer (some ⟨bd, 0, none⟩), .int .i64 (k : Int)] w fun e w' => ∃ O' S', e = .returned (.int .i64 0) ∧ Sn B w0 w' O' bd bw most S' l n m ∧ Stp O O' w w' := by
  obtain ⟨own, v, hBo, h1, h2, h3, h4, h5, h6, h7, h8, h9⟩ := h
  have hv : S.light (k : Int) = (0, { S with fuse := (k : Int) }) := by unfold Dk.St.light; rw [if_neg (by omega)]
  refine (Dk.fuse_any w hBo.disk.open (k : Int) (by omega)).mono ?_
  rintro e w' ⟨rfl, hH, hO⟩
  rw [hv] at hH ⊢
  have hB' := hBo.disked hH hO
  have hbas := only_base hO hB (fun b hb1 hb => hb.elim (fun h => (h8 b (h5 b h)).1) fun h => by omega) h9
  refine ⟨fun b => (O b ∨ w.heap.size ≤ b) ∧ b < w'.heap.size, _, rfl, ⟨_, v, hB', h1.files rfl, h2, h3, h4, fun b hb => ⟨hb.1.imp (h5 b) id, hb.2⟩, ⟨Or.inl h6, hB'.log.lt⟩, fun g hg => ⟨Or.inl (h7 g hg), hB'.log.row.lt hg⟩, fun b hb => ⟨hb.1.elim (fun h => (h8 b h).1) fun h => by omega, hb.2⟩, hbas⟩, fun b hb => hb.1, hO.mono fun b _ hb => hb.imp (h5 b) id⟩
/-- the disk crashes: at least what is safe stays -/
theorem Sn.crashB {M : List ByteArray} {sure : Nat} (h : Sn B w0 w O bd bw most S l 1 m) (hM : Beg l m M sure) (hB : B = w0.heap.size) {a : Option Addr} {cap : Nat} {ds : List Int} (hI : Gk.IntsAt w0 a cap ds) (hd : ds.length ≤ 4096) :
    Calls Tryz.prog 13 #[.pointer (some ⟨bd, 0, none⟩), .slice a ds.length cap] w fun e w' => ∃ O' S' l' k, e = .returned (.int .i64 0) ∧ Ds B w0 w' O' bd S' l' 1 (k + 1) ∧ Up S' ∧ sure ≤ k ∧ k ≤ M.length ∧ allRecs l' = (M.take k).map rec1 ∧ (l' = [] → k = 0) ∧ Stp O O' w w' := by
  obtain ⟨own, v, hBo, h1, h2, h3, h4, h5, h6, h7, h8, h9⟩ := h
  have hz := h9.size
  have hown : ∀ b, own b → w0.heap.size ≤ b := fun b hb => by have := (h8 b (h5 b hb)).1; omega
  subst hB
  refine (Dk.crash_any w hBo.disk.held a cap ds (ints_lies hI h9 hown) hI.room hI.nil hI.max hI.each).mono ?_
  rintro e w' ⟨rfl, hH, hO⟩
  have hDH : DH w' own bd (S.crash ds).2 := ⟨hH, fun b hb => Nat.lt_of_lt_of_le (hBo.disk.old b hb) hO.size⟩
  have hbas : Below w0.heap.size w0 w' := h9.trans ⟨hO.os, hO.tape, hO.output, hO.size, fun k hk => hO.block k (by omega) fun e => by have := hown k e; omega⟩
  have hT' : Tab w' := hBo.tab.stay (hO.block _ hBo.tab.lt hBo.noTab)
  have hst : Stp O own w w' := ⟨fun b hb => Or.inl (h5 b hb), hO.mono fun b _ hb => Or.inl (h5 b hb)⟩
  have hle := hM.le
  rcases nil_or_snoc l with rfl | ⟨a1, s, rfl⟩
  · obtain ⟨c1, c2, c3⟩ := crash_none h1 ds hd
    have hm1 : 1 = m := h2.chain
    have hM0 : M = [] := List.eq_nil_of_length_eq_zero (by have := hM.nx; omega)
    refine ⟨own, _, [], 0, by rw [c1]; rfl, ⟨own, hDH, hBo.noTab, hT', c3, by rw [← hm1] at h2; exact h2, fun _ h => h, fun b hb => ⟨hown b hb, hDH.old b hb⟩, hbas⟩, c2, by rw [hM0] at hle; simpa using hle, Nat.zero_le _, rfl, fun _ => rfl, hst⟩
  · obtain ⟨j, t, hj, c1, c2, c3, c4, c5⟩ := crash_log h1 h2 (h3 s (by simp)) ds hd
    obtain ⟨g1, g2, g3, g4⟩ := Lg.snoc.1 h2
    have hcn : 1 + (allRecs a1).length = s.first := by
      have := Chain.count a1.length (by simp) h2.chain
      simpa using this
    have hre := hM.recs
    rw [allRecs_append, allRecs_one] at hre
    have hml : (allRecs a1).length + s.recs.length = M.length := by
      have := congrArg List.length hre
      simpa using this
    have hnx := hM.nx
    have hsu : sure ≤ (allRecs a1).length + j := by
      have hs := hM.safe s (by simp)
      have := c5 (min (sure + 1 - s.first) s.recs.length) (Nat.min_le_right _ _) (by rw [← List.take_eq_take_min]; exact hs)
      omega
    refine ⟨own, _, _, (allRecs a1).length + j, by rw [c1]; rfl, ⟨own, hDH, hBo.noTab, hT', c3, by rw [show (allRecs a1).length + j + 1 = s.first + j by omega]; exact c4, fun _ h => h, fun b hb => ⟨hown b hb, hDH.old b hb⟩, hbas⟩, c2, hsu, by omega, ?_, fun e => absurd e (by simp), hst⟩
    rw [allRecs_append, allRecs_one, List.map_take, ← hre, List.take_append, List.take_of_length_le (l := allRecs a1) (by omega), Nat.add_sub_cancel_left]
end

end Go.Proofs.YtdlicndbdnfekaaGreatDoor.Wl
