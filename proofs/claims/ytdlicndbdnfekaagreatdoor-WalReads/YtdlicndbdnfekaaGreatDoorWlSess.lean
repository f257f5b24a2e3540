/- A log and its disk, in a world that began at B: its calls, for the laws. -/
import Derived.Test.YtdlicndbdnfekaaGreatDoorWlLog
namespace Go.Proofs.YtdlicndbdnfekaaGreatDoor.Wl
open Go.RowKit Go.Joins
open Go.Proofs.YtdlicndbdnfekaaGreatDoor.Dk (Bs Fil Fls St St.Ok Held Only)

/-- nothing but O, and what is new, has turned; what is theirs now was, or is new -/
structure Stp (O O' : Nat → Prop) (w w' : World) : Prop where
  sub : ∀ b, O' b → O b ∨ w.heap.size ≤ b
  only : Only (plus O w.heap.size) w w'
theorem Stp.block {O O' : Nat → Prop} {w w' : World} (h : Stp O O' w w') {k : Nat} (hk : k < w.heap.size) (hn : ¬ O k) : w'.heap[k]? = w.heap[k]? ∧ ¬ O' k := ⟨h.only.block k hk fun e => e.elim hn (by omega), fun e => (h.sub k e).elim hn (by omega)⟩
theorem Stp.trans {O O' O2 : Nat → Prop} {w w' w2 : World} (h : Stp O O' w w') (k : Stp O' O2 w' w2) : Stp O O2 w w2 :=
  ⟨fun b hb => (k.sub b hb).elim (h.sub b) fun h2 => Or.inr (Nat.le_trans h.only.size h2), h.only.trans (k.only.mono fun b _ hb => hb.elim (h.sub b) fun h2 => Or.inr (Nat.le_trans h.only.size h2))⟩
theorem Stp.below {O : Nat → Prop} {w w' : World} (h : Below w.heap.size w w') : Stp O O w w' := ⟨fun _ hb => Or.inl hb, Only.of_below h⟩
/-- a row that is none of theirs stays -/
theorem Stp.row {O O' : Nat → Prop} {w w' : World} {B e size n : Nat} {v : Value} {xs : List Value} (h : Stp O O' w w') (hr : w.ownsRow B e size v n xs) (hn : ∀ g, v.ownBlock = some g → ¬ O g) : w'.ownsRow B e size v n xs ∧ ∀ g, v.ownBlock = some g → ¬ O' g :=
  ⟨Gk.own_stay hr fun g hg => (h.block (hr.lt g hg).2 (hn g hg)).1, fun g hg => (h.block (hr.lt g hg).2 (hn g hg)).2⟩

/-- a disk with a log's segments -/
def Ds (B : Nat) (w0 w : World) (O : Nat → Prop) (bd : Nat) (S : St) (l : List Sg) (n m : Nat) : Prop :=
  ∃ own, DH w own bd S ∧ ¬ own 0 ∧ Tab w ∧ On S l ∧ Lg l n m ∧ (∀ b, own b → O b) ∧ (∀ b, O b → B ≤ b ∧ b < w.heap.size) ∧ Below B w0 w
/-- .. and the log -/
def Sn (B : Nat) (w0 w : World) (O : Nat → Prop) (bd bw most : Nat) (S : St) (l : List Sg) (n m : Nat) : Prop :=
  ∃ own v, Both w own bd bw most S v (ms l) m ∧ On S l ∧ Lg l n m ∧ Clean l ∧ LastOk l ∧ (∀ b, own b → O b) ∧ O bw ∧ (∀ g, v.ownBlock = some g → O g) ∧ (∀ b, O b → B ≤ b ∧ b < w.heap.size) ∧ Below B w0 w
section
variable {B bd bw most n m : Nat} {w0 w w' : World} {O : Nat → Prop} {S : St} {l : List Sg}
theorem Sn.disk (h : Sn B w0 w O bd bw most S l n m) : Ds B w0 w O bd S l n m := by
  obtain ⟨own, v, hB, h1, h2, h3, h4, h5, h6, h7, h8, h9⟩ := h
  exact ⟨own, hB.disk, hB.noTab, hB.tab, h1, h2, h5, h8, h9⟩
theorem Sn.base (h : Sn B w0 w O bd bw most S l n m) : Below B w0 w := by obtain ⟨own, v, hB, h1, h2, h3, h4, h5, h6, h7, h8, h9⟩ := h; exact h9
theorem Sn.tab (h : Sn B w0 w O bd bw most S l n m) : Tab w := by obtain ⟨own, v, hB, _⟩ := h; exact hB.tab
theorem Sn.lg (h : Sn B w0 w O bd bw most S l n m) : Lg l n m := by obtain ⟨own, v, hB, h1, h2, _⟩ := h; exact h2
theorem Sn.on (h : Sn B w0 w O bd bw most S l n m) : On S l := by obtain ⟨own, v, hB, h1, _⟩ := h; exact h1
theorem Sn.clean (h : Sn B w0 w O bd bw most S l n m) : Clean l := by obtain ⟨own, v, hB, h1, h2, h3, _⟩ := h; exact h3
theorem Sn.lastOk (h : Sn B w0 w O bd bw most S l n m) : LastOk l := by obtain ⟨own, v, hB, h1, h2, h3, h4, _⟩ := h; exact h4
theorem Sn.ok (h : Sn B w0 w O bd bw most S l n m) : S.Ok := by obtain ⟨own, v, hB, _⟩ := h; exact hB.disk.held.ok
theorem Sn.old (h : Sn B w0 w O bd bw most S l n m) : ∀ b, O b → B ≤ b ∧ b < w.heap.size := by obtain ⟨own, v, hB, h1, h2, h3, h4, h5, h6, h7, h8, h9⟩ := h; exact h8
theorem Ds.old (h : Ds B w0 w O bd S l n m) : ∀ b, O b → B ≤ b ∧ b < w.heap.size := by obtain ⟨own, h1, h2, h3, h4, h5, h6, h7, h8⟩ := h; exact h7
theorem Ds.base (h : Ds B w0 w O bd S l n m) : Below B w0 w := by obtain ⟨own, h1, h2, h3, h4, h5, h6, h7, h8⟩ := h; exact h8
theorem Ds.lg (h : Ds B w0 w O bd S l n m) : Lg l n m := by obtain ⟨own, h1, h2, h3, h4, h5, h6, h7, h8⟩ := h; exact h5
theorem Sn.below (h : Sn B w0 w O bd bw most S l n m) (hB : B ≤ w.heap.size) (hb : Below w.heap.size w w') : Sn B w0 w' O bd bw most S l n m := by
  obtain ⟨own, v, hBo, h1, h2, h3, h4, h5, h6, h7, h8, h9⟩ := h
  exact ⟨own, v, hBo.below hb, h1, h2, h3, h4, h5, h6, h7, fun b hb2 => ⟨(h8 b hb2).1, Nat.lt_of_lt_of_le (h8 b hb2).2 hb.size⟩, h9.trans (hb.mono hB)⟩
theorem Ds.below (h : Ds B w0 w O bd S l n m) (hB : B ≤ w.heap.size) (hb : Below w.heap.size w w') : Ds B w0 w' O bd S l n m := by
  obtain ⟨own, h1, h2, h3, h4, h5, h6, h7, h8⟩ := h
  exact ⟨own, h1.below hb, h2, h3.below hb, h4, h5, h6, fun b hb2 => ⟨(h7 b hb2).1, Nat.lt_of_lt_of_le (h7 b hb2).2 hb.size⟩, h8.trans (hb.mono hB)⟩
/-- the disk, and the log beside it -/
theorem Sn.split (h : Sn B w0 w O bd bw most S l n m) : ∃ Od v, Ds B w0 w Od bd S l n m ∧ WH w bw bd most v (ms l) m ∧ ¬ Od bw ∧ (∀ g, v.ownBlock = some g → ¬ Od g) ∧ (∀ b, Od b → O b) := by
  obtain ⟨own, v, hB, h1, h2, h3, h4, h5, h6, h7, h8, h9⟩ := h
  exact ⟨own, v, ⟨own, hB.disk, hB.noTab, hB.tab, h1, h2, fun _ h => h, fun b hb => h8 b (h5 b hb), h9⟩, hB.log, hB.no, hB.noRow, h5⟩
/-- a log stays through what turns another's -/
theorem Stp.log {O O' : Nat → Prop} {v : Value} {ss : List Sm} {nx : Nat} (h : Stp O O' w w') (hW : WH w bw bd most v ss nx) (h1 : ¬ O bw) (h2 : ∀ g, v.ownBlock = some g → ¬ O g) : WH w' bw bd most v ss nx :=
  hW.stay (h.block hW.lt h1).1 fun g hg => (h.block (hW.row.lt hg) (h2 g hg)).1
/-- one behind another call's world: nothing of theirs has turned -/
theorem Sn.stay (h : Sn B w0 w O bd bw most S l n m) (hs : ∀ k, k < w.heap.size → O k → w'.heap[k]? = w.heap[k]?) (ht : Tab w') (hz : w.heap.size ≤ w'.heap.size) (hb : Below B w0 w') : Sn B w0 w' O bd bw most S l n m := by
  obtain ⟨own, v, hBo, h1, h2, h3, h4, h5, h6, h7, h8, h9⟩ := h
  exact ⟨own, v, ⟨hBo.disk.frame (fun k hk ho => hs k hk (h5 k ho)) hz, hBo.log.stay (hs _ hBo.log.lt h6) fun g hg => hs g (hBo.log.row.lt hg) (h7 g hg), hBo.no, hBo.noRow, ht, hBo.noTab, hBo.tabRow⟩, h1, h2, h3, h4, h5, h6, h7, fun b hb2 => ⟨(h8 b hb2).1, Nat.lt_of_lt_of_le (h8 b hb2).2 hz⟩, hb⟩
theorem only_base {own : Nat → Prop} {w1 w2 : World} (hO : Only own w1 w2) (hB : B ≤ w1.heap.size) (ho : ∀ b, b < w1.heap.size → own b → B ≤ b) (hb : Below B w0 w1) : Below B w0 w2 :=
  hb.trans ⟨hO.os, hO.tape, hO.output, hO.size, fun k hk => hO.block k (Nat.lt_of_lt_of_le hk hB) fun e => by have := ho k (by omega) e; omega⟩

theorem Ds.open (h : Ds B w0 w O bd S l n m) (hB : B ≤ w.heap.size) (hu : Up S) (h1 : 1 ≤ n) (hm : m ≤ 1048576) (hn1 : l = [] → m = 1) (hmo : 1 ≤ most) (hmo2 : most ≤ 65536) :
    Calls Tryz.prog 8 #[.pointer (some ⟨bd, 0, none⟩), .int .i64 most] w fun e w' => ∃ bw O' S', e = .returned (.tuple #[.pointer (some ⟨bw, 0, none⟩), .int .i64 0]) ∧ Sn B w0 w' O' bd bw most S' (opened l) n m ∧ Up S' ∧ S'.room = S.room ∧ w.heap.size ≤ bw ∧ Stp O O' w w' := by
  obtain ⟨own, hD, hnT, hT, ho, hl, hO, hold, hbas⟩ := h
  refine (Open_any w hD hu hT hnT ho hl h1 hm hmo hmo2).mono ?_
  rintro e w' ⟨bw, own', S', v', rfl, hB', hu', hroom, hon, hbw, hvg, hsub, hOn⟩
  have hnx : nxAt l l.length = m := by
    rcases nil_or_snoc l with rfl | ⟨a, s, rfl⟩
    · rw [hn1 rfl]; rfl
    · rw [nxAt, List.take_length, List.getLast?_concat]; exact (Lg.snoc.1 hl).2.1
  rw [hnx] at hB'
  refine ⟨bw, fun b => (O b ∨ w.heap.size ≤ b) ∧ b < w'.heap.size, S', rfl, ⟨own', v', hB', hon, opened_lg hl, opened_clean hl, opened_last hl, fun b hb => ⟨(hsub b hb).imp (hO b) id, hB'.disk.old b hb⟩, ⟨Or.inr hbw, hB'.log.lt⟩, fun g hg => ⟨Or.inr (hvg g hg), hB'.log.row.lt hg⟩, fun b hb => ⟨hb.1.elim (fun h => (hold b h).1) fun h => by omega, hb.2⟩, ?_⟩, hu', hroom, hbw, fun b hb => hb.1, hOn.mono fun b _ hb => hb.imp (hO b) id⟩
  exact only_base hOn hB (fun b hb1 hb => hb.elim (fun h => (hold b (hO b h)).1) fun h => by omega) hbas
theorem Sn.append (h : Sn B w0 w O bd bw most S l n m) (hB : B ≤ w.heap.size) (hmo : 1 ≤ most) (hm : m ≤ 1048576) (r : Rec) (hr : r.may) :
    Calls Tryz.prog 12 #[.pointer (some ⟨bw, 0, none⟩), .int .i64 r.brick, .string r.body] w fun e w' => ∃ O' S' l' m' c, Sn B w0 w' O' bd bw most S' l' n m' ∧ Grew most S S' l l' n m m' r c ∧ (c = 0 → e = .returned (.tuple #[.int .i64 m, .int .i64 0])) ∧ (c ≠ 0 → e = .returned (.tuple #[.int .i64 0, .int .i64 c])) ∧ Stp O O' w w' := by
  obtain ⟨own, v, hBo, h1, h2, h3, h4, h5, h6, h7, h8, h9⟩ := h
  refine (Append_log w hBo h1 h2 h3 hmo hm hr).mono ?_
  rintro e w' ⟨own', S', v', l', m', c, hB', hG, he1, he2, hsub, hv, hO⟩
  refine ⟨fun b => (O b ∨ w.heap.size ≤ b) ∧ b < w'.heap.size, S', l', m', c, ⟨own', v', hB', hG.on, hG.lg, hG.clean, hG.last h4, fun b hb => ⟨(hsub b hb).imp (h5 b) id, hB'.disk.old b hb⟩, ⟨Or.inl h6, hB'.log.lt⟩, fun g hg => ⟨(hv g hg).imp (h7 g) id, hB'.log.row.lt hg⟩, fun b hb => ⟨hb.1.elim (fun h => (h8 b h).1) fun h => by omega, hb.2⟩, ?_⟩, hG, he1, he2, fun b hb => hb.1, hO.mono fun b _ hb => ?_⟩
  · refine only_base hO hB (fun b hb1 hb => ?_) h9
    rcases hb with (hb | hb) | rfl | hb
    · exact (h8 b (h5 b hb)).1
    · omega
    · exact (h8 b h6).1
    · exact (h8 b (h7 b hb)).1
  · rcases hb with (hb | hb) | rfl | hb
    · exact Or.inl (h5 b hb)
    · exact Or.inr hb
    · exact Or.inl h6
    · exact Or.inl (h7 b hb)
/-- all is made safe, or the disk is down -/
theorem Sn.sync (h : Sn B w0 w O bd bw most S l n m) (hB : B ≤ w.heap.size) :
    Calls Tryz.prog 10 #[.pointer (some ⟨bw, 0, none⟩)] w fun e w' => ∃ O' l', e = .returned (.int .i64 S.sync.1) ∧ Sn B w0 w' O' bd bw most S.sync.2 l' n m ∧ ((S.sync.1 = 0 ∧ l' = l.map syncd) ∨ (S.sync.1 = 21 ∧ l' = l)) ∧ Stp O O' w w' := by
  obtain ⟨own, v, hBo, h1, h2, h3, h4, h5, h6, h7, h8, h9⟩ := h
  refine (Sync_any w hBo).mono ?_
  rintro e w' ⟨rfl, own', hB', hsub, hO⟩
  have hbas := only_base hO hB (fun b hb1 hb => hb.elim (fun h => (h8 b (h5 b h)).1) fun h => by omega) h9
  have hst : Stp O (fun b => (O b ∨ w.heap.size ≤ b) ∧ b < w'.heap.size) w w' := ⟨fun b hb => hb.1, hO.mono fun b _ hb => hb.imp (h5 b) id⟩
  by_cases h0 : S.sync.1 = 0
  · exact ⟨_, l.map syncd, rfl, ⟨own', v, by rw [ms_syncd]; exact hB', h1.sync h0, h2.syncd, clean_syncd h3, h4.syncd, fun b hb => ⟨(hsub b hb).imp (h5 b) id, hB'.disk.old b hb⟩, ⟨Or.inl h6, hB'.log.lt⟩, fun g hg => ⟨Or.inl (h7 g hg), hB'.log.row.lt hg⟩, fun b hb => ⟨hb.1.elim (fun h => (h8 b h).1) fun h => by omega, hb.2⟩, hbas⟩, Or.inl ⟨h0, rfl⟩, hst⟩
  · exact ⟨_, l, rfl, ⟨own', v, hB', h1.files (sync_no h0).1, h2, h3, h4, fun b hb => ⟨(hsub b hb).imp (h5 b) id, hB'.disk.old b hb⟩, ⟨Or.inl h6, hB'.log.lt⟩, fun g hg => ⟨Or.inl (h7 g hg), hB'.log.row.lt hg⟩, fun b hb => ⟨hb.1.elim (fun h => (h8 b h).1) fun h => by omega, hb.2⟩, hbas⟩, Or.inr ⟨(sync_no h0).2, rfl⟩, hst⟩
theorem Sn.first (h : Sn B w0 w O bd bw most S l n m) : Calls Tryz.prog 15 #[.pointer (some ⟨bw, 0, none⟩)] w fun e w' => e = .returned (.int .i64 n) ∧ w = w' := by
  obtain ⟨own, v, hBo, h1, h2, h3, h4, h5, h6, h7, h8, h9⟩ := h
  have := First_any w hBo.log
  rwa [show fst (ms l) m = n from h2.fst] at this
theorem Sn.next (h : Sn B w0 w O bd bw most S l n m) : Calls Tryz.prog 9 #[.pointer (some ⟨bw, 0, none⟩)] w fun e w' => e = .returned (.int .i64 m) ∧ w = w' := by
  obtain ⟨own, v, hBo, _⟩ := h
  exact Next_any w hBo.log
theorem Sn.segs (h : Sn B w0 w O bd bw most S l n m) : Calls Tryz.prog 16 #[.pointer (some ⟨bw, 0, none⟩)] w fun e w' => ∃ u, e = .returned u ∧ w'.ownsRow w.heap.size IntT 1 u (l.map (·.first)).length (nums (l.map (·.first))) ∧ Below w.heap.size w w' := by
  obtain ⟨own, v, hBo, h1, h2, h3, h4, h5, h6, h7, h8, h9⟩ := h
  have := Segments_any w hBo.log (by rw [ms_length]; have := h1.len h2 hBo.disk.held.ok; omega)
  have e1 : (ms l).map (·.1) = l.map (·.first) := by simp [ms]
  rw [e1, ms_length] at this
  rw [List.length_map]
  exact this
theorem forg_lastOk {l : List Sg} (h : LastOk l) (seq : Nat) : LastOk (forg seq l) := fun a s e hs => by
  obtain ⟨k, h1, h2, h3⟩ := forg_suffix seq l
  rw [h2] at e
  have e2 : l = (l.take k ++ a) ++ [s] := by
    conv => lhs; rw [← List.take_append_drop k l, e]
    rw [List.append_assoc]
  have := h _ s e2 hs
  exact (List.append_eq_nil_iff.1 this).2
theorem forg_clean {l : List Sg} (h : Clean l) (seq : Nat) : Clean (forg seq l) := fun s hs => by
  obtain ⟨k, h1, h2, h3⟩ := forg_suffix seq l
  rw [h2] at hs
  exact h s (List.mem_of_mem_drop hs)
theorem Sn.forget (h : Sn B w0 w O bd bw most S l n m) (hB : B ≤ w.heap.size) (hu : Up S) (hm : m ≤ 1048577) (seq : Nat) (hs1 : n ≤ seq) (hs2 : seq ≤ m) :
    Calls Tryz.prog 17 #[.pointer (some ⟨bw, 0, none⟩), .int .i64 seq] w fun e w' => ∃ O' S', e = .returned (.tuple #[.int .i64 ((l.length - (forg seq l).length : Nat) : Int), .int .i64 0]) ∧ Sn B w0 w' O' bd bw most S' (forg seq l) (lfst (forg seq l) m) m ∧ Up S' ∧ Stp O O' w w' := by
  obtain ⟨own, v, hBo, h1, h2, h3, h4, h5, h6, h7, h8, h9⟩ := h
  refine (Forget_any w hBo hu h1 h2 hm hs1 hs2).mono ?_
  rintro e w' ⟨rfl, own', S', v', hB', hu', hon', hsub, hv, hO⟩
  refine ⟨fun b => (O b ∨ w.heap.size ≤ b) ∧ b < w'.heap.size, S', rfl, ⟨own', v', hB', hon', h2.forg seq, forg_clean h3 seq, forg_lastOk h4 seq, fun b hb => ⟨(hsub b hb).imp (h5 b) id, hB'.disk.old b hb⟩, ⟨Or.inl h6, hB'.log.lt⟩, fun g hg => ⟨Or.inl (h7 g (hv g hg)), hB'.log.row.lt hg⟩, fun b hb => ⟨hb.1.elim (fun h => (h8 b h).1) fun h => by omega, hb.2⟩, ?_⟩, hu', fun b hb => hb.1, hO.mono fun b _ hb => ?_⟩
  · refine only_base hO hB (fun b hb1 hb => ?_) h9
    rcases hb with (hb | hb) | rfl
    · exact (h8 b (h5 b hb)).1
    · omega
    · exact (h8 b h6).1
  · rcases hb with (hb | hb) | rfl
    · exact Or.inl (h5 b hb)
    · exact Or.inr hb
    · exact Or.inl h6
theorem opened_ne {l : List Sg} (h : ∀ s ∈ l, s.recs ≠ []) : (opened l).map (·.first) = l.map (·.first) ∧ ∀ s ∈ opened l, s.recs ≠ [] := by
  rcases nil_or_snoc l with rfl | ⟨a, s, rfl⟩
  · exact ⟨rfl, h⟩
  · rw [opened_snoc, if_neg (fun hh => h s (by simp) hh.1)]
    refine ⟨by simp, fun t ht => ?_⟩
    rcases List.mem_append.1 ht with ht | ht
    · exact h t (List.mem_append_left _ ht)
    · rw [List.mem_singleton.1 ht]; exact h s (by simp)
theorem Sn.read {fr q : Nat} (h : Sn B w0 w O bd bw most S l n m) (hm : m ≤ 1048577) (h1 : n ≤ fr) (hfm : fr ≤ m) (hq : q ≤ 9223372036854775807) : Calls Tryz.prog 14 #[.pointer (some ⟨bw, 0, none⟩), .int .i64 fr, .int .i64 q] w fun e w' => ∃ u, e = .returned (.tuple #[u, .int .i64 0]) ∧ w'.ownsRow w.heap.size RecT 3 u ((gat n fr (allRecs l)).take q).length (Gk.rc recE ((gat n fr (allRecs l)).take q)) ∧ Below w.heap.size w w' := by
  obtain ⟨own, v, hBo, h2, h3, h4⟩ := h
  exact Read_any w hBo h2 h3 hm h1 hfm hq
end

end Go.Proofs.YtdlicndbdnfekaaGreatDoor.Wl
