/- Layer 15, the laws: of, same. Layer 15, the laws: works. -/
import Derived.Test.YtnmgiiiafefgdaaGreatBaDsk
namespace Go.Proofs.YtnmgiiiafefgdaaGreat.Ba
open Go.RowKit Go.Joins Go.Proofs.YtnmgiiiafefgdaaGreat.Gk
open Go.Proofs.YtnmgiiiafefgdaaGreat.Dk (St Bs)
open Go.Proofs.YtnmgiiiafefgdaaGreat.Rl (En Lo LH ER ptr blk eenc EnT)

abbrev TdT : TypeId := 46
section
variable {bb bd : Nat} {n : Int} {S : St} {s : Bl} {X : Nat → Prop}
set_option maxRecDepth 100000 in
set_option maxHeartbeats 1000000 in
theorem of_any (w : World) (h : BB w bb bd n S s X) (he : Es s.es) :
    Calls Tryz.prog 15 #[ptr bb] w fun r w' => ∃ a c, r = .returned (.agg #[.int .i64 s.t, .int .i64 s.v, .slice a s.es.length c]) ∧ ER w' (.slice a s.es.length c) s.es ∧ (∀ g, blk (.slice a s.es.length c) = some g → w.heap.size ≤ g) ∧ Below w.heap.size w w' := by
  obtain ⟨W0, hW0⟩ : ∃ W0, w.alloc (.cells #[.int .i64 0, .int .i64 0, .slice none 0 0] TdT) = W0 := ⟨_, rfl⟩
  have hb0 : Below w.heap.size w W0 := by rw [← hW0]; exact (Below.refl _ _).alloc (Nat.le_refl _) _
  have hx0 : W0.heap[w.heap.size]? = some (.cells #[.int .i64 0, .int .i64 0, .slice none 0 0] TdT (0, 0)) := by rw [← hW0]; exact heap_alloc_new w _
  have hz0 : w.heap.size < W0.heap.size := (Array.getElem?_eq_some_iff.1 hx0).1
  have HL := hide (Log_any W0 (h.below hb0) he)
  have hm := he.many
  go_enter Tryz.func15, Tryz.ntmps15
  go_wp2_with fail
  clear hW0
  refine HL.out.mono ?_
  clear HL
  rintro r w1 ⟨bl1, rfl, hM⟩
  obtain ⟨v1, hL1⟩ := hM.log
  have HS := hide (Rl.Slice_ok bl1 ⟨0, 0, s.es⟩ v1 0 1048576 (by decide) w1 hL1 (by show 0 + s.es.length ≤ _; omega) (Nat.zero_le _) he.ds)
  have hk : ((s.es.drop 0).take (min (1048576 : Int).toNat (s.es.length - 0))) = s.es := by
    rw [List.drop_zero, List.take_of_length_le]; show _ ≤ min 1048576 _; omega
  dsimp only at HS
  rw [hk] at HS
  clear hk hL1
  go_wp2_with fail
  refine HS.out.mono ?_
  clear HS
  rintro r w2 ⟨v2, rfl, h2, hn2, hb2⟩
  obtain ⟨a2, c2, rfl, _⟩ := h2.slice
  have hb01 := hM.bel
  have hb02 : Below W0.heap.size W0 w2 := hb01.trans (hb2.mono hb01.size)
  have hbw : Below w.heap.size w w2 := hb0.trans (hb02.mono hb0.size)
  have HT := hide (Term_any w2 (h.below hbw))
  have HV := hide (Vote_any w2 (h.below hbw))
  have hx2 := (hb02.block _ hz0).trans hx0
  have x0 := cell_of_block hx2 0
  have x1 := cell_of_block hx2 1
  have x2 := cell_of_block hx2 2
  have y0 := unfrozen_of_block hx2 0
  have y1 := unfrozen_of_block hx2 1
  have y2 := unfrozen_of_block hx2 2

  have HE := hide h2
  have HN := hide (fun g hg => Nat.le_trans (Nat.le_trans hb0.size hb01.size) (hn2 g hg))
  have HNE := hide (fun g hg => (fun e => h2.ne hx2 (by decide) hg e : g ≠ w.heap.size))
  clear hM hb01 hb02 hb2 hn2 hx2 hx0 h2
  go_wp2_with fail
  refine HT.out.mono ?_
  rintro r w3 ⟨rfl, rfl⟩
  go_wp2_with fail
  refine HV.out.mono ?_
  rintro r w4 ⟨rfl, rfl⟩
  clear HT HV
  go_wp2
  refine bodyPost_ret (v := .agg #[.int .i64 s.t, .int .i64 s.v, .slice a2 s.es.length c2]) (by simp [results, Tryz.results15, go_sem, x0, x1, x2]) rfl ⟨a2, c2, rfl, ?_, HN.out, ?_⟩
  · refine HE.out.stay fun g hg => ?_
    have := HNE.out g hg
    rw [Below.heap_setCell _ ⟨w.heap.size, 2, none⟩ _ g this, Below.heap_setCell _ ⟨w.heap.size, 1, none⟩ _ g this, Below.heap_setCell _ ⟨w.heap.size, 0, none⟩ _ g this]
  · exact ((hbw.setCell (p := ⟨w.heap.size, 0, none⟩) (Nat.le_refl _) _).setCell (p := ⟨w.heap.size, 1, none⟩) (Nat.le_refl _) _).setCell (p := ⟨w.heap.size, 2, none⟩) (Nat.le_refl _) _
end
set_option maxRecDepth 100000 in
set_option maxHeartbeats 1000000 in
theorem same_yes (t v : Int) (es : List En) (a c a' c') (w : World) (h1 : ER w (.slice a es.length c) es) (h2 : ER w (.slice a' es.length c') es) (hm : es.length ≤ 1048576) :
    Calls Tryz.prog 14 #[.agg #[.int .i64 t, .int .i64 v, .slice a es.length c], .agg #[.int .i64 t, .int .i64 v, .slice a' es.length c']] w fun r w' => r = .returned (.bool true) ∧ Below w.heap.size w w' := by
  have HS := hide (fun W (hb : Below w.heap.size w W) => Rl.same_ents a a' c c' es W (h1.below hb).lies (h2.below hb).lies (by omega))
  go_enter Tryz.func14, Tryz.ntmps14
  go_wp2_with fail
  refine (HS.out _ (((Below.refl _ w).alloc (Nat.le_refl _) _).alloc (by simp) _)).mono ?_
  rintro r w1 ⟨rfl, hb1⟩
  go_wp2
  go_ret
  exact ⟨rfl, (((Below.refl _ w).alloc (Nat.le_refl _) _).alloc (by simp) _).trans (hb1.mono (by simp; omega))⟩
end Go.Proofs.YtnmgiiiafefgdaaGreat.Ba

namespace Go.Proofs.YtnmgiiiafefgdaaGreat.Ba
open Go.RowKit Go.Joins Go.Proofs.YtnmgiiiafefgdaaGreat.Gk
open Go.Proofs.YtnmgiiiafefgdaaGreat.Dk (St Bs fileOr putL getL used syncL named Rising)
open Go.Proofs.YtnmgiiiafefgdaaGreat.Rl (En Lo LH ER ptr blk eenc EnT mcode nmb)

/-- there is room -/
structure Rm (S : St) (r k : Nat) : Prop where
  up : Up S
  room : used S.files + r ≤ S.room
  many : S.files.length + k ≤ 64
theorem do_up {S : St} (hu : Up S) (g : Dk.Fls → Dk.Fls) : S.do g = (0, { S with files := g S.files }) := by
  obtain ⟨h1, h2⟩ := hu
  unfold St.do St.take Dk.taken
  rw [h1, h2]
  cases S
  simp only at h1 h2
  subst h1 h2
  simp
theorem wrt_room {S : St} (hS : S.Ok) {r k : Nat} (h : Rm S r k) (hk : 1 ≤ k) (p : Bs) (hp : p.length ≤ r) : (wrt S p).1 = 0 ∧ Rm (wrt S p).2 (r - p.length) (k - 1) := by
  have ea : S.append nmB p = S.do (putL nmB ⟨(fileOr nmB S.files).data ++ p, (fileOr nmB S.files).safe⟩) := by
    unfold St.append
    rw [if_neg (by simp [nmB_named]), if_neg]
    have := h.room
    have := h.many
    rintro (h1 | ⟨_, h1⟩) <;> omega
  unfold wrt
  rw [ea, do_up h.up, if_pos rfl]
  have hu2 : Up { S with files := putL nmB ⟨(fileOr nmB S.files).data ++ p, (fileOr nmB S.files).safe⟩ S.files } := h.up
  unfold St.sync
  rw [do_up hu2]
  refine ⟨rfl, ⟨h.up, ?_, ?_⟩⟩
  · show used (syncL (putL nmB _ S.files)) + _ ≤ S.room
    rw [Dk.used_syncL]
    have h1 := Dk.used_put hS.rising nmB ⟨(fileOr nmB S.files).data ++ p, (fileOr nmB S.files).safe⟩
    dsimp only at h1
    rw [List.length_append] at h1
    have := h.room
    omega
  · show (syncL (putL nmB _ S.files)).length + _ ≤ 64
    have h1 := Dk.length_put hS.rising nmB (⟨(fileOr nmB S.files).data ++ p, (fileOr nmB S.files).safe⟩ : Dk.Fil)
    have h2 : (syncL (putL nmB ⟨(fileOr nmB S.files).data ++ p, (fileOr nmB S.files).safe⟩ S.files)).length = (putL nmB ⟨(fileOr nmB S.files).data ++ p, (fileOr nmB S.files).safe⟩ S.files).length := by simp [syncL]
    have := h.many
    rw [h2]
    split at h1 <;> omega
theorem st_len (t v : Int) : (Rc.st t v).fr.length ≤ 40 := by
  rw [fr_length]
  have h1 := Pl.wd_le (u64 1)
  have h2 := Pl.wd_le (u64 t)
  have h3 := Pl.wd_le (u64 v)
  have : (encs (Rc.st t v).flds).length = (enc (num 1)).length + ((enc (num t)).length + (enc (num v)).length) := by simp [Rc.flds, encs]
  rw [this, enc_num_length, enc_num_length, enc_num_length]; omega
theorem en_len (e : En) : (Rc.en e).fr.length ≤ 40 + e.d.size := by
  rw [fr_length]
  have h1 := Pl.wd_le (u64 2)
  have h2 := Pl.wd_le (u64 e.t)
  have h3 := Pl.wd_le e.d.size
  have : (encs (Rc.en e).flds).length = (enc (num 2)).length + ((enc (num e.t)).length + (enc (txt e.d)).length) := by simp [Rc.flds, encs]
  rw [this, enc_num_length, enc_num_length, enc_text_length]; omega

abbrev eA : En := ⟨1, ⟨#[97]⟩⟩
abbrev rsW : List Rc := [Rc.st 1 (-1), Rc.st 1 2, Rc.en eA]
theorem oksW : Oks 3 Bl.new rsW := by
  refine ⟨⟨by decide, by decide, by decide, by decide⟩, ⟨by decide, Or.inl (by decide)⟩, ⟨by decide, by decide, by decide, by decide⟩, ⟨by decide, Or.inr ⟨rfl, Or.inl rfl⟩⟩, ⟨by decide, by decide, by decide⟩, ⟨by decide, by decide⟩, trivial⟩
theorem codeA : mcode 0 (nmb 1 [eA]) = 0 := mcode_zero (by simp; decide) (by simp) (by simp)
theorem wrt_ok {S : St} (hS : S.Ok) (p : Bs) : (wrt S p).2.Ok := by
  unfold wrt
  split
  · exact (hS.append nmB p).sync
  · exact hS.append nmB p
/-- what the example's calls come to -/
theorem works_st (S : St) (hS : S.Ok) (hR : Rm S 1000 10) (hD : DI 3 S []) : ∃ S1 S2 S3,
    trn S Bl.new 1 = (0, S1, ⟨1, -1, []⟩) ∧ cst 3 S1 ⟨1, -1, []⟩ 2 = (0, S2, ⟨1, 2, []⟩) ∧ mgd S2 ⟨1, 2, []⟩ 0 [eA] = (1, 0, S3, ⟨1, 2, [eA]⟩) ∧ DI 3 S3 rsW := by
  have l1 := st_len 1 (-1)
  have l2 := st_len 1 2
  have l3 := en_len eA
  have l4 : eA.d.size = 1 := rfl
  obtain ⟨o1, o2, o3, o4, o5, o6, _⟩ := oksW
  obtain ⟨a1, a2⟩ := wrt_room hS hR (by decide) (Rc.st 1 (-1)).fr (by omega)
  have k1 := wrt_ok hS (Rc.st 1 (-1)).fr
  have d1 : DI 3 (wrt S (Rc.st 1 (-1)).fr).2 [Rc.st 1 (-1)] := by
    have := wrt_out (more := [Rc.st 1 (-1)]) hS hD ⟨o1, o2, trivial⟩
    rw [frs_one, a1] at this
    rcases this with h | h | h
    · exact h.2.1
    · cases h.1
    · cases h.1
  obtain ⟨S1, e1⟩ : ∃ S1, (wrt S (Rc.st 1 (-1)).fr).2 = S1 := ⟨_, rfl⟩
  rw [e1] at a2 k1 d1
  obtain ⟨b1, b2⟩ := wrt_room k1 a2 (by decide) (Rc.st 1 2).fr (by omega)
  have k2 := wrt_ok k1 (Rc.st 1 2).fr
  have d2 : DI 3 (wrt S1 (Rc.st 1 2).fr).2 [Rc.st 1 (-1), Rc.st 1 2] := by
    have := wrt_out (more := [Rc.st 1 2]) k1 d1 ⟨o3, o4, trivial⟩
    rw [frs_one, b1] at this
    rcases this with h | h | h
    · exact h.2.1
    · cases h.1
    · cases h.1
  obtain ⟨S2, e2⟩ : ∃ S2, (wrt S1 (Rc.st 1 2).fr).2 = S2 := ⟨_, rfl⟩
  rw [e2] at b2 k2 d2
  obtain ⟨c1, _⟩ := wrt_room k2 b2 (by decide) (Rc.en eA).fr (by omega)
  have d3 : DI 3 (wrt S2 (Rc.en eA).fr).2 rsW := by
    have := wrt_out (more := [Rc.en eA]) k2 d2 ⟨o5, o6, trivial⟩
    rw [frs_one, c1] at this
    rcases this with h | h | h
    · exact h.2.1
    · cases h.1
    · cases h.1
  obtain ⟨S3, e3⟩ : ∃ S3, (wrt S2 (Rc.en eA).fr).2 = S3 := ⟨_, rfl⟩
  rw [e3] at d3
  refine ⟨S1, S2, S3, ?_, ?_, ?_, d3⟩
  · unfold trn
    rw [if_neg (by decide), if_neg (by decide), stn, a1, e1]; rfl
  · unfold cst
    rw [if_neg (by decide), if_neg (by decide), if_neg (by decide), if_neg (by decide), stn, b1, e2]; rfl
  · have hm : (⟨1, 2, []⟩ : Bl).lo.mrg 0 [eA] = (⟨0, 0, [eA]⟩, 0) := rfl
    have hc : cnf S2 (cnl 0 0 [eA]) = (0, S3) := by
      have : cnl 0 0 [eA] = [Rc.en eA] := rfl
      rw [this, cnf, if_neg (by simp), frs_one, ← e3, ← c1]
    unfold mgd
    have ht : (⟨1, 2, []⟩ : Bl).lo.tm 0 = 0 := rfl
    rw [ht, codeA, if_neg (by simp), hm]
    dsimp only
    rw [show ([] : List En).length - 0 = 0 from rfl, hc, if_pos rfl]
    rfl

theorem DH.new {w w1 : World} {bd : Nat} {S : St} (h : Dk.Held w1 (fun b => w.heap.size ≤ b) bd S) : DH w1 bd S (fun k => w.heap.size ≤ k ∧ k < w1.heap.size) :=
  ⟨h.own fun _ hb ho => ⟨ho, hb⟩, fun _ hk => hk.2⟩
/-- a disk, and all that it owns is new -/
structure Nw (w W : World) (D : Nat → Prop) : Prop where
  bel : Below w.heap.size w W
  new : ∀ k, D k → w.heap.size ≤ k
theorem Nw.tu {w W W' : World} {D D' : Nat → Prop} (h : Nw w W D) (ht : Tu D D' W W') : Nw w W' D' := by
  obtain ⟨h1, h2⟩ := ht.below h.bel.size h.new
  exact ⟨h.bel.trans h1, h2⟩
theorem Nw.below {w W W' : World} {D : Nat → Prop} (h : Nw w W D) (hb : Below W.heap.size W W') : Nw w W' D := ⟨h.bel.trans (hb.mono h.bel.size), h.new⟩
/-- Open of a file that has just these lists -/
theorem Open_di {bd : Nat} {S : St} {D : Nat → Prop} {rs : List Rc} (w : World) (h : DH w bd S D) (hD : DI 3 S rs) :
    Calls Tryz.prog 9 #[ptr bd, .int .i64 3] w fun r w' => ∃ bb, r = .returned (.tuple #[ptr bb, .int .i64 0]) ∧ ∃ X', BB w' bb bd 3 S (run Bl.new rs) X' ∧ Tu D X' w w' := by
  have := Open_any bd 3 S D rs [] w h (by decide) (by decide) (by rw [read_fl, hD.data, List.append_nil]) Torn.nil hD.oks (by rw [List.append_nil]; exact (hD.many h.held.ok).2) (fun e => absurd rfl e)
  rw [show ldd S rs [] = S from rfl] at this
  exact this

set_option maxRecDepth 100000 in
set_option maxHeartbeats 8000000 in
theorem works_any (w : World) : Calls Tryz.prog 10 #[] w fun r w' => r = .returned (.bool true) ∧ Below w.heap.size w w' := by
  have HN := hide (Dk.new_ok 1000 w (by decide))
  go_enter Tryz.func10, Tryz.ntmps10
  go_wp2_with fail
  refine HN.out.mono ?_
  clear HN
  rintro r w1 ⟨bd, rfl, hH1, hb1⟩
  have hD1 := DH.new hH1
  have N1 : Nw w w1 (fun k => w.heap.size ≤ k ∧ k < w1.heap.size) := ⟨hb1, fun _ h => h.1⟩
  have HO := hide (Open_di w1 hD1 (DI.new 3 1000))
  obtain ⟨S1, S2, S3, e1, e2, e3, hDI⟩ := works_st (Dk.St.new 1000) (Dk.St.new_ok (by decide)) ⟨⟨rfl, rfl⟩, by decide, by decide⟩ (DI.new 3 1000)
  rw [show run Bl.new [] = Bl.new from rfl] at HO
  clear hH1 hb1 hD1
  go_wp2_with fail
  refine HO.out.mono ?_
  clear HO
  rintro r w2 ⟨bb, rfl, X2, hB2, ht2⟩
  have N2 := N1.tu ht2
  have HTn := hide (Turn_any 1 w2 hB2)
  rw [e1] at HTn
  clear N1 ht2 hB2 e1
  go_wp2_with fail
  refine HTn.out.mono ?_
  clear HTn
  rintro r w3 ⟨rfl, X3, hB3, ht3⟩
  have N3 := N2.tu ht3
  have HC := hide (Cast_any 2 w3 hB3 ⟨by decide, by decide, by decide, by decide, by simp, by simp⟩ (by decide))
  rw [e2] at HC
  clear N2 ht3 hB3 e2
  go_wp2_with fail
  refine HC.out.mono ?_
  clear HC
  rintro r w4 ⟨rfl, X4, hB4, ht4⟩
  have N4 := N3.tu ht4
  have HA := hide (Append_any ⟨#[97]⟩ w4 hB4 ⟨by decide, by decide, by decide, by decide, by simp, by simp⟩ (by simp))
  dsimp only [List.length_nil] at HA
  rw [e3] at HA
  clear N3 ht4 hB4 e3
  go_wp2_with fail
  refine HA.out.mono ?_
  clear HA
  rintro r w5 ⟨rfl, X5, hB5, ht5⟩
  have N5 := N4.tu ht5
  have hok5 := hB5.ok
  have HCr := hide (hB5.call (fun own h1 h2 h3 => Dk.crash_any w5 h2 none 0 [] (Or.inl rfl) (Nat.le_refl _) (fun _ => rfl) (by decide) (by simp)))
  obtain ⟨j, tl, _, hr5, hl5, ho5, hc5, hDI6, hU6, htl⟩ := crash_open hok5 rsW [] (by rw [List.append_nil]; exact oksW) (by rw [List.append_nil]; exact hDI.data) hDI.safe [] (by simp)
  have htl' := htl rfl
  subst htl'
  simp only [List.take_nil, List.append_nil] at hDI6
  rw [show ldd (S3.crash []).2 rsW [] = (S3.crash []).2 from rfl] at hDI6
  generalize (S3.crash []).2 = S6 at *
  generalize (S3.crash []).1 = c6 at *
  clear N4 ht5 hB5 hr5 hl5 ho5 hc5 htl hok5 hU6
  go_wp2_with fail
  refine HCr.out.mono ?_
  clear HCr
  rintro r w6 ⟨rfl, X6, hB6, ht6⟩
  have N6 := N5.tu ht6
  obtain ⟨D6, hD6, hDX⟩ := hB6.disk
  have HO := hide (Open_di w6 hD6 hDI6)
  have N6' : Nw w w6 D6 := ⟨N6.bel, fun k hk => N6.new k (hDX k hk)⟩
  rw [show run Bl.new rsW = ⟨1, 2, [eA]⟩ from rfl] at HO
  clear N5 N6 ht6 hB6 hD6 hDX hDI6 hDI
  go_wp2_with fail
  refine HO.out.mono ?_
  clear HO
  rintro r w7 ⟨bc, rfl, X7, hB7, ht7⟩
  have N7 := N6'.tu ht7
  have hes : Es [eA] := ⟨by simp; decide, by simp, by simp⟩
  have hsOk : (⟨1, 2, [eA]⟩ : Bl).Ok 3 := ⟨by decide, by decide, by decide, by decide, by simp; decide, by simp⟩
  have HTe := hide (Term_any w7 hB7)
  have HVo := hide (Vote_any w7 hB7)
  have HLo := hide (Log_any w7 hB7 hes)
  clear N6' ht7
  go_wp2_with (first | (go_at_call 21; refine HTe.out.mono ?_; rintro r w8 ⟨rfl, rfl⟩) | (go_at_call 22; refine HVo.out.mono ?_; rintro r w8 ⟨rfl, rfl⟩))
  refine HLo.out.mono ?_
  clear HLo HTe HVo
  rintro r w9 ⟨bl9, rfl, hM9⟩
  have hB9 := hB7.below hM9.bel
  have N9 := N7.below hM9.bel
  have HLo := hide (Log_any w9 hB9 hes)
  clear hM9 hB7 N7
  go_wp2_with fail
  refine HLo.out.mono ?_
  clear HLo
  rintro r w10 ⟨bl10, rfl, hM10⟩
  have hB10 := hB9.below hM10.bel
  have N10 := N9.below hM10.bel
  obtain ⟨v10, hL10⟩ := hM10.log
  have HLa := hide (Rl.Last_any bl10 ⟨0, 0, [eA]⟩ v10 w10 hL10 (by simp))
  rw [show (⟨0, 0, [eA]⟩ : Lo).last = 1 from rfl, show (⟨0, 0, [eA]⟩ : Lo).tm 1 = 1 from rfl] at HLa
  clear hM10 hL10 hB9 N9
  go_wp2_with fail
  refine HLa.out.mono ?_
  clear HLa
  rintro r w11 ⟨rfl, q, rfl⟩
  have hbq := below_drewN (Below.refl w10.heap.size w10) q
  have hB11 := hB10.below hbq
  have N11 := N10.below hbq
  generalize w10.drewN q = w11 at *
  have HC := hide (Cast_any 0 w11 hB11 hsOk (by decide))
  rw [show cst 3 S6 ⟨1, 2, [eA]⟩ 0 = (6, S6, ⟨1, 2, [eA]⟩) by unfold cst; rw [if_neg (by decide), if_neg (by decide), if_neg (by decide), if_pos (by decide)]] at HC
  clear hB10 N10 hbq
  go_wp2_with fail
  refine HC.out.mono ?_
  clear HC
  rintro r w12 ⟨rfl, X12, hB12, ht12⟩
  have N12 := N11.tu ht12
  have HTn := hide (Turn_any 1 w12 hB12)
  rw [show trn S6 ⟨1, 2, [eA]⟩ 1 = (150, S6, ⟨1, 2, [eA]⟩) by unfold trn; rw [if_neg (by decide), if_pos (by decide)]] at HTn
  clear hB11 N11 ht12
  go_wp2_with fail
  refine HTn.out.mono ?_
  clear HTn
  rintro r w13 ⟨rfl, X13, hB13, ht13⟩
  have N13 := N12.tu ht13
  go_wp2
  go_ret
  exact ⟨rfl, N13.bel⟩
end Go.Proofs.YtnmgiiiafefgdaaGreat.Ba
