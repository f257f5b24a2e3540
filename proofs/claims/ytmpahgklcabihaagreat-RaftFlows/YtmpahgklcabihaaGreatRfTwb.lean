/- Layer 16: Open, of a disk that has nothing. Layer 16: there is room on the disk; a node of a fresh disk. Layer 16, plain: a node as a machine without a disk, where there is room. Layer 16, plain: the machine's other calls. Layer 16: the program's node does what the machine does. Layer 16: three nodes. Layer 16: letters are delivered: the machines, and where their nodes lie. Layer 16, the laws: deliver. Layer 16, the laws: deliver, its loops. Layer 16: Taken. Layer 16, the laws: the chapter's example. Layer 16, the laws: the chapter's example works. -/
import Derived.Test.YtmpahgklcabihaaGreatRfOne
import Derived.Test.YtmpahgklcabihaaGreatDNew
import Derived.Test.YtmpahgklcabihaaGreatGArgs
namespace Go.Proofs.YtmpahgklcabihaaGreat.Rf
open Go.RowKit Go.Joins Go.Proofs.YtmpahgklcabihaaGreat.Gk
open Go.Proofs.YtmpahgklcabihaaGreat.Dk (St Bs)
open Go.Proofs.YtmpahgklcabihaaGreat.Rl (En Lo LH ER ptr blk own Tn eenc eenc_len agr nmb mcode May1)
open Go.Proofs.YtmpahgklcabihaaGreat.Ba (Bl BB Tu Es trn cst mgd DH DI Mk)

abbrev ps0 (n : Nat) : List Pr := List.replicate n ⟨false, 0, 0⟩
theorem made_peers (n : Nat) : madeCells #[.bool false, .int .i64 0, .int .i64 0] (n * 3) = (rc penc (ps0 n)).toArray := by
  have key : ∀ k, (madeCells #[.bool false, .int .i64 0, .int .i64 0] (n * 3))[k]? = (rc penc (ps0 n))[k]? := fun k => by
    by_cases hk : k < n * 3
    · have h3 : k / 3 < (ps0 n).length := by rw [List.length_replicate]; omega
      have e := rc_at penc_len (ps0 n) (k / 3) h3 (k % 3) (Nat.mod_lt _ (by decide))
      rw [show k / 3 * 3 + k % 3 = k by omega, List.getElem_replicate] at e
      rw [e]
      have : k % 3 = 0 ∨ k % 3 = 1 ∨ k % 3 = 2 := by omega
      unfold madeCells
      rw [Array.getElem?_map, Array.getElem?_eq_getElem (by rw [Array.size_range]; exact hk), Array.getElem_range, Option.map_some]
      rcases this with h | h | h <;> simp [h, penc]
    · rw [Array.getElem?_eq_none (by rw [size_madeCells]; omega), List.getElem?_eq_none (by rw [rc_length penc_len, List.length_replicate]; omega)]
  apply Array.ext'
  apply List.ext_getElem?
  intro k
  rw [Array.getElem?_toList, key k, List.toList_toArray]
theorem peer_info : (Tryz.prog.info? PeerT).map (fun i => (i.zero, i.size, i.bytes)) = some (some (.agg #[.bool false, .int .i64 0, .int .i64 0]), 3, 24) := by kernel_rfl
theorem make_peers (n : Nat) (hn : n ≤ 16) (W : World) : (Instr.makeSlice 81 (.int .i64 (n : Int)) (.int .i64 (n : Int))).run Tryz.prog W = .ok (.slice (some ⟨W.heap.size, 0, none⟩) n n) (W.alloc (.cells (rc penc (ps0 n)).toArray PeerT)) := by
  obtain ⟨i0, hi, hz0, hz1, hz2⟩ := info_parts peer_info
  have h := run_make (P := Tryz.prog) W 81 PeerT i0 (.agg #[.bool false, .int .i64 0, .int .i64 0]) Tryz.underlying81 hi hz0 .i64 .i64 (n : Int) (n : Int) (by omega) (by omega) (by rw [hz2]; omega) (by omega)
  rw [hz1] at h
  simp only [Int.toNat_natCast] at h
  rw [show (Value.agg #[.bool false, .int .i64 0, .int .i64 0]).cells = #[.bool false, .int .i64 0, .int .i64 0] from rfl, made_peers] at h
  exact h
theorem node_made {w Wf : World} {nb bd bb bl pb : Nat} {v : Value} {N : Nd} {Y : Nat → Prop} (hB : BB w bb bd N.ps.length N.S N.s Y) (hb : Below w.heap.size w Wf) (hbox : Wf.heap[nb]? = some (.cells (ncells N bb bl pb (.slice none 0 0)) NodeT (0, 0))) (hL : LH Wf bl ⟨0, 0, N.s.es⟩ v)
    (hp : Wf.heap[pb]? = some (.cells (rc penc N.ps).toArray PeerT (0, 0))) (hl : N.ls = []) (h1 : w.heap.size ≤ nb) (h2 : w.heap.size ≤ pb) (h3 : ∀ k, own Wf bl k → w.heap.size ≤ k) :
    ∃ X', ND Wf nb bd N X' ∧ Tu Y X' w Wf := by
  have hy : ∀ k, w.heap.size ≤ k → ¬ Y k := fun k hk hy => by have := hB.lt hy; omega
  refine ⟨no Wf nb bl pb (.slice none 0 0) Y, NH.pack ⟨hbox, hB.below hb, hL, hp, by rw [hl]; exact Row.nil _ _, hy _ h1, hy _ h2, fun k hk => hy _ (h3 k hk), fun g hg => by simp [Value.ownBlock] at hg⟩, ⟨Only.of_below hb, fun k hk => ?_⟩⟩
  rcases hk with h | h | h | h | h
  · exact Or.inl h
  · rw [h]; exact Or.inr h1
  · rw [h]; exact Or.inr h2
  · exact Or.inr (h3 k h)
  · simp [Value.ownBlock] at h

set_option maxRecDepth 100000 in
set_option maxHeartbeats 4000000 in
theorem Open_new (id n : Nat) (pat : Int) (hid : id < n) (hn : n ≤ 16) (hp1 : 1 ≤ pat) (hp2 : pat ≤ 1000) (bd : Nat) (S : St) (D : Nat → Prop) (w : World) (h : DH w bd S D) (hD : DI n S []) :
    Calls Tryz.prog 9 #[.int .i64 id, .int .i64 n, .int .i64 pat, ptr bd] w fun e w' => ∃ nb, e = .returned (.tuple #[ptr nb, .int .i64 0]) ∧ ∃ X', ND w' nb bd (Nd.new id n pat S Bl.new) X' ∧ Tu D X' w w' := by
  have HO := hide (Ba.Open_any bd (n : Int) S D [] [] w h (by omega) (by omega) (by rw [Ba.read_fl, hD.data, List.append_nil]) Ba.Torn.nil hD.oks (by rw [List.append_nil]; exact (hD.many h.held.ok).2) (fun e => absurd rfl e))
  rw [show Ba.ldd S [] [] = S from rfl, show Ba.run Bl.new [] = Bl.new from rfl] at HO
  have hmk := make_peers n hn
  have g1 : ¬ (id : Int) < 0 := by omega
  have g2 : ¬ (n : Int) ≤ (id : Int) := by omega
  have g3 : ¬ pat < 1 := by omega
  have g4 : ¬ 1000 < pat := by omega
  clear h hD
  go_enter Tryz.func9, Tryz.ntmps9
  go_wp2_with fail
  refine HO.out.mono ?_
  clear HO
  rintro e w1 ⟨bb, rfl, Y, hB, ht⟩
  have hes : Es Bl.new.es := ⟨by simp [Ba.Bl.new], by simp [Ba.Bl.new], by simp [Ba.Bl.new]⟩
  have HLg := hide (fun W (hb : Below w1.heap.size w1 W) => show Calls Tryz.prog 25 #[ptr bb] W fun e w' => ∃ bl, e = .returned (ptr bl) ∧ (∃ v, LH w' bl ⟨0, 0, []⟩ v) ∧ (∀ k, own w' bl k → w1.heap.size ≤ k) ∧ Below w1.heap.size w1 w' ∧ Below W.heap.size W w' by
    refine (Ba.Log_any W (hB.below hb) hes).mono ?_
    rintro e w' ⟨bl, rfl, hM⟩
    exact ⟨bl, rfl, hM.log, fun k hk => Nat.le_trans hb.size (hM.new k hk), hb.trans (hM.bel.mono hb.size), hM.bel⟩)
  have HBT := hide (And.intro hB ht)
  clear hB ht hes
  go_upto_region 8 with fail
  go_region_law (first | (go_simp; go_at_call 25; refine (HLg.out _ (by first | exact Below.refl _ _ | exact (Below.refl _ _).drew | exact (Below.refl _ _).alloc (Nat.le_refl _) _ | exact ((Below.refl _ _).alloc (Nat.le_refl _) _).drew | exact (Below.refl _ _).drew.alloc (Nat.le_refl _) _ | exact ((Below.refl _ _).drew.alloc (Nat.le_refl _) _).drew)).mono ?_; rintro e w2 ⟨bl, rfl, ⟨v, hL⟩, hnw, hb2, hbW⟩))
  all_goals
    have hpl : (Nd.new id n pat S Bl.new).ps.length = n := List.length_replicate
    have hcell : ∀ pb, ncells (Nd.new id n pat S Bl.new) bb bl pb (.slice none 0 0) = #[.int .i64 id, .int .i64 pat, ptr bb, ptr bl, .int .i64 0, .int .i64 (-1), .int .i64 0, .int .i64 0, .int .i64 0, .slice (some ⟨pb, 0, none⟩) n n, .slice none 0 0] := fun pb => by
      unfold ncells; rw [hpl]; rfl
    have HK := hide (And.intro hpl hcell)
    have HL := hide (And.intro hL hnw)
    have HB2 := hide (And.intro hb2 hbW)
    clear hpl hcell hL hnw hb2 hbW
    first
      | (have HN : Hid (∃ X', ND ((w2.alloc (.cells (rc penc (ps0 n)).toArray PeerT)).alloc (.cells #[.int .i64 id, .int .i64 pat, ptr bb, ptr bl, .int .i64 0, .int .i64 (-1), .int .i64 0, .int .i64 0, .int .i64 0, .slice (some ⟨w2.heap.size, 0, none⟩) n n, .slice none 0 0] NodeT)) (w2.heap.size + 1) bd (Nd.new id n pat S Bl.new) X' ∧ Tu Y X' w1 ((w2.alloc (.cells (rc penc (ps0 n)).toArray PeerT)).alloc (.cells #[.int .i64 id, .int .i64 pat, ptr bb, ptr bl, .int .i64 0, .int .i64 (-1), .int .i64 0, .int .i64 0, .int .i64 0, .slice (some ⟨w2.heap.size, 0, none⟩) n n, .slice none 0 0] NodeT))) := hide (by
           have hbel : Below w2.heap.size w2 ((w2.alloc (.cells (rc penc (ps0 n)).toArray PeerT)).alloc (.cells #[.int .i64 id, .int .i64 pat, ptr bb, ptr bl, .int .i64 0, .int .i64 (-1), .int .i64 0, .int .i64 0, .int .i64 0, .slice (some ⟨w2.heap.size, 0, none⟩) n n, .slice none 0 0] NodeT)) := ((Below.refl _ _).alloc (Nat.le_refl _) _).alloc (by simp) _
           have hz := HB2.out.1.size
           refine node_made (N := Nd.new id n pat S Bl.new) (pb := w2.heap.size) (by rw [HK.out.1]; exact HBT.out.1) (HB2.out.1.trans (hbel.mono hz)) ?_ (HL.out.1.below hbel) ?_ rfl (by omega) hz ?_
           · rw [HK.out.2]
             have e := heap_alloc_new (w2.alloc (.cells (rc penc (ps0 n)).toArray PeerT)) (.cells #[.int .i64 id, .int .i64 pat, ptr bb, ptr bl, .int .i64 0, .int .i64 (-1), .int .i64 0, .int .i64 0, .int .i64 0, .slice (some ⟨w2.heap.size, 0, none⟩) n n, .slice none 0 0] NodeT)
             rw [show (w2.alloc (.cells (rc penc (ps0 n)).toArray PeerT)).heap.size = w2.heap.size + 1 by simp] at e
             exact e
           · rw [heap_alloc_old _ _ (by simp)]; exact heap_alloc_new w2 _
           · intro k hk
             rw [Rl.own_same (hbel.block bl HL.out.1.lt)] at hk
             exact HL.out.2 k hk)
         go_wp2
         go_ret2
         obtain ⟨X', h1, h2⟩ := HN.out
         exact ⟨_, rfl, X', h1, HBT.out.2.trans h2⟩)
      | (have HN : Hid (∃ X', ND (w2.alloc (.cells #[.int .i64 id, .int .i64 pat, ptr bb, ptr bl, .int .i64 0, .int .i64 (-1), .int .i64 0, .int .i64 0, .int .i64 0, .slice (some ⟨w1.heap.size, 0, none⟩) n n, .slice none 0 0] NodeT)) w2.heap.size bd (Nd.new id n pat S Bl.new) X' ∧ Tu Y X' w1 (w2.alloc (.cells #[.int .i64 id, .int .i64 pat, ptr bb, ptr bl, .int .i64 0, .int .i64 (-1), .int .i64 0, .int .i64 0, .int .i64 0, .slice (some ⟨w1.heap.size, 0, none⟩) n n, .slice none 0 0] NodeT))) := hide (by
           have hbel : Below w2.heap.size w2 (w2.alloc (.cells #[.int .i64 id, .int .i64 pat, ptr bb, ptr bl, .int .i64 0, .int .i64 (-1), .int .i64 0, .int .i64 0, .int .i64 0, .slice (some ⟨w1.heap.size, 0, none⟩) n n, .slice none 0 0] NodeT)) := (Below.refl _ _).alloc (Nat.le_refl _) _
           have hz := HB2.out.1.size
           have hpb : w2.heap[w1.heap.size]? = some (.cells (rc penc (ps0 n)).toArray PeerT (0, 0)) := by
             rw [HB2.out.2.block w1.heap.size (by simp)]
             exact heap_alloc_new _ _
           have hpz : w1.heap.size < w2.heap.size := (Array.getElem?_eq_some_iff.1 hpb).1
           refine node_made (N := Nd.new id n pat S Bl.new) (pb := w1.heap.size) (by rw [HK.out.1]; exact HBT.out.1) (HB2.out.1.trans (hbel.mono hz)) (by rw [HK.out.2]; exact heap_alloc_new w2 _) (HL.out.1.below hbel) (by rw [heap_alloc_old _ _ hpz]; exact hpb) rfl hz (Nat.le_refl _) ?_
           intro k hk
           rw [Rl.own_same (hbel.block bl HL.out.1.lt)] at hk
           exact HL.out.2 k hk)
         go_wp2
         go_ret2
         obtain ⟨X', h1, h2⟩ := HN.out
         exact ⟨_, rfl, X', h1, HBT.out.2.trans h2⟩)
end Go.Proofs.YtmpahgklcabihaaGreat.Rf

namespace Go.Proofs.YtmpahgklcabihaaGreat.Rf
open Go.RowKit Go.Joins Go.Proofs.YtmpahgklcabihaaGreat.Gk
open Go.Proofs.YtmpahgklcabihaaGreat.Dk (St Bs fileOr putL getL used syncL named Rising)
open Go.Proofs.YtmpahgklcabihaaGreat.Rl (En Lo LH ER ptr blk own Tn eenc eenc_len agr nmb mcode May1)
open Go.Proofs.YtmpahgklcabihaaGreat.Ba (Bl BB Tu Es trn cst mgd DH DI Mk Up wrt Rc frs cnf cnl nmB nmB_named fr_length)

/-- there is room -/
structure Rm (S : St) (r k : Nat) : Prop where
  ok : S.Ok
  up : Up S
  room : used S.files + r ≤ S.room
  many : k ≤ 60 ∧ (S.files = [] ∨ ∃ f, S.files = [(nmB, f)])
theorem Rm.one {S : St} {r k : Nat} (h : Rm S r k) : S.files.length ≤ 1 := by
  rcases h.many.2 with e | ⟨f, e⟩ <;> rw [e] <;> simp
theorem Rm.less {S : St} {r k r' k' : Nat} (h : Rm S r k) (h1 : r' ≤ r) (h2 : k' ≤ k) : Rm S r' k' := ⟨h.ok, h.up, by have := h.room; omega, Nat.le_trans h2 h.many.1, h.many.2⟩
theorem Rm.fresh {S : St} {r k : Nat} (h : Rm S r k) {k' : Nat} (h2 : k' ≤ 60) : Rm S r k' := ⟨h.ok, h.up, h.room, h2, h.many.2⟩
theorem do_up {S : St} (hu : Up S) (g : Dk.Fls → Dk.Fls) : S.do g = (0, { S with files := g S.files }) := by
  obtain ⟨h1, h2⟩ := hu
  unfold St.do St.take Dk.taken
  rw [h1, h2]
  cases S
  simp only at h1 h2
  subst h1 h2
  simp
theorem wrt_ok {S : St} (hS : S.Ok) (p : Bs) : (wrt S p).2.Ok := by
  unfold wrt
  split
  · exact (hS.append nmB p).sync
  · exact hS.append nmB p
theorem wrt_room {S : St} {r k : Nat} (h : Rm S r k) (hk : 1 ≤ k) (p : Bs) (hp : p.length ≤ r) : (wrt S p).1 = 0 ∧ Rm (wrt S p).2 (r - p.length) (k - 1) := by
  have hS := h.ok
  have ea : S.append nmB p = S.do (putL nmB ⟨(fileOr nmB S.files).data ++ p, (fileOr nmB S.files).safe⟩) := by
    unfold St.append
    rw [if_neg (by simp [nmB_named]), if_neg]
    have := h.room
    have := h.one
    rintro (h1 | ⟨_, h1⟩) <;> omega
  have hok := wrt_ok hS p
  unfold wrt at hok ⊢
  rw [ea, do_up h.up, if_pos rfl] at hok ⊢
  have hu2 : Up { S with files := putL nmB ⟨(fileOr nmB S.files).data ++ p, (fileOr nmB S.files).safe⟩ S.files } := h.up
  unfold St.sync at hok ⊢
  rw [do_up hu2] at hok ⊢
  refine ⟨rfl, ⟨hok, h.up, ?_, ?_⟩⟩
  · show used (syncL (putL nmB _ S.files)) + _ ≤ S.room
    rw [Dk.used_syncL]
    have h1 := Dk.used_put hS.rising nmB ⟨(fileOr nmB S.files).data ++ p, (fileOr nmB S.files).safe⟩
    dsimp only at h1
    rw [List.length_append] at h1
    have := h.room
    omega
  · refine ⟨by have := h.many.1; omega, Or.inr ?_⟩
    rcases h.many.2 with e | ⟨f, e⟩ <;> (show ∃ f', syncL (putL nmB _ S.files) = [(nmB, f')]; rw [e]; exact ⟨_, rfl⟩)
theorem st_len (t v : Int) : (Rc.st t v).fr.length ≤ 40 := by
  rw [fr_length]
  have h1 := Pl.wd_le (u64 1)
  have h2 := Pl.wd_le (u64 t)
  have h3 := Pl.wd_le (u64 v)
  have : (encs (Rc.st t v).flds).length = (enc (Ba.num 1)).length + ((enc (Ba.num t)).length + (enc (Ba.num v)).length) := by simp [Rc.flds, encs]
  rw [this, enc_num_length, enc_num_length, enc_num_length]; omega
theorem en_len (e : En) : (Rc.en e).fr.length ≤ 40 + e.d.size := by
  rw [fr_length]
  have h1 := Pl.wd_le (u64 2)
  have h2 := Pl.wd_le (u64 e.t)
  have h3 := Pl.wd_le e.d.size
  have : (encs (Rc.en e).flds).length = (enc (Ba.num 2)).length + ((enc (Ba.num e.t)).length + (enc (Ba.txt e.d)).length) := by simp [Rc.flds, encs]
  rw [this, enc_num_length, enc_num_length, enc_text_length]; omega
/-- a term is turned to, where there is room -/
theorem trn_rm {S : St} {s : Bl} {t : Int} {r k : Nat} (h : Rm S r k) (hk : 1 ≤ k) (hr : 40 ≤ r) (h1 : s.t < t) (h2 : 1 ≤ t) (h3 : t ≤ 1073741824) : ∃ S', trn S s t = (0, S', ⟨t, -1, s.es⟩) ∧ Rm S' (r - 40) (k - 1) := by
  have hl := st_len t (-1)
  obtain ⟨a1, a2⟩ := wrt_room h hk (Rc.st t (-1)).fr (by omega)
  refine ⟨_, ?_, a2.less (by omega) (Nat.le_refl _)⟩
  unfold trn
  rw [if_neg (by omega), if_neg (by omega), Ba.stn, a1]
  rfl
/-- a vote is cast -/
theorem cst_rm {n : Int} {S : St} {s : Bl} {x : Int} {r k : Nat} (h : Rm S r k) (hk : 1 ≤ k) (hr : 40 ≤ r) (h0 : 0 ≤ x) (h1 : x < n) (h2 : s.t ≠ 0) (h3 : s.v = -1) : ∃ S', cst n S s x = (0, S', ⟨s.t, x, s.es⟩) ∧ Rm S' (r - 40) (k - 1) := by
  have hl := st_len s.t x
  obtain ⟨a1, a2⟩ := wrt_room h hk (Rc.st s.t x).fr (by omega)
  refine ⟨_, ?_, a2.less (by omega) (Nat.le_refl _)⟩
  unfold cst
  rw [if_neg (by omega), if_neg h2, if_neg (by omega), if_neg (by simp [h3]), Ba.stn, a1]
  rfl
theorem DH.new {w w1 : World} {bd : Nat} {S : St} (h : Dk.Held w1 (fun b => w.heap.size ≤ b) bd S) : DH w1 bd S (fun k => w.heap.size ≤ k ∧ k < w1.heap.size) :=
  ⟨h.own fun _ hb ho => ⟨ho, hb⟩, fun _ hk => hk.2⟩
theorem Rm.new (room : Nat) (h : room ≤ 262144) : Rm (St.new room) room 60 := ⟨Dk.St.new_ok h, ⟨rfl, rfl⟩, by show used [] + room ≤ room; simp [used, Dk.sumL], by decide, Or.inl rfl⟩

set_option maxRecDepth 100000 in
set_option maxHeartbeats 2000000 in
theorem start_any (id n : Nat) (pat : Int) (hid : id < n) (hn : n ≤ 16) (hp1 : 1 ≤ pat) (hp2 : pat ≤ 1000) (w : World) :
    Calls Tryz.prog 15 #[.int .i64 id, .int .i64 n, .int .i64 pat] w fun e w' => ∃ nb bd X, e = .returned (ptr nb) ∧ ND w' nb bd (Nd.new id n pat (St.new 262144) Bl.new) X ∧ (∀ k, X k → w.heap.size ≤ k) ∧ Below w.heap.size w w' := by
  have HN := hide (Dk.new_ok 262144 w (by decide))
  go_enter Tryz.func15, Tryz.ntmps15
  go_wp2_with fail
  refine HN.out.mono ?_
  clear HN
  rintro r w1 ⟨bd, rfl, hH1, hb1⟩
  have HO := hide (Open_new id n pat hid hn hp1 hp2 bd (St.new 262144) _ w1 (DH.new hH1) (DI.new n 262144))
  have HB := hide hb1
  clear hH1 hb1
  go_wp2_with fail
  refine HO.out.mono ?_
  rintro r w2 ⟨nb, rfl, X, hN, ht⟩
  have hX := ht.below (B := w.heap.size) HB.out.size (fun k hk => hk.1)
  go_wp2
  go_ret
  exact ⟨nb, bd, X, rfl, hN, hX.2, HB.out.trans hX.1⟩
end Go.Proofs.YtmpahgklcabihaaGreat.Rf

namespace Go.Proofs.YtmpahgklcabihaaGreat.Rf
open Go.RowKit Go.Joins Go.Proofs.YtmpahgklcabihaaGreat.Gk
open Go.Proofs.YtmpahgklcabihaaGreat.Dk (St Bs)
open Go.Proofs.YtmpahgklcabihaaGreat.Rl (En Lo LH ER ptr blk own Tn eenc eenc_len agr nmb mcode May1)
open Go.Proofs.YtmpahgklcabihaaGreat.Ba (Bl BB Tu Es trn cst mgd DH DI Mk Rc frs cnf cnl)

def szs (fs : List En) : Nat := (fs.map fun e => 40 + e.d.size).sum
theorem frs_szs : ∀ fs : List En, (frs (fs.map Rc.en)).length ≤ szs fs
  | [] => by simp [frs, szs]
  | e :: fs => by
    have h1 := frs_szs fs
    have h2 := en_len e
    rw [List.map_cons, Ba.frs_cons, List.length_append]
    simp only [szs, List.map_cons, List.sum_cons] at *
    omega
theorem mrg_end (es fs : List En) : (⟨0, 0, es⟩ : Lo).mrg es.length fs = (⟨0, 0, es ++ fs⟩, 0) := by
  have hm : Rl.mt (es.drop es.length) fs = 0 := by rw [List.drop_length]; rfl
  rw [Lo.mrg, hm, Rl.mI]
  cases fs with
  | nil => simp
  | cons e r => simp
/-- entries are merged behind the last, where there is room -/
theorem mgd_rm {n : Int} {S : St} {s : Bl} {fs : List En} {r k : Nat} (h : Rm S r k) (hk : 1 ≤ k) (hr : szs fs ≤ r) (hs : s.Ok n) (hm : s.es.length ≤ 900000) (hf : fs.length ≤ 60) (h1 : ∀ e ∈ fs, 1 ≤ e.t ∧ e.t ≤ s.t ∧ e.d.size ≤ 4096) (h2 : (Ba.lt s.es :: fs.map En.t).Pairwise (· ≤ ·)) :
    ∃ S', mgd S s s.es.length fs = (((s.es.length + fs.length : Nat) : Int), 0, S', ⟨s.t, s.v, s.es ++ fs⟩) ∧ Rm S' (r - szs fs) (k - 1) := by
  have ht1 := hs.t1
  have htm : s.lo.tm s.es.length = Ba.lt s.es := by
    have := Ba.lt_tm s.es
    rwa [show (⟨0, 0, s.es⟩ : Lo).last = s.es.length by show 0 + s.es.length = _; omega] at this
  have hc : mcode (s.lo.tm s.es.length) (nmb (s.es.length + 1) fs) = 0 := by
    rw [htm]
    exact Ba.mcode_zero (fun e he => by have := h1 e he; omega) h2 (by omega)
  have hmr : s.lo.mrg s.es.length fs = (⟨0, 0, s.es ++ fs⟩, 0) := mrg_end s.es fs
  have hcl : cnl (s.es.length - 0) 0 (s.es ++ fs) = fs.map Rc.en := by
    unfold cnl; simp
  unfold mgd
  rw [hc, if_neg (by simp), hmr]
  dsimp only
  rw [hcl]
  by_cases he : fs = []
  · subst he
    refine ⟨S, ?_, h.less (by omega) (by omega)⟩
    simp [cnf]
  · have hne : ¬ fs.map Rc.en = [] := by simpa using he
    obtain ⟨a1, a2⟩ := wrt_room h hk (frs (fs.map Rc.en)) (Nat.le_trans (frs_szs fs) hr)
    refine ⟨_, ?_, a2.less (by have := frs_szs fs; omega) (Nat.le_refl _)⟩
    unfold cnf
    rw [if_neg hne, a1, if_pos rfl]

structure Pn where
  id : Nat
  pat : Nat
  s : Bl
  role : Int
  ldr : Int
  wt : Int
  cm : Int
  tk : Nat
  ps : List Pr
  ls : List (Nat × Lt)
def Pn.nd (P : Pn) (S : St) : Nd := ⟨P.id, P.pat, S, P.s, P.role, P.ldr, P.wt, P.cm, P.tk, P.ps, P.ls.map fun x => ((x.1 : Int), x.2.text)⟩
def Pn.new (id nodes pat : Nat) : Pn := ⟨id, pat, Bl.new, 0, -1, 0, 0, 0, List.replicate nodes ⟨false, 0, 0⟩, []⟩
theorem nd_new (id nodes pat : Nat) (S : St) : Nd.new id nodes pat S Bl.new = (Pn.new id nodes pat).nd S := rfl
def Pn.others (P : Pn) : List Nat := (List.range P.ps.length).filter fun j => j ≠ P.id
def Pn.pr (P : Pn) (j : Nat) : Pr := P.ps.getD j ⟨false, 0, 0⟩
def Pn.sent (P : Pn) (j : Nat) (l : Lt) : Pn := { P with ls := P.ls ++ [(j, l)] }
def Pn.entsTo (P : Pn) (j : Nat) : Lt := .ents P.s.t ((P.pr j).nx - 1 : Nat) (P.s.lo.tm ((P.pr j).nx - 1)) P.cm ((P.s.es.drop ((P.pr j).nx - 1)).take 8)
def Pn.sendE (P : Pn) (j : Nat) : Pn := P.sent j (P.entsTo j)
def Pn.sendAll (P : Pn) : Pn := P.others.foldl Pn.sendE P
def ins (x : Int) : List Int → List Int
  | [] => [x]
  | y :: l => if x ≤ y then x :: y :: l else y :: ins x l
def isrt : List Int → List Int
  | [] => []
  | x :: l => ins x (isrt l)
theorem ins_perm (x : Int) : ∀ l : List Int, (ins x l).Perm (x :: l)
  | [] => List.Perm.refl _
  | y :: l => by
    unfold ins; split
    · exact List.Perm.refl _
    · exact ((ins_perm x l).cons y).trans (List.Perm.swap x y l)
theorem isrt_perm : ∀ l : List Int, (isrt l).Perm l
  | [] => List.Perm.refl _
  | x :: l => (ins_perm x _).trans ((isrt_perm l).cons x)
theorem ins_rise (x : Int) : ∀ l : List Int, l.Pairwise (· ≤ ·) → (ins x l).Pairwise (· ≤ ·)
  | [], _ => by simp [ins]
  | y :: l, h => by
    obtain ⟨h1, h2⟩ := List.pairwise_cons.1 h
    unfold ins; split
    · rename_i hxy
      refine List.pairwise_cons.2 ⟨fun z hz => ?_, h⟩
      rcases List.mem_cons.1 hz with rfl | hz
      · exact hxy
      · exact Int.le_trans hxy (h1 z hz)
    · rename_i hxy
      refine List.pairwise_cons.2 ⟨fun z hz => ?_, ins_rise x l h2⟩
      rcases List.mem_cons.1 ((ins_perm x l).mem_iff.1 hz) with rfl | hz
      · omega
      · exact h1 z hz
theorem isrt_rise : ∀ l : List Int, (isrt l).Pairwise (· ≤ ·)
  | [] => List.Pairwise.nil
  | x :: l => ins_rise x _ (isrt_rise l)
theorem sort_isrt (l : List Int) : l.mergeSort (fun x y => decide (x ≤ y)) = isrt l := by
  refine List.Perm.eq_of_pairwise (le := fun (a b : Int) => a ≤ b) (fun a b _ _ h1 h2 => by omega) ?_ (isrt_rise l) ((List.mergeSort_perm _ _).trans (isrt_perm l).symm)
  have := List.pairwise_mergeSort (le := fun x y : Int => decide (x ≤ y)) (fun a b c h1 h2 => by simp at *; omega) (fun a b => by simp; omega) l
  exact this.imp fun h => by simpa using h
def agrP (S : Lo) (ms : List Int) (t commit : Int) : Int :=
  match Rl.fo t (Rl.dwL S (min (((isrt ms)[(ms.length - 1) / 2]?).getD 0) (S.last : Int)) (max commit (S.b : Int))) with
  | some n => (n : Int)
  | none => commit
theorem agr_agrP (S : Lo) (ms : List Int) (t commit : Int) : agr S ms t commit = agrP S ms t commit := by
  unfold Rl.agr agrP Rl.med; rw [sort_isrt]
  generalize Rl.fo t _ = x
  cases x <;> rfl
def Pn.commit (P : Pn) : Pn := { P with cm := agrP P.s.lo ((P.s.es.length : Int) :: P.others.map fun j => ((P.pr j).mt : Int)) P.s.t P.cm }
theorem nd_sent (P : Pn) (S : St) (j : Nat) (l : Lt) : (P.nd S).sent j l = (P.sent j l).nd S := by simp [Pn.nd, Nd.sent, Pn.sent]
theorem nd_sendE (P : Pn) (S : St) (j : Nat) : (P.nd S).sendE j = (P.sendE j).nd S := nd_sent P S j _
theorem nd_foldE (S : St) : ∀ (l : List Nat) (P : Pn), l.foldl Nd.sendE (P.nd S) = (l.foldl Pn.sendE P).nd S
  | [], _ => rfl
  | j :: l, P => by rw [List.foldl_cons, List.foldl_cons, nd_sendE, nd_foldE S l]
theorem nd_foldS (S : St) (x : Lt) : ∀ (l : List Nat) (P : Pn), l.foldl (fun K j => K.sent j x) (P.nd S) = (l.foldl (fun K j => K.sent j x) P).nd S
  | [], _ => rfl
  | j :: l, P => by rw [List.foldl_cons, List.foldl_cons, nd_sent, nd_foldS S x l]
theorem nd_sendAll (P : Pn) (S : St) : (P.nd S).sendAll = P.sendAll.nd S := nd_foldE S _ P
theorem nd_commit (P : Pn) (S : St) : (P.nd S).commit = P.commit.nd S := by
  unfold Nd.commit Pn.commit
  rw [agr_agrP]; rfl
/-- a machine that may be asked -/
def Pn.may (P : Pn) : Prop :=
  P.id < P.ps.length ∧ P.ps.length ≤ 16 ∧ (0 ≤ P.s.t ∧ P.s.t ≤ 1000000 ∧ -1 ≤ P.s.v ∧ P.s.v < P.ps.length) ∧ (∀ e ∈ P.s.es, 1 ≤ e.t ∧ e.t ≤ P.s.t ∧ e.d.size ≤ 4096) ∧ (P.s.es.map En.t).Pairwise (· ≤ ·) ∧ P.s.es.length ≤ 800000 ∧ P.ls.length ≤ 600000 ∧ (0 ≤ P.cm ∧ P.cm ≤ 1000000) ∧
    (P.role = 2 → (∀ p ∈ P.ps, 1 ≤ p.nx) ∧ (∀ p ∈ P.ps, p.nx ≤ P.s.es.length + 1) ∧ ∀ p ∈ P.ps, p.mt ≤ 1000000) ∧ (-4000 ≤ P.wt ∧ P.wt ≤ 4000) ∧ P.pat ≤ 1000
instance (P : Pn) : Decidable P.may := by unfold Pn.may; infer_instance
theorem Pn.may.ok {P : Pn} (h : P.may) (S : St) : (P.nd S).Ok := by
  obtain ⟨h1, h2, ⟨h3, h4, h5, h6⟩, h7, h8, h9, h10, h11, h12, h13, h14⟩ := h
  exact ⟨h1, h2, ⟨h3, by show P.s.t ≤ _; omega, h5, h6, h7, h8⟩, by show P.s.es.length ≤ _; omega, by show (P.ls.map _).length ≤ _; rw [List.length_map]; omega, h11.1, fun hr => ⟨(h12 hr).1, (h12 hr).2.1⟩⟩
theorem lt_le {es : List En} {t : Int} (h0 : 0 ≤ t) (h : ∀ e ∈ es, e.t ≤ t) : Ba.lt es ≤ t := by
  rcases List.eq_nil_or_concat es with rfl | ⟨l, x, rfl⟩
  · exact h0
  · rw [List.concat_eq_append, Ba.lt_snoc]; exact h x (by simp)
def Pn.app (P : Pn) (d : ByteArray) : Pn := { P with s := ⟨P.s.t, P.s.v, P.s.es ++ [⟨P.s.t, d⟩]⟩ }
def Pn.extend (P : Pn) (d : ByteArray) : Pn := if P.ps.length = 1 then (P.app d).sendAll.commit else (P.app d).sendAll
theorem extend_rm {P : Pn} {S : St} {d : ByteArray} {r k : Nat} (hP : P.may) (h : Rm S r k) (hk : 1 ≤ k) (hr : 40 + d.size ≤ r) (ht : 1 ≤ P.s.t) (hd : d.size ≤ 4096) :
    ∃ S', (P.nd S).extend d = (((P.s.es.length + 1 : Nat) : Int), 0, (P.extend d).nd S') ∧ Rm S' (r - (40 + d.size)) (k - 1) := by
  have hok := hP.ok S
  obtain ⟨h1, h2, ⟨h3, h4, h5, h6⟩, h7, h8, h9, h10, h11, h12, h13, h14⟩ := hP
  obtain ⟨S', e, hR⟩ := mgd_rm (n := P.ps.length) (s := P.s) (fs := [⟨P.s.t, d⟩]) h hk (by simp [szs]; omega) hok.bal (by omega) (by simp) (by simp; omega) (by simp; exact lt_le h3 fun e he => (h7 e he).2.1)
  refine ⟨S', ?_, hR.less (by simp [szs]) (Nat.le_refl _)⟩
  have e' : mgd (P.nd S).S (P.nd S).s (P.nd S).s.es.length [⟨(P.nd S).s.t, d⟩] = (((P.s.es.length + [(⟨P.s.t, d⟩ : En)].length : Nat) : Int), 0, S', ⟨P.s.t, P.s.v, P.s.es ++ [⟨P.s.t, d⟩]⟩) := e
  have ha : (P.nd S).put S' ⟨P.s.t, P.s.v, P.s.es ++ [⟨P.s.t, d⟩]⟩ = (P.app d).nd S' := rfl
  unfold Nd.extend
  rw [e', if_pos rfl]
  dsimp only
  rw [ha, nd_sendAll]
  unfold Pn.extend
  show (_, _, if P.ps.length = 1 then _ else _) = _
  split
  · rw [nd_commit]; rfl
  · rfl
def Pn.begun (P : Pn) : Pn := { P with role := 2, ldr := P.id, ps := P.ps.map fun p => ⟨p.hv, P.s.es.length + 1, 0⟩ }
def Pn.lead (P : Pn) : Pn := P.begun.extend ⟨#[]⟩
def Pn.chosen (P : Pn) : Pn := if 2 * P.ps.countP (·.hv) ≤ P.ps.length then P else P.lead
theorem begun_may {P : Pn} (h : P.may) : P.begun.may := by
  obtain ⟨h1, h2, ⟨h3, h4, h5, h6⟩, h7, h8, h9, h10, h11, h12, h13, h14⟩ := h
  have hl : P.begun.ps.length = P.ps.length := List.length_map _
  refine ⟨by rw [hl]; exact h1, by rw [hl]; exact h2, ⟨h3, h4, h5, by rw [hl]; exact h6⟩, h7, h8, h9, h10, h11, fun _ => ⟨?_, ?_, ?_⟩, h13, h14⟩
  · intro p hp
    obtain ⟨q, _, rfl⟩ := List.mem_map.1 hp
    show 1 ≤ P.s.es.length + 1; omega
  · intro p hp
    obtain ⟨q, _, rfl⟩ := List.mem_map.1 hp
    exact Nat.le_refl _
  · intro p hp
    obtain ⟨q, _, rfl⟩ := List.mem_map.1 hp
    exact Nat.zero_le _
theorem lead_rm {P : Pn} {S : St} {r k : Nat} (hP : P.may) (h : Rm S r k) (hk : 1 ≤ k) (hr : 40 ≤ r) (ht : 1 ≤ P.s.t) : ∃ S', (P.nd S).lead = (0, P.lead.nd S') ∧ Rm S' (r - 40) (k - 1) := by
  obtain ⟨S', e, hR⟩ := extend_rm (d := ⟨#[]⟩) (begun_may hP) h hk (by simpa [ByteArray.size] using hr) ht (by simp [ByteArray.size])
  refine ⟨S', ?_, by simpa [ByteArray.size] using hR⟩
  unfold Nd.lead
  rw [show (P.nd S).begun = P.begun.nd S from rfl, e]; rfl
theorem chosen_rm {P : Pn} {S : St} {r k : Nat} (hP : P.may) (h : Rm S r k) (hk : 1 ≤ k) (hr : 40 ≤ r) (ht : 1 ≤ P.s.t) : ∃ S', (P.nd S).chosen = (0, P.chosen.nd S') ∧ Rm S' (r - 40) (k - 1) := by
  have hv : (P.nd S).votes = P.ps.countP (·.hv) := rfl
  unfold Nd.chosen Pn.chosen
  rw [hv, show (P.nd S).ps.length = P.ps.length from rfl]
  split
  · exact ⟨S, rfl, h.less (by omega) (by omega)⟩
  · exact lead_rm hP h hk hr ht
end Go.Proofs.YtmpahgklcabihaaGreat.Rf

namespace Go.Proofs.YtmpahgklcabihaaGreat.Rf
open Go.RowKit Go.Joins Go.Proofs.YtmpahgklcabihaaGreat.Gk
open Go.Proofs.YtmpahgklcabihaaGreat.Dk (St Bs)
open Go.Proofs.YtmpahgklcabihaaGreat.Rl (En Lo LH ER ptr blk own Tn eenc eenc_len agr nmb mcode May1)
open Go.Proofs.YtmpahgklcabihaaGreat.Ba (Bl BB Tu Es trn cst mgd DH DI Mk Rc frs cnf cnl)

def Pn.asks (P : Pn) : Pn :=
  ({ P with role := 1, ldr := -1, ps := voted P.id P.ps } : Pn).others.foldl (fun K j => K.sent j (.ask P.s.t P.s.es.length (P.s.lo.tm P.s.es.length))) { P with role := 1, ldr := -1, ps := voted P.id P.ps }
theorem nd_asks (P : Pn) (S : St) : (P.nd S).asks = P.asks.nd S := nd_foldS S _ _ { P with role := 1, ldr := -1, ps := voted P.id P.ps }
/-- it has turned to a term of its own -/
def Pn.own (P : Pn) : Pn := { P with s := ⟨P.s.t + 1, P.id, P.s.es⟩ }
def Pn.ask (P : Pn) : Pn := P.own.asks.chosen
theorem ask_rm {P : Pn} {S : St} {r k : Nat} (hP : P.may) (hq : P.own.asks.may) (hqt : P.own.asks.s.t = P.s.t + 1) (h : Rm S r k) (hk : 3 ≤ k) (hr : 120 ≤ r) : ∃ S', (P.nd S).ask = (0, P.ask.nd S') ∧ Rm S' (r - 120) (k - 3) := by
  obtain ⟨h1, h2, ⟨h3, h4, h5, h6⟩, _⟩ := hP
  obtain ⟨S1, e1, R1⟩ := trn_rm (s := P.s) (t := P.s.t + 1) h (by omega) (by omega) (by omega) (by omega) (by omega)
  obtain ⟨S2, e2, R2⟩ := cst_rm (n := P.ps.length) (s := ⟨P.s.t + 1, -1, P.s.es⟩) (x := (P.id : Int)) R1 (by omega) (by omega) (by omega) (by omega) (by show ¬ P.s.t + 1 = 0; omega) rfl
  obtain ⟨S3, e3, R3⟩ := chosen_rm (S := S2) hq R2 (by omega) (by omega) (by rw [hqt]; omega)
  refine ⟨S3, ?_, R3.less (by omega) (by omega)⟩
  have e1' : trn (P.nd S).S (P.nd S).s ((P.nd S).s.t + 1) = (0, S1, ⟨P.s.t + 1, -1, P.s.es⟩) := e1
  rw [ask_two, e1', if_neg (by simp)]
  dsimp only
  unfold Nd.ask2
  have e2' : cst ((P.nd S).put S1 ⟨P.s.t + 1, -1, P.s.es⟩).ps.length ((P.nd S).put S1 ⟨P.s.t + 1, -1, P.s.es⟩).S ((P.nd S).put S1 ⟨P.s.t + 1, -1, P.s.es⟩).s ((P.nd S).put S1 ⟨P.s.t + 1, -1, P.s.es⟩).id = (0, S2, ⟨P.s.t + 1, P.id, P.s.es⟩) := e2
  rw [e2', if_neg (by simp)]
  dsimp only
  rw [show ((P.nd S).put S1 ⟨P.s.t + 1, -1, P.s.es⟩).put S2 ⟨P.s.t + 1, P.id, P.s.es⟩ = P.own.nd S2 from rfl, nd_asks, e3]
  rfl
def Pn.tick (P : Pn) : Pn :=
  if P.role = 2 then P.sendAll
  else if P.wt + 1 < P.pat + P.id then { P with wt := P.wt + 1 }
  else ({ P with wt := 0 } : Pn).ask
/-- it may be ticked -/
def Pn.tickC (P : Pn) : Prop := P.may ∧ (P.role = 2 ∨ P.wt + 1 < P.pat + P.id ∨ (({ P with wt := 0 } : Pn).own.asks.may ∧ ({ P with wt := 0 } : Pn).own.asks.s.t = P.s.t + 1))
instance (P : Pn) : Decidable P.tickC := by unfold Pn.tickC; infer_instance
theorem tick_rm {P : Pn} {S : St} {r k : Nat} (hC : P.tickC) (h : Rm S r k) (hk : 3 ≤ k) (hr : 120 ≤ r) : ∃ S', (P.nd S).tick = (0, P.tick.nd S') ∧ Rm S' (r - 120) (k - 3) := by
  obtain ⟨hP, hC⟩ := hC
  unfold Nd.tick Pn.tick
  rw [show (P.nd S).role = P.role from rfl, show (P.nd S).wt = P.wt from rfl, show (P.nd S).pat = (P.pat : Int) from rfl, show (P.nd S).id = P.id from rfl]
  split
  · exact ⟨S, by rw [nd_sendAll], h.less (by omega) (by omega)⟩
  · rename_i h1
    split
    · exact ⟨S, rfl, h.less (by omega) (by omega)⟩
    · rename_i h2
      rcases hC with h3 | h3 | ⟨h3, h4⟩
      · exact absurd h3 h1
      · exact absurd h3 h2
      · refine ask_rm (P := { P with wt := 0 }) ?_ h3 h4 h hk hr
        obtain ⟨a1, a2, a3, a4, a5, a6, a7, a8, a9, a10, a11⟩ := hP
        exact ⟨a1, a2, a3, a4, a5, a6, a7, a8, a9, ⟨by show (-4000 : Int) ≤ 0; decide, by show (0 : Int) ≤ 4000; decide⟩, a11⟩
def Pn.catchUp (P : Pn) (t : Int) : Pn := if t ≤ P.s.t then P else { P with s := ⟨t, -1, P.s.es⟩, role := 0, ldr := -1 }
theorem catch_rm {P : Pn} {S : St} {t : Int} {r k : Nat} (h : Rm S r k) (hk : 1 ≤ k) (hr : 40 ≤ r) (h1 : 1 ≤ t) (h2 : t ≤ 1073741824) : ∃ S', (P.nd S).catchUp t = (0, (P.catchUp t).nd S') ∧ Rm S' (r - 40) (k - 1) := by
  unfold Nd.catchUp Pn.catchUp
  rw [show (P.nd S).s = P.s from rfl, show (P.nd S).S = S from rfl]
  split
  · exact ⟨S, rfl, h.less (by omega) (by omega)⟩
  · rename_i h3
    obtain ⟨S1, e1, R1⟩ := trn_rm (s := P.s) (t := t) h hk hr (by omega) h1 h2
    refine ⟨S1, ?_, R1⟩
    rw [e1, if_pos rfl]; rfl
def Pn.mayv (P : Pn) (j : Nat) (t l lt : Int) : Bool := decide (t = P.s.t) && P.s.lo.beh l lt && (decide (P.s.v = -1) || decide (P.s.v = j))
def Pn.asked (P : Pn) (j : Nat) (t l lt : Int) : Pn :=
  if P.mayv j t l lt = true then ({ P with s := ⟨P.s.t, j, P.s.es⟩, wt := 0 } : Pn).sent j (.vote P.s.t true) else P.sent j (.vote P.s.t false)
theorem asked_rm {P : Pn} {S : St} {j : Nat} {t l lt : Int} {r k : Nat} (hj : j < P.ps.length) (ht : 1 ≤ P.s.t) (h : Rm S r k) (hk : 1 ≤ k) (hr : 40 ≤ r) : ∃ S', (P.nd S).asked j t l lt = (0, (P.asked j t l lt).nd S') ∧ Rm S' (r - 40) (k - 1) := by
  unfold Nd.asked Pn.asked
  rw [show (P.nd S).may j t l lt = P.mayv j t l lt from rfl]
  split
  · rename_i hm
    have hv : P.s.v = -1 ∨ P.s.v = j := by
      unfold Pn.mayv at hm
      simp only [Bool.and_eq_true, Bool.or_eq_true, decide_eq_true_eq] at hm
      exact hm.2
    have key : ∃ S', cst (P.nd S).ps.length (P.nd S).S (P.nd S).s j = (0, S', ⟨P.s.t, j, P.s.es⟩) ∧ Rm S' (r - 40) (k - 1) := by
      rcases hv with hv | hv
      · exact cst_rm (n := P.ps.length) (s := P.s) (x := (j : Int)) h hk hr (by omega) (by omega) (by omega) hv
      · refine ⟨S, ?_, h.less (by omega) (by omega)⟩
        show cst P.ps.length S P.s j = _
        unfold Ba.cst
        rw [if_neg (by omega), if_neg (by omega), if_pos hv, ← hv]
    obtain ⟨S1, e1, R1⟩ := key
    refine ⟨S1, ?_, R1⟩
    rw [e1, if_pos rfl]
    dsimp only
    rw [show ({ (P.nd S).put S1 ⟨P.s.t, j, P.s.es⟩ with wt := 0 } : Nd) = ({ P with s := ⟨P.s.t, j, P.s.es⟩, wt := 0 } : Pn).nd S1 from rfl, nd_sent]
  · refine ⟨S, ?_, h.less (by omega) (by omega)⟩
    rw [show (P.nd S).s.t = P.s.t from rfl, nd_sent]
def Pn.voteOf (P : Pn) (j : Nat) : Pn := { P with ps := P.ps.set j ⟨true, (P.pr j).nx, (P.pr j).mt⟩ }
def Pn.told (P : Pn) (j : Nat) (t : Int) (g : Bool) : Pn :=
  if t ≠ P.s.t ∨ P.role ≠ 1 then P else if g = true then (P.voteOf j).chosen else { P with wt := -(P.pat + P.ps.length) }
theorem told_rm {P : Pn} {S : St} {j : Nat} {t : Int} {g : Bool} {r k : Nat} (hV : (P.voteOf j).may) (ht : 1 ≤ P.s.t) (h : Rm S r k) (hk : 1 ≤ k) (hr : 40 ≤ r) : ∃ S', (P.nd S).told j t g = (0, (P.told j t g).nd S') ∧ Rm S' (r - 40) (k - 1) := by
  unfold Nd.told Pn.told
  rw [show (P.nd S).s.t = P.s.t from rfl, show (P.nd S).role = P.role from rfl]
  split
  · exact ⟨S, rfl, h.less (by omega) (by omega)⟩
  · split
    · obtain ⟨S1, e1, R1⟩ := chosen_rm (S := S) hV h hk hr ht
      exact ⟨S1, e1, R1⟩
    · exact ⟨S, rfl, h.less (by omega) (by omega)⟩
def Pn.answered (P : Pn) (j : Nat) (t : Int) (g : Bool) (n : Nat) : Pn :=
  if t ≠ P.s.t ∨ P.role ≠ 2 then P
  else if g = true then
    if n ≤ P.s.es.length then ({ P with ps := P.ps.set j ⟨(P.pr j).hv, max (P.pr j).mt n + 1, max (P.pr j).mt n⟩ } : Pn).commit else P
  else ({ P with ps := P.ps.set j ⟨(P.pr j).hv, max 1 (min ((P.pr j).nx - 1) (n + 1)), (P.pr j).mt⟩ } : Pn).sendE j
theorem nd_answered (P : Pn) (S : St) (j : Nat) (t : Int) (g : Bool) (n : Nat) : (P.nd S).answered j t g n = (0, (P.answered j t g n).nd S) := by
  unfold Nd.answered Pn.answered
  rw [show (P.nd S).s = P.s from rfl, show (P.nd S).role = P.role from rfl]
  split
  · rfl
  · split
    · split
      · exact congrArg (Prod.mk (0 : Int)) (nd_commit ({ P with ps := P.ps.set j ⟨(P.pr j).hv, max (P.pr j).mt n + 1, max (P.pr j).mt n⟩ } : Pn) S)
      · rfl
    · exact congrArg (Prod.mk (0 : Int)) (nd_sendE ({ P with ps := P.ps.set j ⟨(P.pr j).hv, max 1 (min ((P.pr j).nx - 1) (n + 1)), (P.pr j).mt⟩ } : Pn) S j)
/-- entries behind the last come -/
def Pn.heard (P : Pn) (j : Nat) (c : Int) (fs : List En) : Pn :=
  ({ P with s := ⟨P.s.t, P.s.v, P.s.es ++ fs⟩, role := 0, ldr := j, wt := 0, cm := max P.cm (min c ((P.s.es.length + fs.length : Nat) : Int)) } : Pn).sent j (.ans P.s.t true ((P.s.es.length + fs.length : Nat) : Int))
end Go.Proofs.YtmpahgklcabihaaGreat.Rf

namespace Go.Proofs.YtmpahgklcabihaaGreat.Rf
open Go.RowKit Go.Joins Go.Proofs.YtmpahgklcabihaaGreat.Gk
open Go.Proofs.YtmpahgklcabihaaGreat.Dk (St Bs)
open Go.Proofs.YtmpahgklcabihaaGreat.Rl (En Lo LH ER ptr blk own Tn eenc eenc_len agr nmb mcode May1)
open Go.Proofs.YtmpahgklcabihaaGreat.Ba (Bl BB Tu Es trn cst mgd DH DI Mk Rc frs cnf cnl)

instance (l : Lt) : Decidable l.fit := by cases l <;> (unfold Lt.fit; infer_instance)
def Pn.hear (P : Pn) (j : Nat) : Lt → Pn
  | .ask t l lt => (P.catchUp t).asked j t l lt
  | .vote t g => (P.catchUp t).told j t g
  | .ents t _ _ c es => (P.catchUp t).heard j c es
  | .ans t g n => (P.catchUp t).answered j t g n.toNat
def Pn.hearK (Q : Pn) (j : Nat) : Lt → Prop
  | .ask _ _ _ => True
  | .vote _ _ => (Q.voteOf j).may
  | .ents t p pt _ es => t = Q.s.t ∧ p = (Q.s.es.length : Int) ∧ pt = Q.s.lo.tm Q.s.es.length ∧ (∀ e ∈ es, e.t ≤ Q.s.t) ∧ (Ba.lt Q.s.es :: es.map En.t).Pairwise (· ≤ ·)
  | .ans _ _ _ => (Q.pr j).mt ≤ 1000000
instance (Q : Pn) (j : Nat) (x : Lt) : Decidable (Q.hearK j x) := by cases x <;> (unfold Pn.hearK; infer_instance)
/-- it may hear a letter -/
def Pn.hearC (P : Pn) (j : Nat) (x : Lt) : Prop := j < P.ps.length ∧ j ≠ P.id ∧ x.fit ∧ (P.catchUp x.term).may ∧ 1 ≤ (P.catchUp x.term).s.t ∧ (P.catchUp x.term).hearK j x
instance (P : Pn) (j : Nat) (x : Lt) : Decidable (P.hearC j x) := by unfold Pn.hearC; infer_instance
def Lt.sz : Lt → Nat
  | .ents _ _ _ _ es => szs es
  | _ => 0
theorem catch_ps (P : Pn) (t : Int) : (P.catchUp t).ps = P.ps := by unfold Pn.catchUp; split <;> rfl
section
variable {nb bd : Nat} {P : Pn} {S : St} {X : Nat → Prop}
set_option maxHeartbeats 2000000 in
theorem Hear_run (j : Nat) (x : Lt) (w : World) (h : ND w nb bd (P.nd S) X) (hC : P.hearC j x) {r k : Nat} (hR : Rm S r k) (hk : 2 ≤ k) (hr : 80 + x.sz ≤ r) :
    Calls Tryz.prog 23 #[ptr nb, .int .i64 j, .string x.text] w fun e w' => e = .returned (.int .i64 0) ∧ ∃ S', Rm S' (r - (80 + x.sz)) (k - 2) ∧ Goes w w' nb bd ((P.hear j x).nd S') X := by
  obtain ⟨h1, h2, h3, h4, h5, h6⟩ := hC
  have hps := catch_ps P x.term
  cases x with
  | ask t l lt =>
    obtain ⟨S1, e1, R1⟩ := catch_rm (P := P) (t := t) hR (by omega) (by omega) h3.1 h3.2.1
    obtain ⟨S2, e2, R2⟩ := asked_rm (P := P.catchUp t) (j := j) (t := t) (l := l) (lt := lt) (by rw [catch_ps]; exact h1) h5 R1 (by omega) (by omega)
    refine (hearAsk j h1 h2 t l lt h3 w h (by rw [e1]) 0 (((P.catchUp t).asked j t l lt).nd S2) (fun W X1 hN => ?_)).mono ?_
    · rw [e1] at hN
      have := asked_any j t l lt W hN (h4.ok S1)
      rw [e2] at this
      exact this
    · rintro e w' ⟨rfl, hG⟩
      exact ⟨rfl, S2, R2.less (by show r - (80 + 0) ≤ _; omega) (by omega), hG⟩
  | vote t g =>
    obtain ⟨S1, e1, R1⟩ := catch_rm (P := P) (t := t) hR (by omega) (by omega) h3.1 h3.2
    obtain ⟨S2, e2, R2⟩ := told_rm (P := P.catchUp t) (j := j) (t := t) (g := g) h6 h5 R1 (by omega) (by omega)
    refine (hearVote j h1 h2 t g h3 w h (by rw [e1]) 0 (((P.catchUp t).told j t g).nd S2) (fun W X1 hN => ?_)).mono ?_
    · rw [e1] at hN
      have := told_any j (by show j < (P.catchUp t).ps.length; rw [catch_ps]; exact h1) t g W hN (h4.ok S1) ⟨by show (0 : Int) ≤ ((P.catchUp t).pat : Int); omega, by have h' : (P.catchUp t).pat ≤ 1000 := h4.2.2.2.2.2.2.2.2.2.2; show ((P.catchUp t).pat : Int) ≤ 1000; omega⟩
      rw [e2] at this
      exact this
    · rintro e w' ⟨rfl, hG⟩
      exact ⟨rfl, S2, R2.less (by show r - (80 + 0) ≤ _; omega) (by omega), hG⟩
  | ans t g n =>
    obtain ⟨S1, e1, R1⟩ := catch_rm (P := P) (t := t) hR (by omega) (by omega) h3.1 h3.2.1
    have hn : (n.toNat : Int) = n := by have := h3.2.2.1; omega
    refine (hearAns j h1 h2 t g n h3 w h (by rw [e1]) 0 (((P.catchUp t).answered j t g n.toNat).nd S1) (fun W X1 hN => ?_)).mono ?_
    · rw [e1] at hN
      have := answered_any j (by show j < (P.catchUp t).ps.length; rw [catch_ps]; exact h1) t g n.toNat (by have := h3.2.2.2; omega) W hN (h4.ok S1) h6
      rw [nd_answered, hn] at this
      exact this
    · rintro e w' ⟨rfl, hG⟩
      exact ⟨rfl, S1, R1.less (by show r - (80 + 0) ≤ _; omega) (by omega), hG⟩
  | ents t p pt c es =>
    obtain ⟨S1, e1, R1⟩ := catch_rm (P := P) (t := t) hR (by omega) (by have : 80 + szs es ≤ r := hr; omega) h3.1 h3.2.1
    obtain ⟨k1, k2, k3, k4, k5⟩ := h6
    obtain ⟨q1, q2, q3, q4, q5, q6, q7, q8, q9, q10⟩ := h3
    have k1' : t = (P.catchUp t).s.t := k1
    have k2' : p = ((P.catchUp t).s.es.length : Int) := k2
    have k3' : pt = (P.catchUp t).s.lo.tm (P.catchUp t).s.es.length := k3
    have hok := h4.ok S1
    have hr' : 80 + szs es ≤ r := hr
    obtain ⟨S2, e2, R2⟩ := mgd_rm (n := (P.catchUp t).ps.length) (s := (P.catchUp t).s) (fs := es) R1 (by omega) (by omega) hok.bal (by have := hok.many; exact this) (by omega) (fun e he => ⟨(q10 e he).1, k4 e he, (q10 e he).2.2⟩) k5
    refine (hearEnts j h1 h2 t p pt c es ⟨q1, q2, q3, q4, q5, q6, q7, q8, q9, q10⟩ w h (by rw [e1]) 0 (((P.catchUp t).heard j c es).nd S2) (fun a cap W X1 hN hl hx => ?_)).mono ?_
    · rw [e1] at hN
      have := heard_ok j t c (P.catchUp t).s.es.length a cap es W hN hok (by show ¬ t < (P.catchUp t).s.t; omega) (Nat.le_refl _) hl (by omega) (fun e he => k4 e he) hx _ S2 _ e2
      rw [k2', k3']
      rw [show ({ (P.catchUp t).nd S1 with S := S2, s := ⟨(P.catchUp t).s.t, (P.catchUp t).s.v, (P.catchUp t).s.es ++ es⟩, role := 0, ldr := j, wt := 0, cm := max ((P.catchUp t).nd S1).cm (min c (((P.catchUp t).s.es.length + es.length : Nat) : Int)) } : Nd) = ({ P.catchUp t with s := ⟨(P.catchUp t).s.t, (P.catchUp t).s.v, (P.catchUp t).s.es ++ es⟩, role := 0, ldr := j, wt := 0, cm := max (P.catchUp t).cm (min c (((P.catchUp t).s.es.length + es.length : Nat) : Int)) } : Pn).nd S2 from rfl, nd_sent] at this
      exact this
    · rintro e w' ⟨rfl, hG⟩
      exact ⟨rfl, S2, R2.less (by show r - (80 + szs es) ≤ _; omega) (by omega), hG⟩
theorem Tick_run (w : World) (h : ND w nb bd (P.nd S) X) (hC : P.tickC) {r k : Nat} (hR : Rm S r k) (hk : 3 ≤ k) (hr : 120 ≤ r) :
    Calls Tryz.prog 18 #[ptr nb] w fun e w' => e = .returned (.int .i64 0) ∧ ∃ S', Rm S' (r - 120) (k - 3) ∧ Goes w w' nb bd (P.tick.nd S') X := by
  obtain ⟨S1, e1, R1⟩ := tick_rm (S := S) hC hR hk hr
  have hP := hC.1
  refine (Tick_any w h (hP.ok S) (by show (P.ls.map _).length ≤ _; rw [List.length_map]; have := hP.2.2.2.2.2.2.1; omega) hP.2.2.2.2.2.2.2.2.2.1 ⟨by show (0 : Int) ≤ (P.pat : Int); omega, by have := hP.2.2.2.2.2.2.2.2.2.2; show (P.pat : Int) ≤ 1000; omega⟩).mono ?_
  rw [e1]
  rintro e w' ⟨rfl, hG⟩
  exact ⟨rfl, S1, R1, hG⟩
theorem Propose_run (d : ByteArray) (w : World) (h : ND w nb bd (P.nd S) X) (hP : P.may) (hl : P.role = 2) (ht : 1 ≤ P.s.t) (hd : d.size ≤ 4096) {r k : Nat} (hR : Rm S r k) (hk : 1 ≤ k) (hr : 40 + d.size ≤ r) :
    Calls Tryz.prog 16 #[ptr nb, .string d] w fun e w' => e = .returned (.tuple #[.int .i64 ((P.s.es.length + 1 : Nat) : Int), .int .i64 0]) ∧ ∃ S', Rm S' (r - (40 + d.size)) (k - 1) ∧ Goes w w' nb bd ((P.extend d).nd S') X := by
  obtain ⟨S1, e1, R1⟩ := extend_rm (S := S) hP hR hk hr ht hd
  refine (Propose_yes d w h (hP.ok S) hl).mono ?_
  rw [e1]
  rintro e w' ⟨rfl, hG⟩
  exact ⟨rfl, S1, R1, hG⟩
end
end Go.Proofs.YtmpahgklcabihaaGreat.Rf

namespace Go.Proofs.YtmpahgklcabihaaGreat.Rf
open Go.RowKit Go.Joins Go.Proofs.YtmpahgklcabihaaGreat.Gk
open Go.Proofs.YtmpahgklcabihaaGreat.Dk (St Bs)
open Go.Proofs.YtmpahgklcabihaaGreat.Rl (En Lo LH ER ptr blk own Tn eenc eenc_len agr nmb mcode May1)
open Go.Proofs.YtmpahgklcabihaaGreat.Ba (Bl BB Tu Es trn cst mgd DH DI Mk)

def qenc (b : Nat) : List Value := [ptr b]
theorem qenc_len (b : Nat) : (qenc b).length = 1 := rfl
theorem qenc_one (b : Nat) : ∀ u ∈ qenc b, u.oneCell' = true := by
  intro u hu
  simp only [qenc, List.mem_singleton] at hu
  subst hu; rfl
theorem q_info : (Tryz.prog.info? 32).map (fun i => (i.zero, i.size, i.bytes)) = some (some (.pointer none), 1, 8) := by kernel_rfl
/-- a node's place, its disk's, and what it is -/
structure Pl where
  nb : Nat
  bd : Nat
  N : Nd
  X : Nat → Prop
/-- nodes lie there, apart, each behind a world -/
structure Nds (B : Nat) (w : World) (ps : List Pl) : Prop where
  each : ∀ p ∈ ps, ND w p.nb p.bd p.N p.X
  new : ∀ p ∈ ps, ∀ k, p.X k → B ≤ k
  apart : ps.Pairwise fun p q => ∀ k, p.X k → ¬ q.X k
theorem Nds.below {B : Nat} {w w' : World} {ps : List Pl} (h : Nds B w ps) (hb : Below w.heap.size w w') : Nds B w' ps := ⟨fun p hp => (h.each p hp).below hb, h.new, h.apart⟩
theorem Nds.snoc {B : Nat} {w w' : World} {ps : List Pl} (h : Nds B w ps) (hb : Below w.heap.size w w') (hB : B ≤ w.heap.size) {q : Pl} (hq : ND w' q.nb q.bd q.N q.X) (hX : ∀ k, q.X k → w.heap.size ≤ k) : Nds B w' (ps ++ [q]) := by
  refine ⟨fun p hp => ?_, fun p hp k hk => ?_, ?_⟩
  · rcases List.mem_append.1 hp with hp | hp
    · exact (h.each p hp).below hb
    · rw [List.mem_singleton.1 hp]; exact hq
  · rcases List.mem_append.1 hp with hp | hp
    · exact h.new p hp k hk
    · rw [List.mem_singleton.1 hp] at hk; exact Nat.le_trans hB (hX k hk)
  · rw [List.pairwise_append]
    refine ⟨h.apart, List.pairwise_singleton _ _, fun p hp r hr k hk hk2 => ?_⟩
    rw [List.mem_singleton.1 hr] at hk2
    have := (h.each p hp).lt hk
    have := hX k hk2
    omega

theorem Nds.frame {B : Nat} {w w' : World} {ps : List Pl} (h : Nds B w ps) (hz : w.heap.size ≤ w'.heap.size) (hs : ∀ p ∈ ps, ∀ k, p.X k → w'.heap[k]? = w.heap[k]?) : Nds B w' ps := ⟨fun p hp => (h.each p hp).frame hz (hs p hp), h.new, h.apart⟩
def N0 (i : Nat) : Nd := Nd.new i 3 2 (St.new 262144) Bl.new
set_option maxRecDepth 100000 in
set_option maxHeartbeats 4000000 in
theorem trio_any (w : World) :
    Calls Tryz.prog 21 #[] w fun e w' => ∃ a cap ps, e = .returned (.tuple #[.slice a 3 cap, .bool true]) ∧ Gk.Lies w' qenc a (ps.map Pl.nb) ∧ ps.map Pl.N = [N0 0, N0 1, N0 2] ∧ Nds w.heap.size w' ps ∧ (∀ b off, a = some ⟨b, off, none⟩ → w.heap.size ≤ b ∧ ∀ p ∈ ps, ¬ p.X b) ∧ Below w.heap.size w w' := by
  go_enter Tryz.func21, Tryz.ntmps21
  go_wp2
  go_loopw [2, 5] (fun v i wr => ∃ (k : Nat) (ps : List Pl), k ≤ 3 ∧ i = .int .i64 k ∧ ps.map Pl.N = (List.range k).map N0 ∧ Nds w.heap.size wr ps ∧ wr.ownsRow w.heap.size 32 1 v k (rc qenc (ps.map Pl.nb)) ∧ (∀ b, v.ownBlock = some b → ∀ p ∈ ps, ¬ p.X b) ∧ Below w.heap.size w wr) (fun _ i _ => 3 - (intOf i).toNat)
  case atStart => exact ⟨0, [], by omega, rfl, rfl, ⟨by simp, by simp, List.Pairwise.nil⟩, by simpa [Gk.rc] using World.ownsRow_nil w w.heap.size 32 1, by simp [Value.ownBlock], Below.refl _ _⟩
  case round =>
    obtain ⟨k, ps, hk, rfl, hNs, hN, hv, hvx, hbel⟩ := hrel
    have hpl : ps.length = k := by
      have := congrArg List.length hNs; simpa using this
    have HPS := hide (And.intro hNs (And.intro hN (And.intro hvx hpl)))
    by_cases hlt : k < 3
    · have i1 : (0 : Int) ≤ (k : Int) := by omega
      have i2 : (k : Int) < 3 := by omega
      have HS := hide (start_any k 3 2 hlt (by decide) (by decide) (by decide) wr)
      have hml : (ps.map Pl.nb).length = k := by rw [List.length_map]; exact hpl
      have HML := hide hml
      have HBW := hide hbel
      obtain ⟨Q, hQ⟩ : ∃ Q, ps.map Pl.nb = Q := ⟨_, rfl⟩
      rw [hQ] at hv HML
      have HQ := hide hQ
      have HVL := hide hv.lt
      clear hNs hN hvx hpl hml hbel hQ
      go_wp2_with fail
      refine HS.out.mono ?_
      clear HS
      rintro e w2 ⟨nb, bd, X, rfl, hND, hX, hb2⟩
      have hv2 := Gk.own_below hv hb2
      have hbel2 := HBW.out.trans (hb2.mono HBW.out.size)
      have HD := hide (And.intro hND (And.intro hX hb2))
      have hvl := hv2.lt
      clear hv hND hX hb2
      go_wp2_with (at_builtin; refine Gk.wpList_push (enc := qenc) (k := 1) rfl (.tmp 12) (.tmp 14) 59 rfl 32 (.pointer none) 8 Tryz.underlying59 q_info rfl (by decide) qenc_len qenc_one w.heap.size _ Q rfl (Gk.own_below (by rw [HML.out]; exact hv2) (below_alloc1 w2 _)) w2.heap.size nb rfl (heap_alloc_new w2 _) ?c1 ?c2 ?c3 ?_)
      case c1 => have := HML.out; omega
      case c2 => have := HML.out; omega
      case c3 => have := hbel2.size; simp; omega
      intro v' w3 hv3 hg3 hat3
      have hz23 : w2.heap.size ≤ w3.heap.size := Nat.le_trans (by simp) hg3.size
      have hN2 : Nds w.heap.size w2 (ps ++ [⟨nb, bd, N0 k, X⟩]) := HPS.out.2.1.snoc HD.out.2.2 HBW.out.size (q := ⟨nb, bd, N0 k, X⟩) HD.out.1 HD.out.2.1
      have hne : ∀ p ∈ ps ++ [⟨nb, bd, N0 k, X⟩], ∀ b, u2.ownBlock = some b → ¬ p.X b := fun p hp b hb => by
        rcases List.mem_append.1 hp with hp | hp
        · exact HPS.out.2.2.1 b hb p hp
        · rw [List.mem_singleton.1 hp]
          intro hX
          have h1 := HD.out.2.1 b hX
          have h2 := (HVL.out b hb).2
          omega
      have hN3 : Nds w.heap.size w3 (ps ++ [⟨nb, bd, N0 k, X⟩]) := hN2.frame hz23 fun p hp b hb => by
        have hlt2 := (hN2.each p hp).lt hb
        rw [hg3.block b (by simp; omega) fun e => hne p hp b e.symm hb, heap_alloc_old _ _ (by omega)]
      have hv'x : ∀ b, v'.ownBlock = some b → ∀ p ∈ ps ++ [⟨nb, bd, N0 k, X⟩], ¬ p.X b := fun b hb p hp hX => by
        rcases hat3 b hb with h1 | h1
        · exact hne p hp b h1 hX
        · have := (hN2.each p hp).lt hX
          first | omega | (simp at h1; omega)
      have hb3 : Below w.heap.size w w3 := (hbel2.alloc hbel2.size _).grown hg3 (by have := hbel2.size; simp; omega) (fun b hb => (hvl b hb).1)
      have hNs3 : (ps ++ [(⟨nb, bd, N0 k, X⟩ : Pl)]).map Pl.N = (List.range (k + 1)).map N0 := by
        rw [List.map_append, HPS.out.1, List.range_succ, List.map_append]; rfl
      have hrow3 : w3.ownsRow w.heap.size 32 1 v' (k + 1) (rc qenc ((ps ++ [(⟨nb, bd, N0 k, X⟩ : Pl)]).map Pl.nb)) := by
        rw [List.map_append, HQ.out]
        rw [HML.out] at hv3
        exact hv3
      have HF := hide (And.intro hNs3 (And.intro hN3 (And.intro hrow3 (And.intro hv'x hb3))))
      clear hNs3 hN3 hrow3 hv'x hb3 hN2 hne hz23 hv3 hg3 hat3 hv2 hbel2 hvl HPS HQ
      go_wp2
      go_roundw
      case rel => exact ⟨k + 1, _, by omega, by go_num, HF.out.1, HF.out.2.1, HF.out.2.2.1, HF.out.2.2.2.1, HF.out.2.2.2.2⟩
      case measure => simp [intOf]; omega
    · obtain rfl : k = 3 := by omega
      obtain ⟨a, cap, rfl⟩ := Gk.own_slice hv
      have hl : Gk.Lies wr qenc a (ps.map Pl.nb) := Row.lies (n := 3) (cap := cap) (e := 32) (k := 1) (by unfold Row; rw [List.length_map, hpl]; exact Gk.own_mono hv (Nat.zero_le _))
      have hab : ∀ b off, a = some ⟨b, off, none⟩ → w.heap.size ≤ b ∧ ∀ p ∈ ps, ¬ p.X b := fun b off e => ⟨(hv.lt b (by rw [e]; rfl)).1, hvx b (by rw [e]; rfl)⟩
      have hN3 : ps.map Pl.N = [N0 0, N0 1, N0 2] := hNs
      have HF := hide (And.intro hl (And.intro hN3 (And.intro hN (And.intro hab hbel))))
      clear hl hN3 hN hab hbel hv hvx hNs hpl HPS
      go_wp2
      go_ret2
      exact ⟨a, cap, ps, rfl, HF.out.1, HF.out.2.1, HF.out.2.2.1, HF.out.2.2.2.1, HF.out.2.2.2.2⟩
end Go.Proofs.YtmpahgklcabihaaGreat.Rf

namespace Go.Proofs.YtmpahgklcabihaaGreat.Rf
open Go.RowKit Go.Joins Go.Proofs.YtmpahgklcabihaaGreat.Gk
open Go.Proofs.YtmpahgklcabihaaGreat.Dk (St Bs)
open Go.Proofs.YtmpahgklcabihaaGreat.Rl (En Lo LH ER ptr blk own Tn eenc eenc_len agr nmb mcode May1)
open Go.Proofs.YtmpahgklcabihaaGreat.Ba (Bl BB Tu Es trn cst mgd DH DI Mk Rc frs cnf cnl)

/-- a machine, and how much room its disk has -/
structure Bn where
  P : Pn
  r : Nat
  k : Nat
def bn0 : Bn := ⟨Pn.new 0 0 0, 0, 0⟩
abbrev at_ (T : List Bn) (i : Nat) : Bn := T.getD i bn0
def dlC (T : List Bn) (i : Nat) (y : Nat × Lt) : Prop := y.1 < T.length ∧ y.1 ≠ i ∧ (at_ T y.1).P.hearC i y.2 ∧ 2 ≤ (at_ T y.1).k ∧ 80 + y.2.sz ≤ (at_ T y.1).r
instance (T : List Bn) (i : Nat) (y : Nat × Lt) : Decidable (dlC T i y) := by unfold dlC; infer_instance
def dl1 (T : List Bn) (i : Nat) (y : Nat × Lt) : List Bn := T.set y.1 ⟨(at_ T y.1).P.hear i y.2, (at_ T y.1).r - (80 + y.2.sz), (at_ T y.1).k⟩
def dlF (i : Nat) : List (Nat × Lt) → List Bn → Nat → Option (List Bn × Nat)
  | [], T, m => some (T, m)
  | y :: l, T, m => if dlC T i y then dlF i l (dl1 T i y) (m + 1) else none
def clr (T : List Bn) (i : Nat) : List Bn := T.set i ⟨{ (at_ T i).P with ls := [] }, (at_ T i).r, (at_ T i).k⟩
def passF : List Nat → List Bn → Nat → Option (List Bn × Nat)
  | [], T, m => some (T, m)
  | i :: l, T, m => if (at_ T i).P.ls.length ≤ 1000 then
      match dlF i (at_ T i).P.ls (clr T i) m with
      | some (T', m') => passF l T' m'
      | none => none
    else none
def deliverF : Nat → Nat → List Bn → Option (List Bn)
  | 0, _, _ => none
  | f + 1, m, T => if 500 ≤ m then some T else match passF [0, 1, 2] T m with
    | some (T', m') => if m' = m then some T' else deliverF f m' T'
    | none => none
theorem dlF_len (i : Nat) : ∀ (l : List (Nat × Lt)) (T : List Bn) (m : Nat) (T' : List Bn) (m' : Nat), dlF i l T m = some (T', m') → T'.length = T.length ∧ m' = m + l.length
  | [], T, m, T', m', h => by cases h; exact ⟨rfl, rfl⟩
  | y :: l, T, m, T', m', h => by
    unfold dlF at h
    split at h
    · obtain ⟨h1, h2⟩ := dlF_len i l _ _ _ _ h
      exact ⟨by rw [h1]; exact List.length_set, by rw [h2, List.length_cons]; omega⟩
    · cases h

/-- a node turns, the others stay -/
theorem Nds.one {B : Nat} {w w' : World} {ps : List Pl} (h : Nds B w ps) {i : Nat} (hi : i < ps.length) {N' : Nd} {X' : Nat → Prop} (hN : ND w' ps[i].nb ps[i].bd N' X') (ht : Tu ps[i].X X' w w') (hB : B ≤ w.heap.size) :
    Nds B w' (ps.set i ⟨ps[i].nb, ps[i].bd, N', X'⟩) := by
  have hap := List.pairwise_iff_getElem.1 h.apart
  have hd : ∀ (j : Nat) (hj : j < ps.length), j ≠ i → ∀ k, ps[j].X k → ¬ ps[i].X k := fun j hj hne k hk h2 => by
    rcases Nat.lt_or_ge j i with hl | hl
    · exact hap j i hj hi hl k hk h2
    · exact hap i j hi hj (by omega) k h2 hk
  have hlt : ∀ (j : Nat) (hj : j < ps.length) (k : Nat), ps[j].X k → k < w.heap.size := fun j hj k hk => (h.each _ (List.getElem_mem hj)).lt hk
  have key : ∀ (j : Nat) (hj : j < ps.length), j ≠ i → ND w' ps[j].nb ps[j].bd ps[j].N ps[j].X ∧ ∀ k, ps[j].X k → ¬ X' k := fun j hj hne =>
    ⟨(h.each _ (List.getElem_mem hj)).frame ht.size fun k hk => (ht.stay (hlt j hj k hk) (hd j hj hne k hk)).1, fun k hk => (ht.stay (hlt j hj k hk) (hd j hj hne k hk)).2⟩
  refine ⟨fun p hp => ?_, fun p hp k hk => ?_, List.pairwise_iff_getElem.2 fun a b ha hb hab => ?_⟩
  · obtain ⟨j, hj, rfl⟩ := List.getElem_of_mem hp
    rw [List.length_set] at hj
    by_cases e : j = i
    · subst e; rw [List.getElem_set_self]; exact hN
    · rw [List.getElem_set_ne (Ne.symm e)]; exact (key j hj e).1
  · obtain ⟨j, hj, rfl⟩ := List.getElem_of_mem hp
    rw [List.length_set] at hj
    by_cases e : j = i
    · subst e
      rw [List.getElem_set_self] at hk
      rcases ht.new k hk with h1 | h1
      · exact h.new _ (List.getElem_mem hi) k h1
      · omega
    · rw [List.getElem_set_ne (Ne.symm e)] at hk; exact h.new _ (List.getElem_mem hj) k hk
  · have ha' : a < ps.length := by have := ha; rwa [List.length_set] at this
    have hb' : b < ps.length := by have := hb; rwa [List.length_set] at this
    by_cases e : a = i
    · subst e
      rw [List.getElem_set_self, List.getElem_set_ne (by omega)]
      exact fun k hk h2 => (key b hb' (by omega)).2 k h2 hk
    · rw [List.getElem_set_ne (Ne.symm e)]
      by_cases e2 : b = i
      · subst e2
        rw [List.getElem_set_self]
        exact (key a ha' e).2
      · rw [List.getElem_set_ne (Ne.symm e2)]
        exact hap a b ha' hb' hab
/-- a block that is no node's stays so -/
theorem Nds.free {ps : List Pl} {w w' : World} {i : Nat} (hi : i < ps.length) {N' : Nd} {X' : Nat → Prop} (ht : Tu ps[i].X X' w w') {b : Nat} (hb : b < w.heap.size) (hf : ∀ p ∈ ps, ¬ p.X b) : (∀ p ∈ ps.set i ⟨ps[i].nb, ps[i].bd, N', X'⟩, ¬ p.X b) ∧ w'.heap[b]? = w.heap[b]? := by
  have hs := ht.stay hb (hf _ (List.getElem_mem hi))
  refine ⟨fun p hp => ?_, hs.1⟩
  rcases List.mem_or_eq_of_mem_set hp with h | rfl
  · exact hf p h
  · exact hs.2
/-- the machines' nodes lie there -/
structure Lay (B : Nat) (w : World) (ps : List Pl) (T : List Bn) : Prop where
  nds : Nds B w ps
  len : ps.length = T.length
  each : ∀ (i : Nat) (hi : i < ps.length), ∃ S, ps[i].N = (at_ T i).P.nd S ∧ Rm S (at_ T i).r (at_ T i).k
  hB : B ≤ w.heap.size
theorem Lay.below {B : Nat} {w w' : World} {ps : List Pl} {T : List Bn} (h : Lay B w ps T) (hb : Below w.heap.size w w') : Lay B w' ps T := ⟨h.nds.below hb, h.len, h.each, Nat.le_trans h.hB hb.size⟩
theorem Lay.one {B : Nat} {w w' : World} {ps : List Pl} {T : List Bn} (h : Lay B w ps T) {i : Nat} (hi : i < ps.length) {Q : Bn} {S : St} {X' : Nat → Prop} (hN : ND w' ps[i].nb ps[i].bd (Q.P.nd S) X') (hR : Rm S Q.r Q.k) (ht : Tu ps[i].X X' w w') :
    Lay B w' (ps.set i ⟨ps[i].nb, ps[i].bd, Q.P.nd S, X'⟩) (T.set i Q) := by
  refine ⟨h.nds.one hi hN ht h.hB, by rw [List.length_set, List.length_set]; exact h.len, fun j hj => ?_, Nat.le_trans h.hB ht.size⟩
  rw [List.length_set] at hj
  have hT : i < T.length := by rw [← h.len]; exact hi
  by_cases e : j = i
  · subst e
    refine ⟨S, by rw [List.getElem_set_self]; unfold at_; rw [List.getD_eq_getElem?_getD, List.getElem?_set_self hT]; rfl, ?_⟩
    unfold at_; rw [List.getD_eq_getElem?_getD, List.getElem?_set_self hT]; exact hR
  · obtain ⟨S2, h1, h2⟩ := h.each j hj
    have ea : at_ (T.set i Q) j = at_ T j := by unfold at_; rw [List.getD_eq_getElem?_getD, List.getElem?_set_ne (Ne.symm e), ← List.getD_eq_getElem?_getD]
    exact ⟨S2, by rw [List.getElem_set_ne (Ne.symm e), ea]; exact h1, by rw [ea]; exact h2⟩
/-- blocks that are nobody's, as they are -/
abbrev KS := Nat → Option Obj → Prop
def KN : KS := fun _ _ => False
/-- .. and the row of them -/
structure DS (K : KS) (B : Nat) (w0 w : World) (a : Option Addr) (nbs : List Nat) (T : List Bn) (ps : List Pl) : Prop where
  lay : Lay B w ps T
  nb : ps.map Pl.nb = nbs
  row : Gk.Lies w qenc a nbs
  free : nbs ≠ [] → ∀ b off, a = some ⟨b, off, none⟩ → ∀ p ∈ ps, ¬ p.X b
  bel : Below B w0 w
  kept : ∀ b c, K b c → b < w.heap.size ∧ (∀ p ∈ ps, ¬ p.X b) ∧ w.heap[b]? = c
theorem DS.below {K : KS} {B : Nat} {w0 w w' : World} {a : Option Addr} {nbs : List Nat} {T : List Bn} {ps : List Pl} (h : DS K B w0 w a nbs T ps) (hb : Below w.heap.size w w') : DS K B w0 w' a nbs T ps := ⟨h.lay.below hb, h.nb, h.row.below hb, h.free, h.bel.trans (hb.mono h.lay.hB), fun b c hk => ⟨Nat.lt_of_lt_of_le (h.kept b c hk).1 hb.size, (h.kept b c hk).2.1, (hb.block b (h.kept b c hk).1).trans (h.kept b c hk).2.2⟩⟩
theorem DS.one {K : KS} {B : Nat} {w0 w w' : World} {a : Option Addr} {nbs : List Nat} {T : List Bn} {ps : List Pl} (h : DS K B w0 w a nbs T ps) {i : Nat} (hi : i < ps.length) {Q : Bn} {S : St} {X' : Nat → Prop} (hN : ND w' ps[i].nb ps[i].bd (Q.P.nd S) X') (hR : Rm S Q.r Q.k) (ht : Tu ps[i].X X' w w') :
    DS K B w0 w' a nbs (T.set i Q) (ps.set i ⟨ps[i].nb, ps[i].bd, Q.P.nd S, X'⟩) := by
  have hne : nbs ≠ [] := fun e => by
    have := congrArg List.length h.nb; rw [e, List.length_map] at this; have h0 : ps.length = 0 := this; omega
  refine ⟨h.lay.one hi hN hR ht, ?_, h.row.later (fun b off e hb => (Nds.free hi (N' := Q.P.nd S) ht hb (h.free hne b off e)).2) ht.size, fun _ b off e p hp => ?_, h.bel.trans (ht.below h.lay.hB (h.lay.nds.new _ (List.getElem_mem hi))).1, fun b c hk => ?_⟩
  · rw [List.map_set, ← h.nb]
    show (ps.map Pl.nb).set i ps[i].nb = _
    rw [show ps[i].nb = (ps.map Pl.nb)[i]'(by rw [List.length_map]; exact hi) by rw [List.getElem_map], List.set_getElem_self]
  · rcases h.row with h0 | ⟨b', off', e', hb', _⟩
    · exact absurd h0 hne
    · rw [e] at e'; cases e'
      exact (Nds.free hi (N' := Q.P.nd S) ht hb' (h.free hne b off e)).1 p hp
  · obtain ⟨k1, k2, k3⟩ := h.kept b c hk
    have hf := Nds.free hi (N' := Q.P.nd S) ht k1 k2
    exact ⟨Nat.lt_of_lt_of_le k1 ht.size, hf.1, hf.2.trans k3⟩
theorem drop3 {i : Nat} (h : i < 3) : [0, 1, 2].drop i = i :: [0, 1, 2].drop (i + 1) := by
  have : i = 0 ∨ i = 1 ∨ i = 2 := by omega
  rcases this with rfl | rfl | rfl <;> rfl
end Go.Proofs.YtmpahgklcabihaaGreat.Rf

namespace Go.Proofs.YtmpahgklcabihaaGreat.Rf
open Go.RowKit Go.Joins Go.Proofs.YtmpahgklcabihaaGreat.Gk
open Go.Proofs.YtmpahgklcabihaaGreat.Dk (St Bs)
open Go.Proofs.YtmpahgklcabihaaGreat.Rl (En Lo LH ER ptr blk own Tn eenc eenc_len agr nmb mcode May1)
open Go.Proofs.YtmpahgklcabihaaGreat.Ba (Bl BB Tu Es trn cst mgd DH DI Mk Rc frs cnf cnl)

abbrev lx (y : Nat × Lt) : Lx := ((y.1 : Int), y.2.text)
/-- a letter of node i comes -/
theorem come_any {K : KS} {B : Nat} {w0 : World} {a : Option Addr} {nbs : List Nat} {T : List Bn} {ps : List Pl} {i : Nat} {y : Nat × Lt} {al : Option Addr} {ls : List Lx} (w : World) (h : DS K B w0 w a nbs T ps) (hC : dlC T i y) (hl : Gk.Lies w lenc al ls) (hf : ls ≠ [] → ∀ b off, al = some ⟨b, off, none⟩ → ∀ p ∈ ps, ¬ p.X b) (nb : Nat) (hnb : nbs[y.1]? = some nb) :
    Calls Tryz.prog 23 #[ptr nb, .int .i64 i, .string y.2.text] w fun e w' => e = .returned (.int .i64 0) ∧ (w.heap.size ≤ w'.heap.size ∧ ∀ k, k < w.heap.size → (∀ p ∈ ps, ¬ p.X k) → w'.heap[k]? = w.heap[k]?) ∧ ∃ ps', DS K B w0 w' a nbs (dl1 T i y) ps' ∧ Gk.Lies w' lenc al ls ∧ (ls ≠ [] → ∀ b off, al = some ⟨b, off, none⟩ → ∀ p ∈ ps', ¬ p.X b) := by
  obtain ⟨c1, c2, c3, c4, c5⟩ := hC
  have hj : y.1 < ps.length := by rw [h.lay.len]; exact c1
  obtain ⟨S, e1, e2⟩ := h.lay.each y.1 hj
  have hN := h.lay.nds.each _ (List.getElem_mem hj)
  rw [e1] at hN
  have enb : ps[y.1].nb = nb := by
    have := h.nb
    rw [← this, List.getElem?_map, List.getElem?_eq_getElem hj] at hnb
    simpa using hnb
  rw [← enb]
  refine (Hear_run i y.2 w hN c3 e2 c4 c5).mono ?_
  rintro e w' ⟨rfl, S', hR', X', hN', ht'⟩
  refine ⟨rfl, ⟨ht'.size, fun k hk hf => (Nds.free hj (N' := ps[y.1].N) ht' hk hf).2⟩, _, h.one hj (Q := ⟨(at_ T y.1).P.hear i y.2, (at_ T y.1).r - (80 + y.2.sz), (at_ T y.1).k⟩) hN' (hR'.fresh e2.many.1) ht', ?_, ?_⟩
  · rcases Classical.em (ls = []) with h0 | h0
    · exact Or.inl h0
    · exact hl.later (fun b off e hb => (Nds.free hj (N' := ps[y.1].N) ht' hb (hf h0 b off e)).2) ht'.size
  · intro hne b off e p hp
    rcases hl with h0 | ⟨b', off', e', hb', _⟩
    · exact absurd h0 hne
    · rw [e] at e'; cases e'
      exact (Nds.free hj ht' hb' (hf hne b off e)).1 p hp
/-- node i's letters are taken -/
theorem took_any {K : KS} {B : Nat} {w0 : World} {a : Option Addr} {nbs : List Nat} {T : List Bn} {ps : List Pl} {i : Nat} (w : World) (h : DS K B w0 w a nbs T ps) (hi : i < T.length) (nb : Nat) (hnb : nbs[i]? = some nb) :
    Calls Tryz.prog 20 #[ptr nb] w fun e w' => ∃ al cl, e = .returned (.slice al (at_ T i).P.ls.length cl) ∧ ∃ ps', DS K B w0 w' a nbs (clr T i) ps' ∧ Gk.Lies w' lenc al ((at_ T i).P.ls.map lx) ∧ ((at_ T i).P.ls.map lx ≠ [] → ∀ b off, al = some ⟨b, off, none⟩ → ∀ p ∈ ps', ¬ p.X b) := by
  have hj : i < ps.length := by rw [h.lay.len]; exact hi
  obtain ⟨S, e1, e2⟩ := h.lay.each i hj
  have hN := h.lay.nds.each _ (List.getElem_mem hj)
  rw [e1] at hN
  have enb : ps[i].nb = nb := by
    have := h.nb
    rw [← this, List.getElem?_map, List.getElem?_eq_getElem hj] at hnb
    simpa using hnb
  rw [← enb]
  refine (Letters_any w hN).mono ?_
  rintro e w' ⟨al, cl, rfl, hl, hx, X', hN', ht', hnx⟩
  have hlen : ((at_ T i).P.nd S).ls.length = (at_ T i).P.ls.length := List.length_map _
  rw [hlen]
  have hap := List.pairwise_iff_getElem.1 h.lay.nds.apart
  refine ⟨al, cl, rfl, _, h.one hj (Q := ⟨{ (at_ T i).P with ls := [] }, (at_ T i).r, (at_ T i).k⟩) hN' e2 ht', hl, fun _ b off e p hp => ?_⟩
  obtain ⟨j, hj2, rfl⟩ := List.getElem_of_mem hp
  have hj3 : j < ps.length := by rwa [List.length_set] at hj2
  by_cases hji : j = i
  · subst hji
    rw [List.getElem_set_self]
    exact hnx b off e
  · rw [List.getElem_set_ne (Ne.symm hji)]
    intro hX
    have hb := (hx b off e).1
    rcases Nat.lt_or_ge j i with hl | hl
    · exact hap j i hj3 hj hl b hX hb
    · exact hap i j hj hj3 (by omega) b hb hX
end Go.Proofs.YtmpahgklcabihaaGreat.Rf

namespace Go.Proofs.YtmpahgklcabihaaGreat.Rf
open Go.RowKit Go.Joins Go.Proofs.YtmpahgklcabihaaGreat.Gk
open Go.Proofs.YtmpahgklcabihaaGreat.Dk (St Bs)
open Go.Proofs.YtmpahgklcabihaaGreat.Rl (En Lo LH ER ptr blk own Tn eenc eenc_len agr nmb mcode May1)
open Go.Proofs.YtmpahgklcabihaaGreat.Ba (Bl BB Tu Es trn cst mgd DH DI Mk Rc frs cnf cnl)

def bit : Value → Nat
  | .bool true => 1
  | _ => 0
theorem bit_le (v : Value) : bit v ≤ 1 := by unfold bit; split <;> omega
theorem dec_next {m k : Nat} (h : m ≤ k) : decide (m < k + 1) = true := by simp; omega
/-- a letter in its box, and its node's place -/
structure SD (x b o nbt : Nat) (to : Int) (d : ByteArray) (W : World) : Prop where
  c0 : W.cell? ⟨x, 0, none⟩ = some (.int .i64 to)
  c1 : W.cell? ⟨x, 1, none⟩ = some (.string d)
  cr : W.cell? ⟨b, o, none⟩ = some (ptr nbt)
  x1 : x < W.heap.size
  b1 : b < W.heap.size
theorem SD.below {x b o nbt : Nat} {to : Int} {d : ByteArray} {W W' : World} (h : SD x b o nbt to d W) (hb : Below W.heap.size W W') : SD x b o nbt to d W' :=
  ⟨(World.cell?_of_block (a := ⟨x, 0, none⟩) (hb.block x h.x1)).trans h.c0, (World.cell?_of_block (a := ⟨x, 1, none⟩) (hb.block x h.x1)).trans h.c1, (World.cell?_of_block (a := ⟨b, o, none⟩) (hb.block b h.b1)).trans h.cr, Nat.lt_of_lt_of_le h.x1 hb.size, Nat.lt_of_lt_of_le h.b1 hb.size⟩
theorem SD.free {x b o nbt : Nat} {to : Int} {d : ByteArray} {W W' : World} (h : SD x b o nbt to d W) (hz : W.heap.size ≤ W'.heap.size) (hx : W'.heap[x]? = W.heap[x]?) (hb : W'.heap[b]? = W.heap[b]?) : SD x b o nbt to d W' :=
  ⟨(World.cell?_of_block (a := ⟨x, 0, none⟩) hx).trans h.c0, (World.cell?_of_block (a := ⟨x, 1, none⟩) hx).trans h.c1, (World.cell?_of_block (a := ⟨b, o, none⟩) hb).trans h.cr, Nat.lt_of_lt_of_le h.x1 hz, Nat.lt_of_lt_of_le h.b1 hz⟩
theorem SD.drew {x b o nbt : Nat} {to : Int} {d : ByteArray} {W : World} (h : SD x b o nbt to d W) : SD x b o nbt to d W.drew := h.below (Below.refl _ _).drew
abbrev SDp (x b o nbt : Nat) (to : Int) (d : ByteArray) (W : World) : Prop := ((W.cell? ⟨x, 0, none⟩ = some (.int .i64 to) ∧ W.cell? ⟨x, 1, none⟩ = some (.string d)) ∧ W.cell? ⟨b, o, none⟩ = some (ptr nbt)) ∧ SD x b o nbt to d W
theorem SDp.of {x b o nbt : Nat} {to : Int} {d : ByteArray} {W : World} (h : SD x b o nbt to d W) : SDp x b o nbt to d W := ⟨⟨⟨h.c0, h.c1⟩, h.cr⟩, h⟩
set_option maxRecDepth 100000 in
set_option maxHeartbeats 8000000 in
theorem deliver_any {K : KS} (a : Option Addr) (cap : Nat) (nbs : List Nat) (B : Nat) (w0 w : World) (T : List Bn) (ps : List Pl) (f : Nat) (Tf : List Bn) (h : DS K B w0 w a nbs T ps) (h3 : T.length = 3) (hn3 : nbs.length = 3) (hd : deliverF f 0 T = some Tf) :
    Calls Tryz.prog 22 #[.slice a 3 cap] w fun e w' => e = .returned (.bool true) ∧ ∃ ps', DS K B w0 w' a nbs Tf ps' := by
  go_enter Tryz.func22, Tryz.ntmps22
  go_wp2
  go_loopw [3, 4] (fun nv bv wr => ∃ (f m : Nat) (T : List Bn) (ps : List Pl), nv = .int .i64 m ∧ m ≤ 4000 ∧ DS K B w0 wr a nbs T ps ∧ T.length = 3 ∧ ((bv = .bool true ∧ deliverF f m T = some Tf) ∨ (bv = .bool false ∧ T = Tf))) (fun nv bv _ => 2 * (500 - (intOf nv).toNat) + bit bv)
  case atStart => exact ⟨f, 0, T, ps, rfl, by omega, h, h3, Or.inl ⟨rfl, hd⟩⟩
  case round =>
    clear hd h h3
    obtain ⟨f, m, T, ps, rfl, hm, hDS, h3, hcase⟩ := hrel
    rcases hcase with ⟨rfl, hd⟩ | ⟨rfl, hT⟩
    · cases f with
      | zero => exact absurd hd (by simp [deliverF])
      | succ f =>
      unfold deliverF at hd
      by_cases h5 : 500 ≤ m
      · rw [if_pos h5] at hd
        have hd' : T = Tf := by simpa using hd
        have g : ¬ (m : Int) < 500 := by omega
        subst hd'
        go_wp2
        go_ret
        exact ⟨rfl, ps, hDS⟩
      · rw [if_neg h5] at hd
        have g : (m : Int) < 500 := by omega
        have HD := hide hDS
        obtain ⟨R, hR⟩ : ∃ R, passF [0, 1, 2] T m = R := ⟨_, rfl⟩
        rw [hR] at hd
        obtain _ | ⟨T', m'⟩ := R
        · exact absurd hd (by simp)
        dsimp only at hd
        have HR := hide hR
        have HD2 := hide hd
        have HT3 := hide h3
        clear hDS hR hd h3
        go_wp2
        go_loopw [3, 4, 16] (fun nv bv iv wz => ∃ (i m1 : Nat) (T1 : List Bn) (ps1 : List Pl), i ≤ 3 ∧ nv = .int .i64 m1 ∧ bv = .bool (decide (m < m1)) ∧ iv = .int .i64 i ∧ m ≤ m1 ∧ m1 ≤ m + 1000 * i ∧ DS K B w0 wz a nbs T1 ps1 ∧ T1.length = 3 ∧ passF ([0, 1, 2].drop i) T1 m1 = some (T', m')) (fun _ _ iv _ => 3 - (intOf iv).toNat)
        case atStart => exact ⟨0, m, T, ps, by omega, rfl, by simp, rfl, by omega, by omega, HD.out, HT3.out, HR.out⟩
        case round =>
          clear HD HR HT3
          obtain ⟨i, m1, T1, ps1, hi, rfl, rfl, rfl, hm1, hm2, hD1, hT1, hp⟩ := hrel
          by_cases hlt : i < 3
          · rw [drop3 hlt] at hp
            unfold passF at hp
            by_cases hle : (at_ T1 i).P.ls.length ≤ 1000
            case neg => rw [if_neg hle] at hp; exact absurd hp (by simp)
            rw [if_pos hle] at hp
            obtain ⟨R2, hR2⟩ : ∃ R2, dlF i (at_ T1 i).P.ls (clr T1 i) m1 = R2 := ⟨_, rfl⟩
            rw [hR2] at hp
            obtain _ | ⟨T2, m2⟩ := R2
            · exact absurd hp (by simp)
            dsimp only at hp
            obtain ⟨b, off, rfl, hbl, hc⟩ := hD1.row.at qenc_len i (by rw [hn3]; exact hlt)
            have c0 := hc 0 _ rfl
            rw [Nat.mul_one, Nat.add_zero] at c0
            have HTk := hide (took_any wr hD1 (by omega) nbs[i] (List.getElem?_eq_getElem (by rw [hn3]; exact hlt)))
            have hcl : (clr T1 i).length = 3 := by unfold clr; rw [List.length_set]; exact hT1
            obtain ⟨ls, hls⟩ : ∃ ls, (at_ T1 i).P.ls = ls := ⟨_, rfl⟩
            rw [hls] at HTk hR2 hle
            generalize clr T1 i = T3 at *
            generalize hnb : nbs[i] = nb at *
            have i1 : (0 : Int) ≤ (i : Int) := by omega
            have i2 : (i : Int) < 3 := by omega
            have HP := hide hp
            have HL := hide (And.intro hR2 hcl)
            clear hc hD1 hp hR2 hcl hT1 hls hnb
            go_wp2_with fail
            refine HTk.out.mono ?_
            clear HTk
            rintro e w2 ⟨al, cl, rfl, ps2, hD2, hl2, hx2⟩
            have HD3 := hide (And.intro hD2 (And.intro hl2 hx2))
            clear hD2 hl2 hx2 c0
            go_wp2
            go_loopw [3, 4, 24] (fun nv bv jv wq => ∃ (j : Nat) (T3 : List Bn) (ps3 : List Pl), j ≤ ls.length ∧ nv = .int .i64 ((m1 + j : Nat) : Int) ∧ bv = .bool (decide (m < m1 + j)) ∧ jv = .int .i64 j ∧ DS K B w0 wq (some ⟨b, off, none⟩) nbs T3 ps3 ∧ T3.length = 3 ∧ dlF i (ls.drop j) T3 (m1 + j) = some (T2, m2) ∧ Gk.Lies wq lenc al (ls.map lx) ∧ (ls.map lx ≠ [] → ∀ b off, al = some ⟨b, off, none⟩ → ∀ p ∈ ps3, ¬ p.X b)) (fun _ _ jv _ => ls.length - (intOf jv).toNat)
            case atStart => exact ⟨0, T3, ps2, by omega, rfl, rfl, rfl, HD3.out.1, HL.out.2, HL.out.1, HD3.out.2.1, HD3.out.2.2⟩
            case round =>
              clear HD3 HL
              obtain ⟨j, T4, ps4, hj, rfl, rfl, rfl, hD4, hT4, hdl, hl4, hx4⟩ := hrel
              by_cases hlt2 : j < ls.length
              · rw [List.drop_eq_getElem_cons hlt2] at hdl
                unfold dlF at hdl
                by_cases hC : dlC T4 i ls[j]
                case neg => rw [if_neg hC] at hdl; exact absurd hdl (by simp)
                rw [if_pos hC] at hdl
                have hto : ls[j].1 < nbs.length := by have := hC.1; omega
                obtain ⟨b', off', e1, hbl', hcr⟩ := hD4.row.at qenc_len ls[j].1 hto
                cases e1
                have cr := hcr 0 _ rfl
                rw [Nat.mul_one, Nat.add_zero] at cr
                obtain ⟨b2, off2, rfl, hbl2, hc⟩ := hl4.at lenc_len j (by rw [List.length_map]; exact hlt2)
                have c0 := hc 0 _ rfl
                have c1 := hc 1 _ rfl
                rw [Nat.add_zero] at c0
                rw [List.getElem_map] at c0 c1
                have hne := hC.2.1
                have HX : Hid ((∀ p ∈ ps4, ¬ p.X wr.heap.size) ∧ ∀ p ∈ ps4, ¬ p.X b) := hide ⟨fun p hp hk => Nat.lt_irrefl _ ((hD4.lay.nds.each p hp).lt hk), hD4.free (by intro e; rw [e] at hn3; cases hn3) b off rfl⟩
                have HCm := hide (fun (W : World) (hb : Below wr.heap.size wr W) => come_any W (hD4.below hb) hC (hl4.below hb) hx4 nbs[ls[j].1] (List.getElem?_eq_getElem hto))
                obtain ⟨nbt, hnbt⟩ : ∃ nbt, nbs[ls[j].1] = nbt := ⟨_, rfl⟩
                rw [hnbt] at cr HCm
                obtain ⟨y, hy⟩ : ∃ y, ls[j] = y := ⟨_, rfl⟩
                have hd1l : (dl1 T4 i ls[j]).length = 3 := by unfold dl1; rw [List.length_set]; exact hT4
                rw [hy] at c0 c1 cr HCm hne hdl hto hd1l
                have hY := hide hy
                clear hnbt
                have HN := hide (And.intro hdl hd1l)
                have hWq := hD4.lay.hB
                have g1 : ¬ (y.1 : Int) < 0 := by omega
                have g2 : ¬ (3 : Int) ≤ (y.1 : Int) := by omega
                have g3 : ((y.1 : Int) == (i : Int)) = false := beq_eq_false_iff_ne.2 (by omega)
                have j1 : (0 : Int) ≤ (j : Int) := by omega
                have j2 : (j : Int) < (ls.length : Int) := by omega
                have y1 : (0 : Int) ≤ (y.1 : Int) := by omega
                have y2 : (y.1 : Int) < 3 := by omega
                clear hc hcr hD4 hdl hC hl4 hx4 hy hd1l hT4
                obtain ⟨to, lt⟩ := y
                dsimp only at *
                go_upto_region 11 with fail
                have hbA := below_alloc1 wr (Obj.cells #[.int .i64 (to : Int), .string lt.text] LtrT)
                have hS0 : SD wr.heap.size b (off + to) nbt to lt.text (wr.alloc (Obj.cells #[.int .i64 (to : Int), .string lt.text] LtrT)) := by
                  refine ⟨cell_of_block (heap_alloc_new wr _) 0, cell_of_block (heap_alloc_new wr _) 1, ?_, by simp, by simp; omega⟩
                  rw [← cr]
                  exact World.cell?_of_block (a := ⟨b, off + to, none⟩) (hbA.block b hbl')
                have HC2 : Hid (∀ W, Below (wr.alloc (Obj.cells #[.int .i64 (to : Int), .string lt.text] LtrT)).heap.size (wr.alloc (Obj.cells #[.int .i64 (to : Int), .string lt.text] LtrT)) W → Calls Tryz.prog 23 #[ptr nbt, .int .i64 i, .string lt.text] W fun e w' => e = .returned (.int .i64 0) ∧ SDp wr.heap.size b (off + to) nbt to lt.text w' ∧ ∃ ps', DS K B w0 w' (some ⟨b, off, none⟩) nbs (dl1 T4 i (to, lt)) ps' ∧ Gk.Lies w' lenc (some ⟨b2, off2, none⟩) (ls.map lx) ∧ (ls.map lx ≠ [] → ∀ b off, (some ⟨b2, off2, none⟩ : Option Addr) = some ⟨b, off, none⟩ → ∀ p ∈ ps', ¬ p.X b)) := hide (by
                  intro W hb
                  refine (HCm.out W (hbA.trans (hb.mono hbA.size))).mono ?_
                  rintro e w' ⟨rfl, ⟨hsz, hfr⟩, hrest⟩
                  refine ⟨rfl, SDp.of ((hS0.below hb).free hsz (hfr _ (hS0.below hb).x1 HX.out.1) (hfr _ (hS0.below hb).b1 HX.out.2)), hrest⟩)
                clear HCm HX
                generalize wr.alloc (Obj.cells #[.int .i64 (to : Int), .string lt.text] LtrT) = W1 at *
                generalize wr.heap.size = x at *
                clear hbA
                have HSx := hide hS0
                have hS := SDp.of hS0
                clear c0 c1 cr hS0 hWq hbl hbl' hbl2
                go_region_held3 (SDp x b (off + to) nbt to lt.text) (first | with_reducible exact SDp.of (SD.drew (And.right (by assumption))) | with_reducible assumption)
                  (first | (go_at_call 23; refine (HC2.out _ (by first | exact Below.refl _ _ | exact (Below.refl _ _).drew | exact (Below.refl _ _).drew.drew)).mono ?_; rintro e w3 ⟨rfl, hS3, ps5, hD5, hl5, hx5⟩))
                all_goals
                  have HF := hide (And.intro hD5 (And.intro hl5 hx5))
                  clear hD5 hl5 hx5 hS3 HSx hS
                  go_wp2
                  go_roundw
                  case rel =>
                    have ej : m1 + (j + 1) = m1 + j + 1 := by omega
                    refine ⟨j + 1, dl1 T4 i (to, lt), ps5, by omega, ?_, ?_, by go_num, HF.out.1, HN.out.2, by rw [ej]; exact HN.out.1, HF.out.2.1, HF.out.2.2⟩
                    · go_num
                    · rw [ej, dec_next (by omega)]
                  case measure => simp [intOf]; omega
              · obtain rfl : j = ls.length := by omega
                rw [List.drop_length] at hdl
                cases hdl
                go_wp2
                go_roundw
                case rel => exact ⟨i + 1, _, _, ps4, by omega, rfl, rfl, by go_num, by omega, by omega, hD4, hT4, HP.out⟩
                case measure => simp [intOf]; omega
          · obtain rfl : i = 3 := by omega
            have hp2 : some (T1, m1) = some (T', m') := hp
            cases hp2
            go_wp2
            go_roundw
            case rel =>
              by_cases hmm : m' = m
              · have h2 := HD2.out
                rw [if_pos hmm] at h2
                cases h2
                exact ⟨f, _, _, ps1, rfl, by omega, hD1, hT1, Or.inr ⟨by simp [hmm], rfl⟩⟩
              · have h2 := HD2.out
                rw [if_neg hmm] at h2
                exact ⟨f, _, _, ps1, rfl, by omega, hD1, hT1, Or.inl ⟨by simp; omega, h2⟩⟩
            case measure =>
              have hb := bit_le (.bool (decide (m < m')))
              show 2 * (500 - (m' : Int).toNat) + bit (.bool (decide (m < m'))) < 2 * (500 - (m : Int).toNat) + 1
              by_cases hmm : m' = m
              · subst hmm
                rw [decide_eq_false (Nat.lt_irrefl m')]
                show _ + 0 < _; omega
              · omega
    · subst hT
      go_wp2
      go_ret
      exact ⟨rfl, ps, hDS⟩
end Go.Proofs.YtmpahgklcabihaaGreat.Rf

namespace Go.Proofs.YtmpahgklcabihaaGreat.Rf
open Go.RowKit Go.Joins Go.Proofs.YtmpahgklcabihaaGreat.Gk
open Go.Proofs.YtmpahgklcabihaaGreat.Dk (St Bs)
open Go.Proofs.YtmpahgklcabihaaGreat.Rl (En Lo LH ER ptr blk own Tn eenc eenc_len agr nmb mcode May1)
open Go.Proofs.YtmpahgklcabihaaGreat.Ba (Bl BB Tu Es trn cst mgd DH DI Mk)

/-- three of a node's cells -/
structure ST3 (nb bl : Nat) (c t : Int) (w W : World) : Prop where
  c3 : W.cell? ⟨nb, 3, none⟩ = some (ptr bl)
  c7 : W.cell? ⟨nb, 7, none⟩ = some (.int .i64 c)
  c8 : W.cell? ⟨nb, 8, none⟩ = some (.int .i64 t)
  lt : nb < W.heap.size
  bel : Below w.heap.size w W
theorem ST3.call {nb bl : Nat} {c t : Int} {w a b : World} (hb : Below a.heap.size a b) (h : ST3 nb bl c t w a) : ST3 nb bl c t w b := by
  have hc : ∀ j, b.cell? ⟨nb, j, none⟩ = a.cell? ⟨nb, j, none⟩ := fun j => hb.cell (p := ⟨nb, j, none⟩) h.lt
  exact ⟨(hc 3).trans h.c3, (hc 7).trans h.c7, (hc 8).trans h.c8, Nat.lt_of_lt_of_le h.lt hb.size, h.bel.trans (hb.mono h.bel.size)⟩
theorem ST3.callB {nb bl : Nat} {c t : Int} {w a b : World} (hb : Below w.heap.size a b) (hz : a.heap.size ≤ b.heap.size) (h : ST3 nb bl c t w a) (hn : nb < w.heap.size) : ST3 nb bl c t w b := by
  have hc : ∀ j, b.cell? ⟨nb, j, none⟩ = a.cell? ⟨nb, j, none⟩ := fun j => hb.cell (p := ⟨nb, j, none⟩) hn
  exact ⟨(hc 3).trans h.c3, (hc 7).trans h.c7, (hc 8).trans h.c8, Nat.lt_of_lt_of_le h.lt hz, h.bel.trans hb⟩
abbrev ST (nb bl : Nat) (c t : Int) (w W : World) : Prop := (W.cell? ⟨nb, 3, none⟩ = some (ptr bl) ∧ W.cell? ⟨nb, 7, none⟩ = some (.int .i64 c) ∧ W.cell? ⟨nb, 8, none⟩ = some (.int .i64 t)) ∧ ST3 nb bl c t w W
theorem ST.of {nb bl : Nat} {c t : Int} {w W : World} (h : ST3 nb bl c t w W) : ST nb bl c t w W := ⟨⟨h.c3, h.c7, h.c8⟩, h⟩
theorem ST.drew {nb bl : Nat} {c t : Int} {w a : World} (h : ST3 nb bl c t w a) : ST3 nb bl c t w a.drew := h.call (Below.refl _ _).drew
section
variable {nb bd : Nat} {N : Nd} {X : Nat → Prop}
/-- what is taken -/
def tkn (es : List En) (t : Nat) (c most : Int) : List En := (es.drop t).take (min (min most (c - (t : Int))).toNat (es.length - t))
set_option maxRecDepth 100000 in
set_option maxHeartbeats 4000000 in
theorem Taken_ok (most : Int) (t : Nat) (w : World) (h : ND w nb bd N X) (hok : N.Ok) (h0 : 0 ≤ most) (ht : N.tk = t) (h1 : t ≤ N.s.es.length) (h2 : (t : Int) ≤ N.cm) (h3 : N.cm ≤ 1073741824) :
    Calls Tryz.prog 19 #[ptr nb, .int .i64 most] w fun e w' => ∃ a cap, e = .returned (.tuple #[.slice a (tkn N.s.es t N.cm most).length cap, .int .i64 0]) ∧ ER w' (.slice a (tkn N.s.es t N.cm most).length cap) (tkn N.s.es t N.cm most) ∧
      ∃ X', ND w' nb bd { N with tk := (t : Int) + (tkn N.s.es t N.cm most).length } X' ∧ Tu X X' w w' ∧ ∀ g, blk (.slice a (tkn N.s.es t N.cm most).length cap) = some g → w.heap.size ≤ g ∧ ¬ X' g := by
  have hm := hok.many
  have hesE := hok.bal.es (by omega)
  obtain ⟨bb, bl, pb, v, lv, Y, hH, rfl⟩ := h
  have c3 := hH.c 3
  have c7 := hH.c 7
  have c8 : w.cell? ⟨nb, 8, none⟩ = some (.int .i64 (t : Int)) := by rw [← ht]; exact hH.c 8
  have ew1 : IntKind.i64.wrap ((t : Int) + 1) = (t : Int) + 1 := by rw [Ba.wrap_in (by omega) (by omega)]
  have ew2 : IntKind.i64.wrap (N.cm - (t : Int)) = N.cm - (t : Int) := by rw [Ba.wrap_in (by omega) (by omega)]
  have hmin := run_min most (N.cm - (t : Int))
  obtain ⟨mm, hmm⟩ : ∃ mm, min most (N.cm - (t : Int)) = mm := ⟨_, rfl⟩
  unfold tkn
  rw [hmm] at hmin ⊢
  have HS := hide (fun W (hb : Below w.heap.size w W) => (Rl.Slice_ok bl ⟨0, 0, N.s.es⟩ v t mm (by omega) W (hH.log.below hb) (by show 0 + N.s.es.length ≤ _; omega) h1 hesE.ds).mono (fun r w' (h : ∃ v', r = .returned (.tuple #[v', .int .i64 0]) ∧ ER w' v' ((N.s.es.drop t).take (min mm.toNat (N.s.es.length - t))) ∧ (∀ g, blk v' = some g → W.heap.size ≤ g) ∧ Below W.heap.size W w') => show ∃ v', r = .returned (.tuple #[v', .int .i64 0]) ∧ ER w' v' ((N.s.es.drop t).take (min mm.toNat (N.s.es.length - t))) ∧ (∀ g, blk v' = some g → w.heap.size ≤ g) ∧ Below W.heap.size W w' from by
    obtain ⟨v', h1, h2, h3, h4⟩ := h
    exact ⟨v', h1, h2, fun g hg => Nat.le_trans hb.size (h3 g hg), h4⟩))
  rw [show ((0 + 1 + t : Nat) : Int) = (t : Int) + 1 by omega] at HS
  have hlen : ((N.s.es.drop t).take (min mm.toNat (N.s.es.length - t))).length ≤ 1000000 := by rw [List.length_take, List.length_drop]; omega
  generalize (N.s.es.drop t).take (min mm.toNat (N.s.es.length - t)) = L at *
  have ew3 : IntKind.i64.wrap ((t : Int) + (L.length : Int)) = (t : Int) + (L.length : Int) := by rw [Ba.wrap_in (by omega) (by omega)]
  have HC := hide (fun W (hb : Below w.heap.size w W) => (hH.below hb).1)
  have HNO := hide (fun W (hb : Below w.heap.size w W) => (hH.below hb).2)
  have HLT := hide (fun k (hk : no w nb bl pb lv Y k) => hH.olt hk)
  have HC8 := hide (fun W (hb : Below w.heap.size w W) => (hb.cell (p := ⟨nb, 8, none⟩) hH.nlt).trans c8)
  have hS0 := ST.of ⟨c3, c7, c8, hH.nlt, Below.refl w.heap.size w⟩
  clear hH hmm hesE
  go_enter Tryz.func19, Tryz.ntmps19
  go_upto_region 3 with fail
  go_region_held3 (ST nb bl N.cm (t : Int) w) (first | with_reducible exact ST.of (ST.drew (And.right (by assumption))) | with_reducible exact ST.of (ST3.call (by assumption) (And.right (by assumption))) | with_reducible assumption)
    (first | (go_at_call 45; refine (HS.out _ (by first | exact Below.refl _ _ | exact (Below.refl _ _).drew | exact (Below.refl _ _).drew.drew | exact (Below.refl _ _).drew.drew.drew)).mono ?_; rintro e w1 ⟨v1, rfl, hE, hnw, hb1⟩; obtain ⟨a, cap, rfl, _⟩ := hE.slice))
  all_goals
    have hf : ST nb bl N.cm (t : Int) w w1 := by assumption
    have hbw := hf.2.bel
    have q8 := hf.2.c8
    have z8 := (HC.out w1 hbw).fz 8
    obtain ⟨hH1, ht1⟩ := (HC.out w1 hbw).set 8 (.int .i64 ((t : Int) + (L.length : Int))) { N with tk := (t : Int) + (L.length : Int) } rfl rfl rfl rfl rfl
    have hno := HNO.out w1 hbw
    have hE2 : ER (w1.setCell ⟨nb, 8, none⟩ (.int .i64 ((t : Int) + (L.length : Int)))) (.slice a L.length cap) L := hE.stay fun g hg => Below.heap_setCell w1 ⟨nb, 8, none⟩ _ g (by
      show g ≠ nb
      have h1 := hnw g hg
      have h2 := HLT.out nb (Or.inr (Or.inl rfl))
      omega)
    have hg2 : ∀ g, blk (.slice a L.length cap) = some g → w.heap.size ≤ g ∧ ¬ no (w1.setCell ⟨nb, 8, none⟩ (.int .i64 ((t : Int) + (L.length : Int)))) nb bl pb lv Y g := fun g hg => by
      have h1 := hnw g hg
      have h2 : g < w1.heap.size := hE.lt hg
      refine ⟨h1, fun hn => ?_⟩
      rcases ht1.new g hn with h3 | h3
      · rw [hno] at h3; have := HLT.out g h3; omega
      · omega
    rw [hno] at ht1
    have HF := hide (And.intro hH1 (And.intro ((Tu.of_below hbw).trans ht1) (And.intro hE2 hg2)))
    clear hH1 ht1 hno hE2 hg2 hE hnw hbw hf
    go_wp2
    go_ret2
    exact ⟨a, cap, rfl, HF.out.2.2.1, _, HF.out.1.pack, HF.out.2.1, HF.out.2.2.2⟩
end
end Go.Proofs.YtmpahgklcabihaaGreat.Rf

namespace Go.Proofs.YtmpahgklcabihaaGreat.Rf
open Go.RowKit Go.Joins Go.Proofs.YtmpahgklcabihaaGreat.Gk
open Go.Proofs.YtmpahgklcabihaaGreat.Dk (St Bs)
open Go.Proofs.YtmpahgklcabihaaGreat.Rl (En Lo LH ER ptr blk own Tn eenc eenc_len agr nmb mcode May1)
open Go.Proofs.YtmpahgklcabihaaGreat.Ba (Bl BB Tu Es trn cst mgd DH DI Mk Rc frs cnf cnl)

def tr0 : List Bn := [⟨Pn.new 0 3 2, 262144, 60⟩, ⟨Pn.new 1 3 2, 262144, 60⟩, ⟨Pn.new 2 3 2, 262144, 60⟩]
/-- a tick, a proposal -/
def tk1 (T : List Bn) (i : Nat) : List Bn := T.set i ⟨(at_ T i).P.tick, (at_ T i).r - 120, (at_ T i).k⟩
def pr1 (T : List Bn) (i : Nat) (d : ByteArray) : List Bn := T.set i ⟨(at_ T i).P.extend d, (at_ T i).r - (40 + d.size), (at_ T i).k⟩
def tkC (T : List Bn) (i : Nat) : Prop := (at_ T i).P.tickC ∧ 3 ≤ (at_ T i).k ∧ 120 ≤ (at_ T i).r
instance (T : List Bn) (i : Nat) : Decidable (tkC T i) := by unfold tkC; infer_instance
def prC (T : List Bn) (i : Nat) (d : ByteArray) : Prop := (at_ T i).P.may ∧ (at_ T i).P.role = 2 ∧ 1 ≤ (at_ T i).P.s.t ∧ d.size ≤ 4096 ∧ 1 ≤ (at_ T i).k ∧ 40 + d.size ≤ (at_ T i).r
instance (T : List Bn) (i : Nat) (d : ByteArray) : Decidable (prC T i d) := by unfold prC; infer_instance
abbrev tr1 : List Bn := tk1 tr0 0
abbrev tr2 : List Bn := tk1 tr1 0
def tr3 : List Bn := (deliverF 20 0 tr2).getD []
def tr4 : List Bn := pr1 tr3 0 ⟨#[97]⟩
def tr5 : List Bn := (deliverF 20 0 tr4).getD []
theorem w1 : tkC tr0 0 := by decide +kernel
theorem w2 : tkC tr1 0 := by decide +kernel
theorem w3 : (deliverF 20 0 tr2).isSome = true := by decide +kernel
theorem w4 : (at_ tr2 0).P.role = 1 ∧ (at_ tr2 0).P.s.t = 1 := by decide +kernel
theorem w5 : (at_ tr3 0).P.role = 2 ∧ (at_ tr3 0).P.s.t = 1 ∧ (at_ tr3 0).P.ldr = 0 ∧ (at_ tr3 0).P.cm = 1 ∧ (at_ tr3 0).P.s.es.length = 1 := by decide +kernel
theorem w6 : prC tr3 0 ⟨#[97]⟩ := by decide +kernel
theorem w7 : (deliverF 20 0 tr4).isSome = true := by decide +kernel
theorem w8 : (at_ tr5 0).P.may ∧ (at_ tr5 0).P.tk = 0 ∧ (at_ tr5 0).P.cm = 2 ∧ (at_ tr5 0).P.s.es.length = 2 := by decide +kernel
theorem w9 : tkn (at_ tr5 0).P.s.es 0 2 9 = [⟨1, ⟨#[]⟩⟩, ⟨1, ⟨#[97]⟩⟩] := by kernel_rfl
theorem len0 : tr0.length = 3 ∧ tr2.length = 3 ∧ tr3.length = 3 ∧ tr4.length = 3 ∧ tr5.length = 3 := by decide +kernel
section
variable {K : KS} {B : Nat} {w0 : World} {a : Option Addr} {nbs : List Nat} {T : List Bn} {ps : List Pl} {i nb : Nat}
theorem DS.hi (w : World) (h : DS K B w0 w a nbs T ps) (hnb : nbs[i]? = some nb) : ∃ hj : i < ps.length, ps[i].nb = nb ∧ ∃ S, ps[i].N = (at_ T i).P.nd S ∧ Rm S (at_ T i).r (at_ T i).k ∧ ND w ps[i].nb ps[i].bd ((at_ T i).P.nd S) ps[i].X := by
  have h1 := h.nb
  rw [← h1, List.getElem?_map] at hnb
  have hj : i < ps.length := by
    rcases Nat.lt_or_ge i ps.length with h2 | h2
    · exact h2
    · rw [List.getElem?_eq_none h2] at hnb; cases hnb
  rw [List.getElem?_eq_getElem hj] at hnb
  obtain ⟨S, e1, e2⟩ := h.lay.each i hj
  have hN := h.lay.nds.each _ (List.getElem_mem hj)
  rw [e1] at hN
  exact ⟨hj, by simpa using hnb, S, e1, e2, hN⟩
theorem tick_ds (w : World) (h : DS K B w0 w a nbs T ps) (hC : tkC T i) (hnb : nbs[i]? = some nb) :
    Calls Tryz.prog 18 #[ptr nb] w fun e w' => e = .returned (.int .i64 0) ∧ ∃ ps', DS K B w0 w' a nbs (tk1 T i) ps' := by
  obtain ⟨hj, rfl, S, e1, e2, hN⟩ := h.hi w hnb
  refine (Tick_run w hN hC.1 e2 hC.2.1 hC.2.2).mono ?_
  rintro e w' ⟨rfl, S', hR', X', hN', ht'⟩
  exact ⟨rfl, _, h.one hj (Q := ⟨(at_ T i).P.tick, (at_ T i).r - 120, (at_ T i).k⟩) hN' (hR'.fresh e2.many.1) ht'⟩
theorem prop_ds (d : ByteArray) (w : World) (h : DS K B w0 w a nbs T ps) (hC : prC T i d) (hnb : nbs[i]? = some nb) :
    Calls Tryz.prog 16 #[ptr nb, .string d] w fun e w' => e = .returned (.tuple #[.int .i64 (((at_ T i).P.s.es.length + 1 : Nat) : Int), .int .i64 0]) ∧ ∃ ps', DS K B w0 w' a nbs (pr1 T i d) ps' := by
  obtain ⟨hj, rfl, S, e1, e2, hN⟩ := h.hi w hnb
  obtain ⟨c1, c2, c3, c4, c5, c6⟩ := hC
  refine (Propose_run d w hN c1 c2 c3 c4 e2 c5 c6).mono ?_
  rintro e w' ⟨rfl, S', hR', X', hN', ht'⟩
  exact ⟨rfl, _, h.one hj (Q := ⟨(at_ T i).P.extend d, (at_ T i).r - (40 + d.size), (at_ T i).k⟩) hN' (hR'.fresh e2.many.1) ht'⟩
theorem state_ds (w : World) (h : DS K B w0 w a nbs T ps) (hnb : nbs[i]? = some nb) :
    Calls Tryz.prog 17 #[ptr nb] w fun e w' => e = .returned (.tuple #[.int .i64 (at_ T i).P.role, .int .i64 (at_ T i).P.s.t, .int .i64 (at_ T i).P.ldr, .int .i64 (at_ T i).P.cm]) ∧ DS K B w0 w' a nbs T ps := by
  obtain ⟨hj, rfl, S, e1, e2, hN⟩ := h.hi w hnb
  refine (State_any w hN).mono ?_
  rintro e w' ⟨rfl, hb⟩
  exact ⟨rfl, h.below hb⟩
/-- entries are taken -/
def tn1 (T : List Bn) (i : Nat) (most : Int) : List Bn := T.set i ⟨{ (at_ T i).P with tk := (at_ T i).P.tk + (tkn (at_ T i).P.s.es (at_ T i).P.tk (at_ T i).P.cm most).length }, (at_ T i).r, (at_ T i).k⟩
def tnC (T : List Bn) (i : Nat) : Prop := (at_ T i).P.may ∧ (at_ T i).P.tk ≤ (at_ T i).P.s.es.length ∧ ((at_ T i).P.tk : Int) ≤ (at_ T i).P.cm ∧ (at_ T i).P.cm ≤ 1073741824
instance (T : List Bn) (i : Nat) : Decidable (tnC T i) := by unfold tnC; infer_instance
theorem taken_ds (most : Int) (w : World) (h : DS K B w0 w a nbs T ps) (hC : tnC T i) (h0 : 0 ≤ most) (hnb : nbs[i]? = some nb) :
    Calls Tryz.prog 19 #[ptr nb, .int .i64 most] w fun e w' => ∃ av cap, e = .returned (.tuple #[.slice av (tkn (at_ T i).P.s.es (at_ T i).P.tk (at_ T i).P.cm most).length cap, .int .i64 0]) ∧ ER w' (.slice av (tkn (at_ T i).P.s.es (at_ T i).P.tk (at_ T i).P.cm most).length cap) (tkn (at_ T i).P.s.es (at_ T i).P.tk (at_ T i).P.cm most) ∧ (∀ g, blk (.slice av (tkn (at_ T i).P.s.es (at_ T i).P.tk (at_ T i).P.cm most).length cap) = some g → w.heap.size ≤ g) ∧ ∃ ps', DS K B w0 w' a nbs (tn1 T i most) ps' := by
  obtain ⟨hj, rfl, S, e1, e2, hN⟩ := h.hi w hnb
  obtain ⟨c1, c2, c3, c4⟩ := hC
  refine (Taken_ok most (at_ T i).P.tk w hN (c1.ok S) h0 rfl c2 c3 c4).mono ?_
  rintro e w' ⟨av, cap, rfl, hE, X', hN', ht', hg⟩
  refine ⟨av, cap, rfl, hE, fun g hb => (hg g hb).1, _, h.one hj (Q := ⟨{ (at_ T i).P with tk := (at_ T i).P.tk + (tkn (at_ T i).P.s.es (at_ T i).P.tk (at_ T i).P.cm most).length }, (at_ T i).r, (at_ T i).k⟩) (S := S) (X' := X') ?_ e2 ht'⟩
  have := hN'
  simpa [Pn.nd] using this
end
theorem w10 : tnC tr5 0 := by decide +kernel
theorem w11 : tkn (at_ tr5 0).P.s.es (at_ tr5 0).P.tk (at_ tr5 0).P.cm 9 = [⟨1, ⟨#[]⟩⟩, ⟨1, ⟨#[97]⟩⟩] := by kernel_rfl
end Go.Proofs.YtmpahgklcabihaaGreat.Rf

namespace Go.Proofs.YtmpahgklcabihaaGreat.Rf
open Go.RowKit Go.Joins Go.Proofs.YtmpahgklcabihaaGreat.Gk
open Go.Proofs.YtmpahgklcabihaaGreat.Dk (St Bs)
open Go.Proofs.YtmpahgklcabihaaGreat.Rl (En Lo LH ER ptr blk own Tn eenc eenc_len agr nmb mcode May1)
open Go.Proofs.YtmpahgklcabihaaGreat.Ba (Bl BB Tu Es trn cst mgd DH DI Mk Rc frs cnf cnl)

/-- a node's place in the row -/
structure SW (b o nb : Nat) (W : World) : Prop where
  c : W.cell? ⟨b, o, none⟩ = some (ptr nb)
  lt : b < W.heap.size
theorem SW.below {b o nb : Nat} {W W' : World} (h : SW b o nb W) (hb : Below W.heap.size W W') : SW b o nb W' := ⟨(World.cell?_of_block (a := ⟨b, o, none⟩) (hb.block b h.lt)).trans h.c, Nat.lt_of_lt_of_le h.lt hb.size⟩
theorem SW.drew {b o nb : Nat} {W : World} (h : SW b o nb W) : SW b o nb W.drew := h.below (Below.refl _ _).drew
abbrev SWp (b o nb : Nat) (W : World) : Prop := W.cell? ⟨b, o, none⟩ = some (ptr nb) ∧ SW b o nb W
theorem SWp.of {b o nb : Nat} {W : World} (h : SW b o nb W) : SWp b o nb W := ⟨h.c, h⟩
theorem DS.sw {K : KS} {B : Nat} {w0 w : World} {b off : Nat} {nbs : List Nat} {T : List Bn} {ps : List Pl} {i nb : Nat} (h : DS K B w0 w (some ⟨b, off, none⟩) nbs T ps) (hnb : nbs[i]? = some nb) : SWp b (off + i) nb w := by
  obtain ⟨hi, e⟩ := List.getElem?_eq_some_iff.1 hnb
  obtain ⟨b', off', e1, hbl, hc⟩ := h.row.at qenc_len i hi
  cases e1
  have c0 := hc 0 _ rfl
  rw [Nat.mul_one, Nat.add_zero, e] at c0
  exact SWp.of ⟨c0, hbl⟩
theorem DS.drew {K : KS} {B : Nat} {w0 w : World} {a : Option Addr} {nbs : List Nat} {T : List Bn} {ps : List Pl} (h : DS K B w0 w a nbs T ps) : DS K B w0 w.drew a nbs T ps := h.below (Below.refl _ _).drew
/-- three nodes, as machines -/
theorem trio_ds (w : World) :
    Calls Tryz.prog 21 #[] w fun e w' => ∃ b off cap nbs ps, e = .returned (.tuple #[.slice (some ⟨b, off, none⟩) 3 cap, .bool true]) ∧ nbs.length = 3 ∧ DS KN w.heap.size w w' (some ⟨b, off, none⟩) nbs tr0 ps := by
  refine (trio_any w).mono ?_
  rintro e w' ⟨a, cap, ps, rfl, hl, hN, hnds, hab, hb⟩
  have hlen : ps.length = 3 := by have := congrArg List.length hN; simpa using this
  have hD : DS KN w.heap.size w w' a (ps.map Pl.nb) tr0 ps := by
    refine ⟨⟨hnds, by rw [hlen]; rfl, fun i hi => ⟨St.new 262144, ?_, ?_⟩, hb.size⟩, rfl, hl, fun _ b off e => (hab b off e).2, hb, fun _ _ hk => hk.elim⟩
    · have h1 : (ps.map Pl.N)[i]? = some ps[i].N := by rw [List.getElem?_map, List.getElem?_eq_getElem hi]; rfl
      rw [hN] at h1
      have : i = 0 ∨ i = 1 ∨ i = 2 := by omega
      rcases this with rfl | rfl | rfl <;> (injection h1 with h1; rw [← h1]; rfl)
    · have : i = 0 ∨ i = 1 ∨ i = 2 := by omega
      rcases this with rfl | rfl | rfl <;> exact Rm.new 262144 (by decide)
  obtain ⟨b, off, rfl, _, _⟩ := hl.at qenc_len 0 (by rw [List.length_map, hlen]; decide)
  exact ⟨b, off, cap, _, ps, rfl, by rw [List.length_map]; exact hlen, hD⟩
theorem opt_getD {α : Type} {x : Option α} {d : α} (h : x.isSome = true) : x = some (x.getD d) := by
  cases x with
  | none => cases h
  | some y => rfl
set_option maxRecDepth 100000 in
set_option maxHeartbeats 8000000 in
theorem works_any (w : World) :
    Calls Tryz.prog 10 #[] w fun e w' => e = .returned (.bool true) ∧ Below w.heap.size w w' := by
  go_enter Tryz.func10, Tryz.ntmps10
  go_wp2_with fail
  refine (trio_ds w).mono ?_
  rintro e x1 ⟨b, off, cap, nbs, ps, rfl, hn3, hD⟩
  obtain ⟨nb, hnb⟩ : ∃ nb, nbs[0]? = some nb := ⟨nbs[0], List.getElem?_eq_getElem (by omega)⟩
  have HNB := hide hnb
  have HN3 := hide hn3
  have c0 := (hD.sw (i := 0) hnb).1
  rw [Nat.add_zero] at c0
  have HD := hide hD
  clear hD hnb hn3
  go_wp2_with fail
  refine (tick_ds x1 HD.out w1 HNB.out).mono ?_
  clear HD c0
  rintro e x2 ⟨rfl, ps2, hD⟩
  have c0 := (hD.sw (i := 0) HNB.out).1
  rw [Nat.add_zero] at c0
  have HD := hide hD
  clear hD
  go_wp2_with fail
  refine (tick_ds x2 HD.out w2 HNB.out).mono ?_
  clear HD c0
  rintro e x3 ⟨rfl, ps3, hD⟩
  have c0 := (hD.sw (i := 0) HNB.out).1
  rw [Nat.add_zero] at c0
  have HD := hide hD
  clear hD
  go_wp2_with fail
  refine (state_ds x3 HD.out HNB.out).mono ?_
  clear HD c0
  rw [w4.1, w4.2]
  rintro e x4 ⟨rfl, hD⟩
  have HD := hide hD
  clear hD
  go_wp2_with fail
  refine (deliver_any (some ⟨b, off, none⟩) cap nbs w.heap.size w x4 tr2 ps3 20 tr3 HD.out len0.2.1 HN3.out (opt_getD w3)).mono ?_
  clear HD
  rintro e x5 ⟨rfl, ps5, hD⟩
  have c0 := (hD.sw (i := 0) HNB.out).1
  rw [Nat.add_zero] at c0
  have HD := hide hD
  clear hD
  go_wp2_with fail
  refine (state_ds x5 HD.out HNB.out).mono ?_
  clear HD c0
  rw [w5.1, w5.2.1, w5.2.2.1, w5.2.2.2.1]
  rintro e x6 ⟨rfl, hD⟩
  have c0 := (hD.sw (i := 0) HNB.out).1
  rw [Nat.add_zero] at c0
  have HD := hide hD
  clear hD
  go_wp2_with fail
  refine (prop_ds ⟨#[97]⟩ x6 HD.out w6 HNB.out).mono ?_
  clear HD c0
  rw [w5.2.2.2.2]
  rintro e x7 ⟨rfl, ps7, hD⟩
  have HD := hide hD
  clear hD
  go_wp2_with fail
  refine (deliver_any (some ⟨b, off, none⟩) cap nbs w.heap.size w x7 tr4 ps7 20 tr5 HD.out len0.2.2.2.1 HN3.out (opt_getD w7)).mono ?_
  clear HD
  rintro e x8 ⟨rfl, ps8, hD⟩
  have c0 := (hD.sw (i := 0) HNB.out).1
  rw [Nat.add_zero] at c0
  have HD := hide hD
  clear hD
  go_wp2_with fail
  refine (taken_ds 9 x8 HD.out w10 (by decide) HNB.out).mono ?_
  clear HD c0
  rw [w11]
  rintro e x9 ⟨av, cv, rfl, hE, hg, ps9, hD⟩
  have hl := hE.lies
  obtain ⟨b9, o9, rfl, _, hc⟩ := hl.at Rl.eenc_len 0 (by decide)
  have c0 := hc 1 _ rfl
  obtain ⟨b9', o9', e9, _, hc'⟩ := hl.at Rl.eenc_len 1 (by decide)
  cases e9
  have c1 := hc' 1 _ rfl
  have HB := hide hD.bel
  clear hc hc' hE hl hg hD
  go_wp2
  go_ret
  exact ⟨rfl, HB.out⟩
end Go.Proofs.YtmpahgklcabihaaGreat.Rf
