/- The walk over disk.go: Sync. -/
import Derived.Test.YtokcknfbanpjjaaDCutCall
namespace Go.Proofs.Ytokcknfbanpjjaa.Dk
open Go.RowKit Go.Maps Go.Joins

theorem mid_ne {α : Type} {A B : List (Bs × α)} {k : Bs} {a : α} (hr : Rising (A ++ (k, a) :: B)) : (∀ p ∈ A, p.1 ≠ k) ∧ ∀ p ∈ B, p.1 ≠ k := by
  rw [Rising, List.pairwise_append, List.pairwise_cons] at hr
  refine ⟨fun p hp e => ?_, fun p hp e => ?_⟩
  · have := hr.2.2 p hp (k, a) (List.mem_cons_self ..); rw [e, WideAt.bytes_irrefl] at this; cases this
  · have := hr.2.1.1 p hp; rw [e, WideAt.bytes_irrefl] at this; cases this
theorem rising_mid {α : Type} {A B : List (Bs × α)} {k : Bs} {a b : α} (hr : Rising (A ++ (k, a) :: B)) : Rising (A ++ (k, b) :: B) := rising_keys hr (by simp)
theorem putL_mid {α : Type} {A B : List (Bs × α)} {k : Bs} {a b : α} (hr : Rising (A ++ (k, a) :: B)) : putL k b (A ++ (k, a) :: B) = A ++ (k, b) :: B := by
  obtain ⟨hA, hB⟩ := mid_ne hr
  refine hr.put.ext (rising_mid hr) fun p => ?_
  rw [mem_putL]
  simp only [List.mem_append, List.mem_cons]
  constructor
  · rintro (rfl | ⟨h1 | rfl | h1, h2⟩)
    · exact Or.inr (Or.inl rfl)
    · exact Or.inl h1
    · exact absurd rfl h2
    · exact Or.inr (Or.inr h1)
  · rintro (h1 | rfl | h1)
    · exact Or.inr ⟨Or.inl h1, hA p h1⟩
    · exact Or.inl rfl
    · exact Or.inr ⟨Or.inr (Or.inr h1), hB p h1⟩
theorem getL_mid {α : Type} {A B : List (Bs × α)} {k : Bs} {a : α} (hr : Rising (A ++ (k, a) :: B)) : getL k (A ++ (k, a) :: B) = some a := getL_of_mem hr (by simp)

/-- a file is put anew in the map: the disk behind it -/
theorem HeldL.stored {w w1 w2 : World} {own : Nat → Prop} {bd bm room : Nat} {l : List (Bs × Ent)} {fuse : Int} {down : Bool} (h : HeldL w own bd bm room l fuse down) (hb : Below w.heap.size w w1) {k : Bs} {x : Ent} (hown : w2.ownsMap Try.prog 9 RV bm (putL k x l).length (DD (putL k x l)))
    (ht : w1.mapTurned w2 bm) (hx : RowOk w own x) (ha : ∀ p ∈ delL k l, Apart x p.2) : HeldL w2 own bd bm room (putL k x l) fuse down := by
  have hst : ∀ g, g < w.heap.size → g ≠ bm → w2.heap[g]? = w.heap[g]? := fun g hg hne => (ht.grown.block g (Nat.lt_of_lt_of_le hg hb.size) (by simpa using hne)).trans (hb.block g hg)
  have hdl := h.rows.del k
  exact ⟨⟨(hst _ h.base.lt h.base.ne).trans h.base.block, hown, h.base.ownD, h.base.ownM⟩, RowsOk.put ⟨fun p hp => (hdl.1 p hp).stay fun g hg => hst g ((hdl.1 p hp).lt hg) (h.base.rowNe (hdl.1 p hp) hg).2, hdl.2⟩ (hx.stay fun g hg => hst g (hx.lt hg) (h.base.rowNe hx hg).2) ha⟩

def syE (p : Bs × Ent) : Bs × Ent := (p.1, (p.2.1, ⟨p.2.2.data, p.2.2.data.length⟩))
/-- the first so many files are synced -/
def syK (l : List (Bs × Ent)) (i : Nat) : List (Bs × Ent) := (l.take i).map syE ++ l.drop i
theorem syK_mid {l : List (Bs × Ent)} {i : Nat} (h : i < l.length) : syK l i = (l.take i).map syE ++ l[i] :: l.drop (i + 1) := by rw [syK, List.drop_eq_getElem_cons h]
theorem syK_next {l : List (Bs × Ent)} {i : Nat} (h : i < l.length) : syK l (i + 1) = (l.take i).map syE ++ syE l[i] :: l.drop (i + 1) := by
  rw [syK, List.take_succ_eq_append_getElem h, List.map_append]; simp
theorem lookRun {w : World} {bm n : Nat} {l : List (Bs × Ent)} (h : w.ownsMap Try.prog 9 RV bm n (DD l)) (s : ByteArray) (hs : s.size ≤ 32) {x : Ent} (hg : getL s.data.toList l = some x) :
    (Instr.lookup MapT (.map (some bm)) (.string s) false).run Try.prog w = .ok (FV x.1 x.2.safe) w := by
  obtain ⟨v', ps, hrun, hv'⟩ := h.lookup keyed Try.underlying37 (zero_file w) (R := RV) (zd := .held noFile) (zp := []) rfl (key_str s (by omega))
  simp only [DD_at, hg, Option.some.injEq, Prod.mk.injEq] at hv'
  rw [hrun, DataW.held.inj hv'.1]

abbrev CS (bd bm : Nat) (W : World) : Prop := W.cell? ⟨bd, 1, none⟩ = some (.map (some bm))
theorem CS.drew {bd bm : Nat} {W : World} (h : CS bd bm W) : CS bd bm W.drew := h
theorem CS.below {bd bm : Nat} {W W' : World} (hb : Below W.heap.size W W') (h : CS bd bm W) : CS bd bm W' := (hb.cell (p := ⟨bd, 1, none⟩) (World.block_lt_of_cell? W _ h)).trans h
theorem CS.turned {bd bm : Nat} {W W' : World} (ht : W.mapTurned W' bm) (hne : bd ≠ bm) (h : CS bd bm W) : CS bd bm W' := (World.cell?_of_block (a := ⟨bd, 1, none⟩) (ht.grown.block bd (World.block_lt_of_cell? W _ h) (by simpa using hne))).trans h

set_option maxHeartbeats 3200000 in
set_option maxRecDepth 100000 in
theorem sync_any {own : Nat → Prop} {bd : Nat} {S : St} (w : World) (h : Held w own bd S) :
    Calls Try.prog 14 #[.pointer (some ⟨bd, 0, none⟩)] w fun e w' => e = .returned (.int .i64 S.sync.1) ∧ Held w' own bd S.sync.2 ∧ Only own w w' := by
  have HOK := hide h.ok.sync
  obtain ⟨bm, l, hL, hfl, hok⟩ := h
  obtain ⟨R, hR⟩ : ∃ R, R = S.sync := ⟨_, rfl⟩
  rw [← hR] at HOK ⊢
  have hmany : l.length ≤ 64 := by have := hok.many; rw [hfl, List.length_map] at this; exact this
  have hnmd : ∀ p ∈ l, named p.1 = true := fun p hp => (hok.each (p.1, p.2.2) (by rw [hfl]; exact List.mem_map.2 ⟨p, hp, rfl⟩)).1
  have HFL := hide hfl
  have hT := takes_any w hL hok.f0 hok.f1
  clear hfl
  cases htk : (taken S.fuse S.down).1
  · have HV := hide (show R = (21, S.take.2) by rw [hR]; unfold St.sync St.do; rw [if_neg (by simp only [St.take]; rw [htk]; simp)])
    rw [htk] at hT
    clear hR
    go_enter Try.func14, Try.ntmps14
    go_wp2_with fail
    refine hT.mono ?_
    rintro e w3 ⟨rfl, h4, hg3⟩
    go_wp2
    go_ret
    rw [HV.out]
    exact ⟨rfl, ⟨bm, l, h4, HFL.out, hok.take⟩, Only.of_grown hg3 fun k e => by cases e; exact hL.base.ownD⟩
  · have HV := hide (show R = (0, { S.take.2 with files := syncL S.files }) by rw [hR]; unfold St.sync St.do; rw [if_pos (by simp only [St.take]; exact htk)])
    rw [htk] at hT
    clear hR
    go_enter Try.func14, Try.ntmps14
    go_wp2_with fail
    refine hT.mono ?_
    rintro e w3 ⟨rfl, h4, hg3⟩
    clear hT
    have hRi := rising_any w3 h4.base hmany
    have hlen : (nms l).length = l.length := by simp [nms]
    have hO3 := Only.of_grown (own := own) hg3 fun k e => by cases e; exact hL.base.ownD
    go_wp2_with fail
    refine hRi.mono ?_
    rintro e w4 ⟨v, rfl, hown4, hb4⟩
    rw [hlen] at hown4
    obtain ⟨a, cap, rfl⟩ := own_slice hown4
    have h5 := h4.below hb4
    have hO5 := hO3.trans (Only.of_below hb4)
    obtain ⟨fu, hfu⟩ : ∃ fu, fu = (taken S.fuse S.down).2.1 := ⟨_, rfl⟩
    obtain ⟨dn, hdn⟩ : ∃ dn, dn = (taken S.fuse S.down).2.2 := ⟨_, rfl⟩
    rw [← hfu, ← hdn] at h5
    have HFU := hide hfu
    have HDN := hide hdn
    clear hfu hdn
    clear hRi h4
    go_wp2
    have hris := h5.base.rising
    have hrisK : ∀ i, Rising (syK l i) := fun i => rising_keys hris (by rw [syK, List.map_append, List.map_map]; show (l.take i).map (fun p => p.1) ++ _ = _; rw [← List.map_append, List.take_append_drop])
    have hlenK : ∀ i, (syK l i).length = l.length := fun i => by rw [syK, List.length_append, List.length_map, ← List.length_append, List.take_append_drop]
    go_loopw [11] (fun i wr => ∃ k : Nat, k ≤ l.length ∧ i = .int .i64 k ∧ HeldL wr own bd bm S.room (syK l k) fu dn ∧ wr.ownsRow w3.heap.size 9 1 (.slice a l.length cap) l.length (tcells (nms l)) ∧ Only own w wr) (fun i _ => l.length - (intOf i).toNat)
    case atStart => exact ⟨0, by omega, rfl, by simpa [syK] using h5, hown4, hO5⟩
    case round =>
      obtain ⟨k, hk, rfl, hH, ho, hO⟩ := hrel
      by_cases hlt : k < l.length
      · obtain ⟨g, cap', e⟩ := ownsRow_form ho (by omega)
        cases e
        obtain ⟨⟨key, v, f⟩, hx⟩ : ∃ x, l[k] = x := ⟨_, rfl⟩
        have hmid := syK_mid hlt
        have hnext := syK_next hlt
        rw [hx] at hmid hnext
        have hrk := hrisK k
        rw [hmid] at hrk
        have hgl := getL_mid hrk
        rw [← hmid] at hgl
        have hput := putL_mid (b := (v, Fil.mk f.data f.data.length)) hrk
        rw [← hmid] at hput
        have HP := hide (show putL key (v, Fil.mk f.data f.data.length) (syK l k) = syK l (k + 1) by rw [hput, hnext]; rfl)
        have hrow : RowOk wr own (v, f) := hH.rows.1 _ (getL_some hgl)
        have hap := hH.rows.others hH.base.rising hgl
        obtain ⟨ad, c, rfl, _⟩ := hrow.open
        have hxs : (tcells (nms l))[k]? = some (.string ⟨key.toArray⟩) := by
          simp [tcells, nms, List.getElem?_eq_getElem hlt, hx]
        have hcell : wr.cell? ⟨g, k, none⟩ = some (.string ⟨key.toArray⟩) := by rw [ho.cellAt _ (by omega)]; exact hxs
        obtain ⟨s, hsk⟩ : ∃ s : ByteArray, s = ⟨key.toArray⟩ := ⟨_, rfl⟩
        have hkey : s.data.toList = key := by rw [hsk]
        have hss : s.size ≤ 32 := by
          have := hnmd l[k] (List.getElem_mem hlt)
          rw [hx] at this
          exact named_size' (by rw [hkey]; exact this)
        rw [← hsk] at hcell hxs
        have hlk := lookRun hH.base.map s hss (by rw [hkey]; exact hgl)
        have hc1 := hH.base.c1
        have hne := hH.base.ne
        have i1 : (0 : Int) ≤ (k : Int) := by omega
        have i2 : (k : Int) < (l.length : Int) := by omega
        have hS : CS bd bm wr := hc1
        have hlkn := hlenK k
        clear hmid hnext hrk hput hx hxs hsk
        simp only at hlk
        have hlk' : (Instr.lookup MapT (.map (some bm)) (.string s) false).run Try.prog wr.drew = .ok (.agg #[.slice ad f.data.length c, .int .i64 f.safe]) wr.drew := lookRun (w := wr.drew) hH.base.map.drew s hss (by rw [hkey]; exact hgl)
        go_wp2
        go_region_held3 (CS bd bm) (first | exact CS.drew (by assumption) | exact CS.below (by assumption) (by assumption) | exact CS.turned (by assumption) hne (by assumption))
          (first | (go_at_call 43; refine (synced_any ad f.data.length c f.safe _).mono ?_; rintro e w5 ⟨rfl, hb5⟩; obtain ⟨w6, hrun6, hown6, hturn6⟩ := store_file (ownsMap_stay (w' := w5) hH.base.map (hb5.block _ hH.base.map.lt)) (by omega) s hss (.slice ad f.data.length c) (Fil.mk f.data f.data.length); simp only at hrun6))
        have hb5' : Below wr.heap.size wr w5 := (Below.refl _ _).drew.trans hb5
        rw [hkey] at hown6
        have hH6 := hH.stored hb5' hown6 hturn6 (x := (.slice ad f.data.length c, Fil.mk f.data f.data.length)) ⟨hrow.1, hrow.2⟩ hap
        rw [HP.out] at hH6
        have ho6 := ownsRow_stay ho (w' := w6) fun g' hg' => (hturn6.grown.block g' (Nat.lt_of_lt_of_le (ho.lt g' hg').2 hb5'.size) (fun e => by
          cases e
          rcases ho.2 with ⟨e1, _⟩ | ⟨g2, _, cur, e1, _, hc2, _⟩
          · cases e1
          · cases e1
            simp only [Value.ownBlock, Option.some.injEq] at hg'
            obtain ⟨es, clock, hb, _⟩ := hH.base.map
            rw [← hg', hc2] at hb
            cases hb)).trans (hb5'.block g' (ho.lt g' hg').2)
        have hO6 := (hO.trans (Only.of_below hb5')).trans (Only.of_grown (own := own) hturn6.grown fun k e => by cases e; exact hH.base.ownM)
        clear hrun6 hown6 hturn6 hb5 hlk hlk' hcell hc1 hS
        go_wp2
        go_roundw
        case rel => exact ⟨k + 1, by omega, by go_num, hH6, ho6, hO6⟩
        case measure => simp [intOf]; omega
      · obtain rfl : k = l.length := by omega
        have hend : syK l l.length = l.map syE := by rw [syK, List.take_length, List.drop_length, List.append_nil]
        rw [hend] at hH
        have HE := hide (show syncL S.files = (l.map syE).map (fun p => (p.1, p.2.2)) by rw [HFL.out, syncL, List.map_map, List.map_map]; rfl)
        clear hend
        go_wp2
        go_ret
        have hR5 := HOK.out
        rw [HV.out] at hR5 ⊢
        rw [HFU.out, HDN.out] at hH
        exact ⟨rfl, ⟨bm, l.map syE, hH, HE.out, hR5⟩, hO⟩

end Go.Proofs.Ytokcknfbanpjjaa.Dk
