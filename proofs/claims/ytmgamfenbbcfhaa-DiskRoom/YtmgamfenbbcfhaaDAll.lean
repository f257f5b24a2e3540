/- all(), of the laws: what each file has. -/
import Derived.Test.YtmgamfenbbcfhaaDAmong
namespace Go.Proofs.Ytmgamfenbbcfhaa.Dk
open Go.RowKit Go.Maps Go.Joins

/-- names and bytes, one behind the other -/
def allOf (l : Fls) : List ByteArray := l.flatMap fun p => [txt p.1, txt p.2.data]
theorem allOf_next {l : Fls} {i : Nat} (h : i < l.length) : allOf (l.take (i + 1)) = allOf (l.take i) ++ [txt l[i].1, txt l[i].2.data] := by
  rw [allOf, List.take_succ_eq_append_getElem h, List.flatMap_append]; simp [allOf]
theorem allOf_length (l : Fls) : (allOf l).length = 2 * l.length := by
  induction l with
  | nil => rfl
  | cons p r ih => simp only [allOf, List.flatMap_cons, List.length_append, List.length_cons, List.length_nil] at *; omega
theorem str_info : (Try.prog.info? 9).map (fun i => (i.zero, i.size, i.bytes)) = some (some (.string ⟨#[]⟩), 1, 16) := by kernel_rfl
theorem two_new (w : World) (x y : Value) (t : TypeId) : ∀ j u, [x, y][j]? = some u → (w.alloc (.cells #[x, y] t)).cell? ((⟨w.heap.size, 0, none⟩ : Addr).add j) = some u := by
  intro j u hj
  rw [Go.WideShapes.add_plain]
  match j, hj with
  | 0, hj => simpa using hj
  | 1, hj => simpa using hj
theorem read_there {S : St} (h : S.Ok) {i : Nat} (hi : i < S.files.length) : S.read S.files[i].1 = (S.files[i].2.data, 0) := by
  have hm := List.getElem_mem hi
  have hn := (h.each _ hm).1
  have hg : getL S.files[i].1 S.files = some S.files[i].2 := getL_of_mem h.rising hm
  rw [St.read, if_neg (by rw [hn]; simp), hg]

set_option maxHeartbeats 3200000 in
set_option maxRecDepth 100000 in
theorem all_any {own : Nat → Prop} {bd : Nat} {S : St} (w : World) (h : Held w own bd S) :
    Calls Try.prog 25 #[.pointer (some ⟨bd, 0, none⟩)] w fun e w' => ∃ v, e = .returned v ∧ w'.ownsRow w.heap.size 9 1 v (allOf S.files).length (tcells (allOf S.files)) ∧ Below w.heap.size w w' := by
  have hok := h.ok
  have hmany := hok.many
  obtain ⟨i0, hi, hz0, hz1, hz2⟩ := info_parts str_info
  have hNm := names_held w h
  have hnl : (namesOf S.files).length = S.files.length := by simp [namesOf]
  rw [hnl] at hNm
  go_enter Try.func25, Try.ntmps25
  go_wp2_with fail
  refine hNm.mono ?_
  rintro e w1 ⟨v, rfl, hown1, hb1⟩
  obtain ⟨an, cn, rfl⟩ := own_slice hown1
  have hz := hb1.size
  clear hNm
  have h1 := h.below hb1
  go_wp2
  go_loopw [3, 11] (fun v i wr => ∃ k : Nat, k ≤ S.files.length ∧ i = .int .i64 k ∧ wr.ownsRow w1.heap.size 9 1 v (allOf (S.files.take k)).length (tcells (allOf (S.files.take k))) ∧ Below w1.heap.size w1 wr) (fun _ i _ => S.files.length - (intOf i).toNat)
  case atStart => exact ⟨0, by omega, rfl, World.ownsRow_nil _ _ _ _, Below.refl _ _⟩
  case round =>
    obtain ⟨k, hk, rfl, ho, hB⟩ := hrel
    have hzr := hB.size
    obtain ⟨av, cv, rfl⟩ := own_slice ho
    by_cases hlt : k < S.files.length
    · obtain ⟨g, cap', e⟩ := ownsRow_form hown1 (by omega)
      cases e
      have hxs : (tcells (namesOf S.files))[k]? = some (.string (txt S.files[k].1)) := by simp [tcells, namesOf, List.getElem?_eq_getElem hlt]
      have hcell1 : w1.cell? ⟨g, k, none⟩ = some (.string (txt S.files[k].1)) := by rw [hown1.cellAt _ (by omega)]; exact hxs
      have hcell := (hB.cell (p := ⟨g, k, none⟩) (hown1.lt g rfl).2).trans hcell1
      have HR := read_there hok hlt
      have HN := hide (allOf_next hlt)
      have hll := allOf_length (S.files.take k)
      have hln : (allOf (S.files.take k)).length ≤ 128 := by rw [hll, List.length_take]; omega
      have hts : (txt S.files[k].1).size ≤ 32 := by
        have := (hok.each _ (List.getElem_mem hlt)).1
        exact named_size' (by rw [txt_list]; exact this)
      have hA := read_any wr (h1.below hB) (txt S.files[k].1) (by omega)
      rw [txt_list, HR] at hA
      have i1 : (0 : Int) ≤ (k : Int) := by omega
      have i2 : (k : Int) < (S.files.length : Int) := by omega
      obtain ⟨l1, hl1⟩ : ∃ l1, l1 = allOf (S.files.take (k + 1)) := ⟨_, rfl⟩
      rw [← hl1] at HN
      have HL1 := hide hl1
      have hd : (ByteArray.mk S.files[k].2.data.toArray) = txt S.files[k].2.data := rfl
      rw [hd] at hA
      clear hl1 hd hll HR hxs hcell1
      generalize allOf (S.files.take k) = l0 at *
      generalize txt S.files[k].1 = nm at *
      generalize txt S.files[k].2.data = dt at *
      go_wp2_with fail
      refine hA.mono ?_
      rintro e w3 ⟨rfl, hb3⟩
      have hB3 := hB.trans (hb3.mono hzr)
      have ho3 := own_keepF hb3 ho
      have hz3 := hB3.size
      clear hA hb3 ho hB
      go_wp2_with (at_builtin; refine wpList_append_own _ rfl (.tmp 21) (.tmp 24) 49 rfl w1.heap.size 9 i0 (.string ⟨#[]⟩) 1 16 Try.underlying49 hi hz0 hz1 hz2 rfl (by decide) _ _ _ rfl (ho3.alloc _) ⟨w3.heap.size, 0, none⟩ 2 2 [.string nm, .string dt] rfl rfl (two_new w3 _ _ _) ?d2 ?d3 ?d4 ?d5 ?_)
      case d2 => intro u hu; simp at hu; rcases hu with rfl | rfl <;> rfl
      case d3 => unfold maxLen; omega
      case d4 => omega
      case d5 => simp; omega
      intro v4 w4 ho4 hg4 _
      have hB4 : Below w1.heap.size w1 w4 := (hB3.alloc hz3 _).grown hg4 (by simp; omega) (fun k hk => (ho3.lt k hk).1)
      have ho4' : w4.ownsRow w1.heap.size 9 1 v4 l1.length (tcells l1) := by
        rw [HN.out]
        have e1 : tcells (l0 ++ [nm, dt]) = tcells l0 ++ [.string nm, .string dt] := by simp [tcells]
        rw [e1, List.length_append]; exact ho4
      clear ho3 ho4 hg4 hB3 hcell
      go_wp2
      go_roundw
      case rel => exact ⟨k + 1, by omega, by go_num, by rw [← HL1.out]; exact ho4', hB4⟩
      case measure => simp [intOf]; omega
    · obtain rfl : k = S.files.length := by omega
      rw [List.take_length] at *
      go_wp2
      go_ret
      exact ⟨_, rfl, own_mono ho hz, hb1.trans (hB.mono hz)⟩

end Go.Proofs.Ytmgamfenbbcfhaa.Dk
