/- Layer 12: walks over place.go: inOrder. -/
import Derived.Test.YtgfmnffaknmcnaaGreatDoorSwSrt
import Derived.Test.YtgfmnffaknmcnaaGreatDoorSwKey
namespace Go.Proofs.YtgfmnffaknmcnaaGreatDoor.Sw
open Go.RowKit Go.Joins Go.Sort Gk

/-- a slice of the places of a list, in order, each once -/
structure OrdR (B : Nat) (w : World) (l : List Pc) (v : Value) : Prop where
  out : ∃ L a cap, Onc l L ∧ v = .slice a L.length cap ∧ Lies w penc a L ∧ ∀ b off, a = some ⟨b, off, none⟩ → B ≤ b
set_option maxHeartbeats 1600000 in
set_option maxRecDepth 100000 in
theorem inOrder_any (a : Option Addr) (cap : Nat) (l : List Pc) (w : World) (hl : Lies w penc a l) (hn : l.length ≤ 4096) :
    Calls Tryz.prog 54 #[.slice a l.length cap] w fun e w' => ∃ v', e = .returned v' ∧ OrdR w.heap.size w' l v' ∧ Below w.heap.size w w' := by
  go_enter Tryz.func54, Tryz.ntmps54
  go_wp2
  go_loopw [3, 8] (fun v' i wr => ∃ k : Nat, k ≤ l.length ∧ i = .int .i64 k ∧ wr.ownsRow w.heap.size PT 3 v' (l.take k).length (rc penc (l.take k)) ∧ Below w.heap.size w wr) (fun _ i _ => l.length - (intOf i).toNat)
  case atStart => exact ⟨0, Nat.zero_le _, rfl, World.ownsRow_nil _ _ _ _, Below.refl _ _⟩
  case round =>
    obtain ⟨k, hk, rfl, hrow, hb⟩ := hrel
    by_cases hlt : k < l.length
    · obtain ⟨b, off, rfl, hbl, hc⟩ := (hl.below hb).at penc_len k hlt
      have i1 : (0 : Int) ≤ (k : Int) := by omega
      have i2 : (k : Int) < (l.length : Int) := by omega
      have c0 := hc 0 _ rfl
      have c1 := hc 1 _ rfl
      have c2 := hc 2 _ rfl
      rw [Nat.add_zero] at c0
      have hlen : (l.take k).length = k := by rw [List.length_take]; omega
      have hnx : l.take (k + 1) = l.take k ++ [l[k]] := List.take_succ_eq_append_getElem hlt
      generalize l[k] = x at c0 c1 c2 hnx
      obtain ⟨T, hT⟩ : ∃ T, l.take k = T := ⟨_, rfl⟩
      rw [hT] at hrow hnx hlen
      obtain ⟨T1, hT1⟩ : ∃ T1, l.take (k + 1) = T1 := ⟨_, rfl⟩
      rw [hT1] at hnx
      have HN := hide hnx
      have HT1 := hide hT1
      have HO := hide hrow
      have HZ := hide (And.intro hb.size hlen)
      have hb2 : Below wr.heap.size wr ((wr.alloc (.cells #[.int .i64 x.1, .int .i64 x.2.1, .int .i64 x.2.2] plT)).alloc (.cells (penc x).toArray PT)) := (below_alloc1 wr _).alloc (by simp) _
      have hnb : ((wr.alloc (.cells #[.int .i64 x.1, .int .i64 x.2.1, .int .i64 x.2.2] plT)).alloc (.cells (penc x).toArray PT)).heap[wr.heap.size + 1]? = some (.cells (penc x).toArray PT (0, 0)) := by
        have := heap_alloc_new (wr.alloc (.cells #[.int .i64 x.1, .int .i64 x.2.1, .int .i64 x.2.2] plT)) (.cells (penc x).toArray PT)
        simpa using this
      have HB2 := hide hb2
      have HNB := hide hnb
      clear hc hnx hT hT1 hrow hb2 hnb hlen
      go_wp2_with (at_builtin; refine wpList_push (enc := penc) (k := 3) rfl (.tmp 12) (.tmp 14) 108 rfl PT (.agg #[.int .i64 0, .int .i64 0, .int .i64 0]) 24 Tryz.underlying108 p_info rfl (by decide) penc_len penc_one w.heap.size _ T rfl (own_below HO.out HB2.out) (wr.heap.size + 1) x rfl HNB.out ?c1 ?c2 ?c3 ?_)
      case c1 => have := HZ.out.2; omega
      case c2 => have := HZ.out.2; omega
      case c3 => have := HZ.out.1; simp; omega
      intro v4 w4 ho4 hg4 _
      have hB4 : Below w.heap.size w w4 := (hb.trans (HB2.out.mono hb.size)).grown hg4 (by have := HB2.out.size; have := HZ.out.1; omega) (fun g hg => (HO.out.lt g hg).1)
      have ho4' : w4.ownsRow w.heap.size PT 3 v4 T1.length (rc penc T1) := by
        rw [HN.out, List.length_append]; exact ho4
      clear ho4 hg4 c0 c1 c2
      go_wp2
      go_roundw
      case rel => exact ⟨k + 1, by omega, by go_num, by rw [HT1.out]; exact ho4', hB4⟩
      case measure => simp [intOf]; omega
    · obtain rfl : k = l.length := by omega
      have i2 : ¬ (l.length : Int) < (l.length : Int) := by omega
      rw [List.take_length] at hrow
      have hS := sort_any wr hrow hb.size (by omega)
      have HB := hide hb
      clear hrow hb
      go_wp2_with fail
      refine hS.mono ?_
      rintro e w5 ⟨rfl, E, hp, hs, ho5, hb5⟩
      have hC := compact_any w5 ho5 (by have := hp.length_eq; omega)
      clear hS
      go_wp2_with fail
      refine hC.mono ?_
      rintro e w6 ⟨v6, rfl, hr6, hb6⟩
      clear hC
      go_wp2
      go_ret
      obtain ⟨a6, cap6, e6, hl6, hat6⟩ := hr6.out
      exact ⟨_, rfl, ⟨cpt E, a6, cap6, ⟨cpt_ord hs, fun p => (cpt_mem E p).trans hp.mem_iff, by have := cpt_len E; have := hp.length_eq; omega⟩, e6, hl6, hat6⟩, (HB.out.trans hb5).trans hb6⟩

end Go.Proofs.YtgfmnffaknmcnaaGreatDoor.Sw
