/- Walks over skylarklaw14: grown. -/
import Derived.Test.YtckomhaobdaipaaRlWk
namespace Go.Proofs.Ytckomhaobdaipaa.Rl
open Go.RowKit Go.Joins Gk

/-- two bytes of two numbers -/
def two (i : Nat) (x : Int) : ByteArray := ⟨#[UInt8.ofNat i, UInt8.ofNat (x % 256).toNat]⟩
theorem two_run (i : Nat) (x : Int) (hi : i < 256) (W : World) : (convert 55 9 (.slice (some ⟨W.heap.size, 0, none⟩) 2 2)).run Try.prog (W.alloc (.cells #[.int .u8 (i : Int), .int .u8 (x % 256)] 5)) = .ok (.string (two i x)) (W.alloc (.cells #[.int .u8 (i : Int), .int .u8 (x % 256)] 5)) := by
  have hx0 := Int.emod_nonneg x (show (256 : Int) ≠ 0 by decide)
  have hx1 := Int.emod_lt_of_pos x (show (0 : Int) < 256 by decide)
  have hb := heap_alloc_new W (.cells #[.int .u8 (i : Int), .int .u8 (x % 256)] 5)
  exact run_convert_bytes_back (P := Try.prog) _ 55 9 5 ⟨W.heap.size, 0, none⟩ 2 [UInt8.ofNat i, UInt8.ofNat (x % 256).toNat] Try.underlying55 Try.underlying5 Try.underlying9 (fun j hj => by
    have hj2 : j = 0 ∨ j = 1 := by simp at hj; omega
    rcases hj2 with rfl | rfl
    · have e : ((UInt8.ofNat i).toNat : Int) = i := by rw [UInt8.toNat_ofNat', Nat.mod_eq_of_lt hi]
      simp only [List.getElem_cons_zero, e]
      rw [Go.WideShapes.add_plain, cell_of_block hb]; rfl
    · have e : ((UInt8.ofNat (x % 256).toNat).toNat : Int) = x % 256 := by rw [UInt8.toNat_ofNat', Nat.mod_eq_of_lt (by omega)]; omega
      simp only [List.getElem_cons_succ, List.getElem_cons_zero, e]
      rw [Go.WideShapes.add_plain, cell_of_block hb]; rfl)
/-- what grows by steps, and the last term -/
def gr (st : List Int) : Nat → List En × Int
  | 0 => ([], 1)
  | k + 1 => ((gr st k).1 ++ [⟨(gr st k).2 + (st.getD k 0) % 3, two k (st.getD k 0)⟩], (gr st k).2 + (st.getD k 0) % 3)

set_option maxRecDepth 100000 in
set_option maxHeartbeats 4000000 in
theorem grown_any (a : Option Addr) (cap : Nat) (st : List Int) (w : World) (hl : Lies w ienc a st) (hr : ∀ x ∈ st, -9223372036854775808 ≤ x ∧ x ≤ 9223372036854775807) (hsl : st.length ≤ 9223372036854775807) :
    Calls Try.prog 6 #[.slice a st.length cap] w fun e w' => ∃ bl, e = .returned (ptr bl) ∧ Made w w' bl ⟨0, 0, (gr st (min st.length 40)).1⟩ := by
  have HN := hide (New_any w)
  go_enter Try.func6, Try.ntmps6
  go_wp2_with (go_at_call 11; refine HN.out.mono ?_; rintro e w1 ⟨rfl, _, rfl⟩)
  obtain ⟨W, hW⟩ : ∃ W, w.alloc (.cells #[.int .i64 0, .int .i64 0, .slice none 0 0] LogT) = W := ⟨_, rfl⟩
  have hM : Made w W w.heap.size Lo.new := by rw [← hW]; exact Made.start w
  rw [hW]
  clear hW HN
  generalize w.heap.size = bl at *
  go_loopw [4, 5] (fun tv iv wr => ∃ k : Nat, k ≤ min st.length 40 ∧ iv = .int .i64 k ∧ tv = .int .i64 (gr st k).2 ∧ Made w wr bl ⟨0, 0, (gr st k).1⟩ ∧ (gr st k).1.length = k ∧ (⟨0, 0, (gr st k).1⟩ : Lo).tm (⟨0, 0, (gr st k).1⟩ : Lo).last ≤ (gr st k).2 ∧ 1 ≤ (gr st k).2 ∧ (gr st k).2 ≤ 1 + 2 * k) (fun _ iv _ => 40 - (intOf iv).toNat)
  case atStart => exact ⟨0, Nat.zero_le _, rfl, rfl, hM, rfl, by rw [show (gr st 0).1 = [] from rfl, tm_nil, show (gr st 0).2 = 1 from rfl]; decide, by rw [show (gr st 0).2 = 1 from rfl]; decide, by rw [show (gr st 0).2 = 1 from rfl]; decide⟩
  case round =>
    clear hM
    obtain ⟨k, hk, rfl, rfl, hM, hlen, htm, ht1, ht2⟩ := hrel
    by_cases hkl : k < st.length
    · by_cases hk4 : k < 40
      · have j1 : (k : Int) < (st.length : Int) := by omega
        have j0 : (0 : Int) ≤ (k : Int) := by omega
        have j4 : (k : Int) < 40 := by omega
        obtain ⟨b1, o1, rfl, hb1, hc1⟩ := (hl.below hM.bel).at ienc_len k hkl
        have d1 := hc1 0 _ rfl
        rw [Nat.mul_one, Nat.add_zero] at d1
        have hx := hr _ (List.getElem_mem hkl)
        have HG := hide (show gr st (k + 1) = ((gr st k).1 ++ [⟨(gr st k).2 + st[k] % 3, two k st[k]⟩], (gr st k).2 + st[k] % 3) by
          rw [gr, List.getD_eq_getElem?_getD, List.getElem?_eq_getElem hkl]; rfl)
        have HA := hide (fun W => among_any st[k] 3 W (by decide) (by decide) hx.1 hx.2)
        generalize st[k] = x at *
        have hx3 : 0 ≤ x % 3 ∧ x % 3 < 3 := ⟨Int.emod_nonneg _ (by decide), Int.emod_lt_of_pos _ (by decide)⟩
        generalize (gr st k).2 = tt at *
        generalize (gr st k).1 = es at *
        generalize x % 3 = r at *
        have hw1 : tt + r ≤ 1000 := by omega
        have hw0 : 0 ≤ tt + r := by omega
        have HM := hide hM
        have HTM := hide htm
        obtain ⟨v, hL⟩ := hM.log
        clear hM hc1 htm
        have hcv := two_run k x (by omega) wr
        have hb2 : Below wr.heap.size wr (wr.alloc (.cells #[.int .u8 (k : Int), .int .u8 (x % 256)] 5)) := (Below.refl _ wr).alloc (Nat.le_refl _) _
        have hAP := (Append_ok bl ⟨0, 0, es⟩ v ⟨tt + r, two k x⟩ _ (hL.below hb2) ⟨by show 1 ≤ tt + r; omega, by show tt + r ≤ _; omega, by have := HTM.out; show _ ≤ tt + r; omega, by show (two k x).size ≤ 4096; show 2 ≤ 4096; decide, by unfold Lo.last; show 0 + es.length < _; omega⟩)
        dsimp only at hAP
        have HAP := hide hAP
        clear hAP
        have HM2 := hide (HM.out.below hb2)
        have HLN := hide hlen
        have HT := hide (And.intro ht1 ht2)
        clear hL hb2 hlen ht1 ht2
        go_wp2_with (go_at_call 8; refine (HA.out _).mono ?_; rintro e w2 ⟨rfl, rfl⟩)
        refine HAP.out.mono ?_
        rintro e w2 ⟨rfl, hv2, ht2⟩
        go_wp2
        go_roundw
        case rel =>
          refine ⟨k + 1, by omega, by go_num, by rw [HG.out], by rw [HG.out]; exact HM2.out.turn hv2 ht2, by rw [HG.out]; simp [HLN.out], by rw [HG.out]; dsimp only; rw [tm_snoc]; exact Int.le_refl _, ?_, ?_⟩
          · rw [HG.out]; have := HT.out.1; dsimp only; omega
          · rw [HG.out]; have := HT.out.2; dsimp only; omega
        case measure => simp [intOf]; omega
      · have j1 : (k : Int) < (st.length : Int) := by omega
        have j4 : ¬ (k : Int) < 40 := by omega
        have hke := hide (show k = min st.length 40 by omega)
        clear hlen htm ht1 ht2
        go_wp2
        go_ret
        exact ⟨bl, rfl, by rw [← hke.out]; exact hM⟩
    · have j1 : ¬ (k : Int) < (st.length : Int) := by omega
      have hke := hide (show k = min st.length 40 by omega)
      clear hlen htm ht1 ht2
      go_wp2
      go_ret
      exact ⟨bl, rfl, by rw [← hke.out]; exact hM⟩

/-- a grown log -/
structure Grown (S : Lo) : Prop where
  b : S.b = 0
  bt : S.bt = 0
  n : S.es.length ≤ 40
  each : ∀ e ∈ S.es, 1 ≤ e.t ∧ e.t ≤ 200 ∧ e.d.size = 2
  rise : (S.es.map (·.t)).Pairwise (· ≤ ·)
theorem gr_facts (st : List Int) : ∀ k, (gr st k).1.length = k ∧ 1 ≤ (gr st k).2 ∧ (gr st k).2 ≤ 1 + 2 * k ∧ (∀ e ∈ (gr st k).1, 1 ≤ e.t ∧ e.t ≤ (gr st k).2 ∧ e.d.size = 2) ∧ ((gr st k).1.map (·.t)).Pairwise (· ≤ ·)
  | 0 => ⟨rfl, by show (1 : Int) ≤ 1; decide, by show (1 : Int) ≤ 1 + 2 * 0; decide, by simp [gr], by simp [gr]⟩
  | k + 1 => by
    obtain ⟨h1, h2, h3, h4, h5⟩ := gr_facts st k
    have hx : 0 ≤ (st.getD k 0) % 3 ∧ (st.getD k 0) % 3 < 3 := ⟨Int.emod_nonneg _ (by decide), Int.emod_lt_of_pos _ (by decide)⟩
    rw [gr]
    dsimp only
    refine ⟨by simp [h1], by omega, by omega, fun e he => ?_, ?_⟩
    · rcases List.mem_append.1 he with he | he
      · have := h4 e he; exact ⟨this.1, by omega, this.2.2⟩
      · rw [List.mem_singleton.1 he]; exact ⟨by show 1 ≤ _ + _; omega, Int.le_refl _, rfl⟩
    · rw [List.map_append, List.pairwise_append]
      refine ⟨h5, by simp, fun a ha b hb => ?_⟩
      obtain ⟨e, he, rfl⟩ := List.mem_map.1 ha
      simp only [List.map_cons, List.map_nil, List.mem_singleton] at hb
      subst hb
      have := (h4 e he).2.1
      omega
theorem grown_is (st : List Int) : Grown ⟨0, 0, (gr st (min st.length 40)).1⟩ := by
  obtain ⟨h1, h2, h3, h4, h5⟩ := gr_facts st (min st.length 40)
  exact ⟨rfl, rfl, by show (gr st _).1.length ≤ 40; omega, fun e he => ⟨(h4 e he).1, by have := (h4 e he).2.1; omega, (h4 e he).2.2⟩, h5⟩

end Go.Proofs.Ytckomhaobdaipaa.Rl
