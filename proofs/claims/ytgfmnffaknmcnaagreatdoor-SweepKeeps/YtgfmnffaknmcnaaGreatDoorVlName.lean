/- Walks over vals/file.go: nameOf, numberOf. -/
import Derived.Test.YtgfmnffaknmcnaaGreatDoorVlPure
import Derived.Shelf.Strconv.Itoa3
import Derived.Shelf.Strconv.ErrVarAll
import Derived.Shelf.Small.Wraps
import Derived.Shelf.Lay
import Derived.Lib.SmallJoins
import Derived.Lib.LaidTab
import Derived.Ground.NamesProg
namespace Go.Proofs.YtgfmnffaknmcnaaGreatDoor
open Go.Shelf
shelf_lay LaysM.n171 Nm 171 at Tryz as Tryz.laysItoa
shelf_lay LaysC.n172 Nm 172 at Tryz as Tryz.laysAtoi
shelf_lay Lays.n103 Nm 103 at Tryz as Tryz.laysCutP
end Go.Proofs.YtgfmnffaknmcnaaGreatDoor
namespace Go.Proofs.YtgfmnffaknmcnaaGreatDoor.Vl
open Go.RowKit Go.Joins
open Go.Proofs.YtgfmnffaknmcnaaGreatDoor.Dk (Bs)

/-- what the library has in its variables -/
structure Env (w : World) : Prop where
  tab : Lib.TabIs Tryz.prog w "internal/strconv.uint64pow10" .u64 Lib.pow10Tab
  syn : ∃ tp p, w.var? Tryz.prog "strconv.ErrSyntax" = some #[.iface tp p]
  rng : ∃ tp p, w.var? Tryz.prog "strconv.ErrRange" = some #[.iface tp p]
theorem var_below {w w' : World} {name : String} {x : Array Value} (h : w.var? Tryz.prog name = some x) (hb : Below w.heap.size w w') : w'.var? Tryz.prog name = some x := by
  unfold World.var? at h ⊢
  cases hg : Tryz.prog.globalNamed name with
  | none => rw [hg] at h; simp at h
  | some g =>
    rw [hg] at h
    simp only [Option.bind_some] at h ⊢
    rcases Nat.lt_or_ge g w.heap.size with hlt | hge
    · rw [hb.block g hlt]; exact h
    · rw [Array.getElem?_eq_none hge] at h; cases h
theorem Env.below {w w' : World} (h : Env w) (hb : Below w.heap.size w w') : Env w' := by
  obtain ⟨g, hg⟩ : ∃ g, Tryz.prog.globalNamed "internal/strconv.uint64pow10" = some g := Option.isSome_iff_exists.1 (by kernel_rfl)
  exact ⟨tab_stays hg h.tab hb (Nat.le_refl _), h.syn.imp fun _ h => h.imp fun _ h => var_below h hb, h.rng.imp fun _ h => h.imp fun _ h => var_below h hb⟩
theorem below_grow (w : World) (k : Nat) (os : Array Obj) : Below w.heap.size w (Go.Sort.grow (w.drewN k) os) :=
  ⟨rfl, rfl, rfl, by simp [Go.Sort.grow], fun i hi => by simp [Go.Sort.grow, World.drewN, Array.getElem?_append, hi]⟩
theorem itoa_any (i : Nat) (hi : i ≤ 1048577) (w : World) (hE : Env w) :
    Calls Tryz.prog 89 #[.int .i64 i] w fun e w' => e = .returned (.string ⟨(Lib.decDigits i).toArray⟩) ∧ Below w.heap.size w w' := by
  refine (Any.strconv_Itoa Tryz.laysItoa i (by omega) (by omega) w hE.tab).mono ?_
  rintro e w' ⟨rfl, k, os, rfl⟩
  refine ⟨?_, below_grow _ _ _⟩
  have : Lib.itoa (i : Int) = Lib.decDigits i := by rw [Lib.itoa, if_neg (by omega)]; simp
  rw [this]
theorem nt_eq (n : Nat) : (⟨#[118, 97, 108, 46]⟩ : ByteArray) ++ ⟨(Lib.decDigits n).toArray⟩ = nt n := by
  apply ByteArray.ext
  simp [nt, nm, dec]
set_option maxRecDepth 100000 in
theorem nameOf_any (n : Nat) (hn : n ≤ 1048577) (w : World) (hE : Env w) :
    Calls Tryz.prog 48 #[.int .i64 n] w fun e w' => e = .returned (.string (nt n)) ∧ Below w.heap.size w w' := by
  have hd := dec_small hn
  have hno : ¬ 9223372036854775807 < 4 + (Lib.decDigits n).length := by show ¬ _ < 4 + (dec n).length; omega
  clear hd
  go_enter Tryz.func48, Tryz.ntmps48
  go_wp2_with (first | (go_at_call 89; refine (itoa_any n hn _ hE).mono ?_; rintro e w1 ⟨rfl, hb1⟩))
  go_ret
  exact ⟨by rw [nt_eq]; rfl, hb1⟩
/-- what numberOf answers -/
def numV (k : Bs) : Value := match numF k with | some n => .tuple #[.int .i64 n, .bool true] | none => .tuple #[.int .i64 0, .bool false]
theorem numV_some {k : Bs} {n : Nat} (h : numF k = some n) : numV k = .tuple #[.int .i64 n, .bool true] := by rw [numV, h]
theorem numV_none {k : Bs} (h : numF k = none) : numV k = .tuple #[.int .i64 0, .bool false] := by rw [numV, h]
theorem numF_no {k : Bs} (h : Lib.hasPrefix k pre = false) : numF k = none := by rw [numF, if_neg (by simp [h])]
theorem numF_syn {k : Bs} (h : Lib.atoiAll (Lib.trimPrefix k pre) = .«syntax») : numF k = none := by unfold numF; rw [h]; split <;> rfl
theorem numF_rng {k : Bs} (h : Lib.atoiAll (Lib.trimPrefix k pre) = .range) : numF k = none := by unfold numF; rw [h]; split <;> rfl
theorem numF_ok {k : Bs} {z : Int} (hp : Lib.hasPrefix k pre = true) (h : Lib.atoiAll (Lib.trimPrefix k pre) = .ok z) : numF k = if 1 ≤ z ∧ z ≤ 1048576 ∧ nm z.toNat = k then some z.toNat else none := by unfold numF; rw [if_pos hp, h]

set_option maxRecDepth 100000 in
set_option maxHeartbeats 3200000 in
theorem numberOf_any (s : ByteArray) (hs : s.size ≤ 32) (w : World) (hE : Env w) :
    Calls Tryz.prog 102 #[.string s] w fun e w' => e = .returned (numV s.data.toList) ∧ Below w.heap.size w w' := by
  have hC : ∀ W, Calls Tryz.prog 122 #[.string s, .string ⟨#[118, 97, 108, 46]⟩] W fun e w' => e = .returned (.tuple #[.string ⟨(Lib.trimPrefix s.data.toList pre).toArray⟩, .bool (Lib.hasPrefix s.data.toList pre)]) ∧ w' = W := fun W => by
    have := Any.strings_CutPrefix Tryz.laysCutP s ⟨#[118, 97, 108, 46]⟩ W
    exact this
  cases hp : Lib.hasPrefix s.data.toList pre with
  | false =>
    rw [hp] at hC
    rw [numV_none (numF_no hp)]
    clear hp
    go_enter Tryz.func102, Tryz.ntmps102
    go_wp2_with (first | (go_at_call 122; refine (hC _).mono ?_; rintro e w1 ⟨rfl, rfl⟩))
    go_ret2
    exact ⟨rfl, Below.refl _ _⟩
  | true =>
    rw [hp] at hC
    have hts : (ByteArray.mk (Lib.trimPrefix s.data.toList pre).toArray).size ≤ 32 := by
      show Array.size _ ≤ _
      rw [List.size_toArray]
      unfold Lib.trimPrefix
      rw [if_pos hp, List.length_drop, ← Lib.size_eq]; omega
    have hdl : (ByteArray.mk (Lib.trimPrefix s.data.toList pre).toArray).data.toList = Lib.trimPrefix s.data.toList pre := by simp
    obtain ⟨d, hd⟩ : ∃ d, d = ByteArray.mk (Lib.trimPrefix s.data.toList pre).toArray := ⟨_, rfl⟩
    rw [← hd] at hts hdl hC
    cases ha : Lib.atoiAll (Lib.trimPrefix s.data.toList pre) with
    | «syntax» =>
      rw [numV_none (numF_syn ha)]
      obtain ⟨tp, p, hv⟩ := hE.syn
      have hA := Any.strconv_Atoi_syntax_var Tryz.laysAtoi d (by omega) (by rw [hdl]; exact ha) tp p w hv
      clear ha hdl hd hp
      go_enter Tryz.func102, Tryz.ntmps102
      go_wp2_with (first | (go_at_call 122; refine (hC _).mono ?_; rintro e w1 ⟨rfl, rfl⟩) | (go_at_call 123; refine hA.mono ?_; rintro e w2 ⟨N, rfl, -, -, hb2⟩))
      go_ret2
      exact ⟨rfl, hb2⟩
    | range =>
      rw [numV_none (numF_rng ha)]
      obtain ⟨tp, p, hv⟩ := hE.rng
      have hA := Any.strconv_Atoi_range_var Tryz.laysAtoi d (by omega) (by rw [hdl]; exact ha) tp p w hv
      generalize Lib.atoiSat d.data.toList = z at hA
      clear ha hdl hd hp
      go_enter Tryz.func102, Tryz.ntmps102
      go_wp2_with (first | (go_at_call 122; refine (hC _).mono ?_; rintro e w1 ⟨rfl, rfl⟩) | (go_at_call 123; refine hA.mono ?_; rintro e w2 ⟨N, rfl, -, -, hb2⟩))
      go_ret2
      exact ⟨rfl, hb2⟩
    | ok z =>
      have hA : Calls Tryz.prog 123 #[.string d] w fun e w' => e = .returned (.tuple #[.int .i64 z, .nilIface]) ∧ Below w.heap.size w w' := by
        refine (Any.strconv_Atoi_ok Tryz.laysAtoi d (by omega) z (by rw [hdl]; exact ha) w).mono ?_
        rintro e w' ⟨rfl, rfl | ⟨t, rfl⟩⟩
        · exact ⟨rfl, Below.refl _ _⟩
        · exact ⟨rfl, below_bytesWorld _ _ _ _ (Nat.le_refl _)⟩
      have hnum := numF_ok hp ha
      clear ha hdl hd hp
      by_cases h1 : z < 1
      · rw [numV_none (by rw [hnum, if_neg (by omega)])]
        clear hnum
        go_enter Tryz.func102, Tryz.ntmps102
        go_wp2_with (first | (go_at_call 122; refine (hC _).mono ?_; rintro e w1 ⟨rfl, rfl⟩) | (go_at_call 123; refine hA.mono ?_; rintro e w2 ⟨rfl, hb2⟩))
        go_ret2
        exact ⟨rfl, hb2⟩
      · by_cases h2 : (1048576 : Int) < z
        · rw [numV_none (by rw [hnum, if_neg (by omega)])]
          clear hnum
          go_enter Tryz.func102, Tryz.ntmps102
          go_wp2_with (first | (go_at_call 122; refine (hC _).mono ?_; rintro e w1 ⟨rfl, rfl⟩) | (go_at_call 123; refine hA.mono ?_; rintro e w2 ⟨rfl, hb2⟩))
          go_ret2
          exact ⟨rfl, hb2⟩
        · obtain ⟨n, rfl⟩ := Int.eq_ofNat_of_zero_le (show 0 ≤ z by omega)
          rw [Int.toNat_natCast] at hnum
          have hn : n ≤ 1048577 := by omega
          by_cases he : nt n = s
          · rw [numV_some (n := n) (by rw [hnum, if_pos ⟨by omega, by omega, by rw [← he, nt_list]⟩])]
            have hbq : ((nt n).toList == s.toList) = true := by rw [he]; simp
            clear hnum he
            go_enter Tryz.func102, Tryz.ntmps102
            go_wp2_with (first | (go_at_call 122; refine (hC _).mono ?_; rintro e w1 ⟨rfl, rfl⟩) | (go_at_call 123; refine hA.mono ?_; rintro e w2 ⟨rfl, hb2⟩) | (go_at_call 48; refine (nameOf_any n hn _ (hE.below hb2)).mono ?_; rintro e w4 ⟨rfl, hb4⟩))
            try simp only [hbq]
            go_wp2
            go_ret2
            exact ⟨rfl, hb2.trans (hb4.mono hb2.size)⟩
          · rw [numV_none (by rw [hnum, if_neg (fun h => he (nt_ext h.2.2.symm).symm)])]
            have hbq : ((nt n).toList == s.toList) = false := by
              rw [beq_eq_false_iff_ne, Lib.toList_data, Lib.toList_data]
              intro e
              exact he (by apply ByteArray.ext; apply Array.ext'; exact e)
            clear hnum he
            go_enter Tryz.func102, Tryz.ntmps102
            go_wp2_with (first | (go_at_call 122; refine (hC _).mono ?_; rintro e w1 ⟨rfl, rfl⟩) | (go_at_call 123; refine hA.mono ?_; rintro e w2 ⟨rfl, hb2⟩) | (go_at_call 48; refine (nameOf_any n hn _ (hE.below hb2)).mono ?_; rintro e w4 ⟨rfl, hb4⟩))
            try simp only [hbq]
            go_wp2
            go_ret2
            exact ⟨rfl, hb2.trans (hb4.mono hb2.size)⟩

end Go.Proofs.YtgfmnffaknmcnaaGreatDoor.Vl
