/- Where values lie: their block, the disk beside it. Walks over vals: Files, find, read. -/
import Derived.Test.YtgfmnffaknmcnaaGreatDoorVlNum
import Derived.Test.YtgfmnffaknmcnaaGreatDoorDAppend
import Derived.Test.YtgfmnffaknmcnaaGreatDoorDCrash
import Derived.Test.YtgfmnffaknmcnaaGreatDoorDNew
namespace Go.Proofs.YtgfmnffaknmcnaaGreatDoor.Vl
open Go.RowKit Go.Joins
open Go.Proofs.YtgfmnffaknmcnaaGreatDoor.Dk (Bs Fil Fls St St.Ok Held Only Rising nms nms_size names_any named getL getL_some)

abbrev ValsT : TypeId := 88
abbrev valC (bd most top : Nat) : Array Value := #[.pointer (some ⟨bd, 0, none⟩), .int .i64 most, .int .i64 top]
/-- what is owned, and what comes -/
abbrev plus (own : Nat → Prop) (n : Nat) : Nat → Prop := fun b => own b ∨ n ≤ b
/-- values and their disk lie there, behind what was there at w0 -/
structure VH (w0 w : World) (own : Nat → Prop) (bd bv most top : Nat) (S : St) : Prop where
  disk : Held w own bd S
  old : ∀ b, own b → w0.heap.size ≤ b ∧ b < w.heap.size
  block : w.heap[bv]? = some (.cells (valC bd most top) ValsT (0, 0))
  no : ¬ own bv
  ge : w0.heap.size ≤ bv
  env : Env w0
  base : Below w0.heap.size w0 w
section
variable {w0 w w' : World} {own : Nat → Prop} {bd bv most top : Nat} {S : St}
theorem VH.lt (h : VH w0 w own bd bv most top S) : bv < w.heap.size := (Array.getElem?_eq_some_iff.1 h.block).1
theorem VH.below (h : VH w0 w own bd bv most top S) (hb : Below w.heap.size w w') : VH w0 w' own bd bv most top S :=
  ⟨h.disk.below hb, fun b hb2 => ⟨(h.old b hb2).1, Nat.lt_of_lt_of_le (h.old b hb2).2 hb.size⟩, (hb.block _ h.lt).trans h.block, h.no, h.ge, h.env, h.base.trans (hb.mono h.base.size)⟩
theorem VH.envW (h : VH w0 w own bd bv most top S) : Env w := h.env.below h.base
theorem VH.c0 (h : VH w0 w own bd bv most top S) : w.cell? ⟨bv, 0, none⟩ = some (.pointer (some ⟨bd, 0, none⟩)) := by rw [cell_of_block h.block]; rfl
theorem VH.c1 (h : VH w0 w own bd bv most top S) : w.cell? ⟨bv, 1, none⟩ = some (.int .i64 most) := by rw [cell_of_block h.block]; rfl
theorem VH.c2 (h : VH w0 w own bd bv most top S) : w.cell? ⟨bv, 2, none⟩ = some (.int .i64 top) := by rw [cell_of_block h.block]; rfl
theorem VH.fz (h : VH w0 w own bd bv most top S) (i : Nat) : w.frozen? ⟨bv, i, none⟩ = false := unfrozen_of_block h.block i
theorem VH.ok (h : VH w0 w own bd bv most top S) : S.Ok := h.disk.ok
end

/-- the names of a disk's files -/
def keys (S : St) : List ByteArray := S.files.map fun p => ⟨p.1.toArray⟩
theorem keys_nums (S : St) : nmsL (keys S) = nums S := by
  unfold nmsL nums keys
  rw [List.map_map]
  congr 1
theorem names_all {own : Nat → Prop} {bd : Nat} {S : St} (w : World) (h : Held w own bd S) :
    Calls Tryz.prog 21 #[.pointer (some ⟨bd, 0, none⟩)] w fun e w' => ∃ v, e = .returned v ∧ w'.ownsRow w.heap.size 9 1 v (keys S).length (Gk.rc sE (keys S)) ∧ Below w.heap.size w w' := by
  obtain ⟨bm, l, hL, hfl, hok⟩ := h
  have hm : l.length ≤ 64 := by have := hok.many; rw [hfl, List.length_map] at this; exact this
  have := names_any w hL.base hm (fun p hp => (hok.each (p.1, p.2.2) (by rw [hfl]; exact List.mem_map.2 ⟨p, hp, rfl⟩)).1)
  have e : nms l = keys S := by
    unfold keys nms
    rw [hfl, List.map_map]; rfl
  rw [e] at this
  refine this.mono ?_
  rintro e w' ⟨v, rfl, h1, h2⟩
  refine ⟨v, rfl, ?_, h2⟩
  rw [sE_rc]
  exact h1
theorem keys_size {S : St} (h : S.Ok) : ∀ s ∈ keys S, s.size ≤ 32 := by
  intro s hs
  obtain ⟨p, hp, rfl⟩ := List.mem_map.1 hs
  have h1 := (h.each p hp).1
  simp only [named, Bool.and_eq_true, decide_eq_true_eq] at h1
  show Array.size _ ≤ _
  rw [List.size_toArray]; exact h1.1.2

section
variable {w0 w w' : World} {own : Nat → Prop} {bd bv most top : Nat} {S : St}
set_option maxRecDepth 100000 in
theorem Files_any (h : VH w0 w own bd bv most top S) :
    Calls Tryz.prog 18 #[.pointer (some ⟨bv, 0, none⟩)] w fun e w' => ∃ v, e = .returned v ∧ w'.ownsRow w.heap.size IntT 1 v (nums S).length (Gk.rc nE (nums S)) ∧ Below w.heap.size w w' := by
  have hN := names_all w h.disk
  have c0 := h.c0
  have hlen : (keys S).length ≤ 64 := by rw [keys, List.length_map]; exact h.ok.many
  have hsz := keys_size h.ok
  have hE := h.envW
  have HK := hide (keys_nums S)
  generalize keys S = ks at *
  clear h
  go_enter Tryz.func18, Tryz.ntmps18
  go_wp2_with fail
  refine hN.mono ?_
  rintro e w1 ⟨v, rfl, hown, hb1⟩
  obtain ⟨a, cap, rfl⟩ := Gk.own_slice hown
  have hL : Gk.Lies w1 sE a ks := Gk.Row.lies (k := 1) (e := 9) (n := ks.length) (cap := cap) (Gk.own_mono hown (Nat.zero_le _))
  have hM := numbersOf_any a cap ks w1 hL hlen hsz (hE.below hb1)
  clear hN c0 hL
  go_wp2_with fail
  refine hM.mono ?_
  rintro e w2 ⟨v, rfl, hv, hb2⟩
  clear hM
  go_wp2
  go_ret
  rw [← HK.out]
  exact ⟨_, rfl, Gk.own_mono hv hb1.size, hb1.trans (hb2.mono hb1.size)⟩
/-- is there a file of that number -/
def hasN (l : List Nat) (z : Int) : Bool := (l.map fun (n : Nat) => (n : Int)).contains z
theorem hasN_yes {l : List Nat} {n : Nat} (h : n ∈ l) : hasN l n = true := by
  unfold hasN
  rw [List.contains_iff_mem]
  exact List.mem_map.2 ⟨n, h, rfl⟩
theorem hasN_some {l : List Nat} {z : Int} (h : hasN l z = true) : ∃ n ∈ l, (n : Int) = z := by
  unfold hasN at h
  rw [List.contains_iff_mem] at h
  exact List.mem_map.1 h
theorem hasN_no {l : List Nat} {n : Nat} (h : n ∉ l) : hasN l n = false := by
  cases hh : hasN l n with
  | false => rfl
  | true => obtain ⟨m, hm, e⟩ := hasN_some hh; exact absurd (show n ∈ l by rwa [← Int.ofNat.inj e]) h
theorem cont_any (a : Option Addr) (cap : Nat) (l : List Nat) (z : Int) (w : World) (hL : Gk.Lies w nE a l) (hl : l.length ≤ 64) :
    Calls Tryz.prog 120 #[.slice a l.length cap, .int .i64 z] w fun e w' => e = .returned (.bool (hasN l z)) ∧ w' = w := by
  rcases hL with rfl | ⟨b, off, rfl, hlt, hc⟩
  · exact Any.slices_Contains_int_empty Tryz.laysCont a cap z w
  · have := Any.slices_Contains_int Tryz.laysCont b off l.length cap (l.map fun (n : Nat) => (n : Int)) z w (by simp) (by omega) (fun j hj => by
      rw [List.length_map] at hj
      refine hc j _ ?_
      rw [nE_rc, List.getElem?_map, List.getElem?_eq_getElem hj]
      simp [List.getD, hj])
    rw [List.take_of_length_le (by simp)] at this
    exact this
set_option maxRecDepth 100000 in
theorem find_any (h : VH w0 w own bd bv most top S) (z : Int) :
    Calls Tryz.prog 98 #[.pointer (some ⟨bv, 0, none⟩), .int .i64 z] w fun e w' => e = (if hasN (nums S) z = true then .returned (.tuple #[]) else gone 110) ∧ Below w.heap.size w w' := by
  have hF := Files_any h
  have hl : (nums S).length ≤ 64 := Nat.le_trans nums_len h.ok.many
  generalize nums S = l at *
  clear h
  obtain ⟨E, HE⟩ : ∃ E : Ending, Hid (E = (if hasN l z = true then .returned (.tuple #[]) else gone 110)) := ⟨_, rfl⟩
  rw [← HE.out]
  go_enter Tryz.func98, Tryz.ntmps98
  go_wp2_with fail
  refine hF.mono ?_
  rintro e w1 ⟨v, rfl, hown, hb1⟩
  obtain ⟨a, cap, rfl⟩ := Gk.own_slice hown
  have hL : Gk.Lies w1 nE a l := Gk.Row.lies (k := 1) (e := IntT) (n := l.length) (cap := cap) (Gk.own_mono hown (Nat.zero_le _))
  have hC := cont_any a cap l z w1 hL hl
  clear hF hL
  go_wp2_with fail
  refine hC.mono ?_
  rintro e w2 ⟨rfl, rfl⟩
  clear hC
  cases hh : hasN l z with
  | true =>
    go_wp2_with (first | (go_at_call 36; refine (refuse_no 110 _).mono ?_; rintro e w3 ⟨rfl, rfl⟩))
    go_end0
    exact ⟨by rw [HE.out, if_pos hh], hb1⟩
  | false =>
    go_wp2_with (first | (go_at_call 36; refine (refuse_yes 110 _).mono ?_; rintro e w3 ⟨rfl, rfl⟩))
    exact ⟨rfl, by rw [HE.out, if_neg (by simp [hh])]; rfl, hb1⟩
/-- a file's bytes -/
def dat (S : St) (n : Nat) : Bs := (S.read (nm n)).1
theorem read_nm {S : St} (hr : Rising S.files) {n : Nat} (h : n ∈ nums S) : S.read (nm n) = (dat S n, 0) := by
  obtain ⟨f, hf⟩ := nums_get hr h
  have hn := nums_bound h
  unfold dat St.read
  rw [if_neg (by simp [nm_named (show n ≤ 1048577 by omega)]), hf]
theorem dat_get {S : St} {n : Nat} {f : Fil} (hn : n ≤ 1048577) (h : getL (nm n) S.files = some f) : dat S n = f.data := by
  unfold dat St.read
  rw [if_neg (by simp [nm_named hn]), h]
theorem dat_none {S : St} {n : Nat} (hn : n ≤ 1048577) (h : getL (nm n) S.files = none) : dat S n = [] := by
  unfold dat St.read
  rw [if_neg (by simp [nm_named hn]), h]
theorem dat_le {S : St} (h : S.Ok) {n : Nat} (hn : n ≤ 1048577) : (dat S n).length ≤ 262144 := by
  cases hg : getL (nm n) S.files with
  | none => rw [dat_none hn hg]; simp
  | some f =>
    rw [dat_get hn hg]
    have h2 := Dk.le_sumL' (fun f : Fil => f.data.length) (getL_some hg)
    exact Nat.le_trans h2 (Nat.le_trans h.sum h.room)
theorem nt_small {n : Nat} (h : n ≤ 1048577) : (nt n).size ≤ 140737488351232 := by rw [nt_size]; have := dec_small h; omega

/-- the disk's pointer is there, and nothing that was there has turned -/
abbrev LS (bv bd : Nat) (w W : World) : Prop := W.cell? ⟨bv, 0, none⟩ = some (.pointer (some ⟨bd, 0, none⟩)) ∧ Hid (bv < W.heap.size ∧ Below w.heap.size w W)
theorem LS.drew {bv bd : Nat} {w W : World} (h : LS bv bd w W) : LS bv bd w W.drew := ⟨h.1, h.2.out.1, h.2.out.2.drew⟩
theorem LS.call {bv bd : Nat} {w W W' : World} (hb : Below W.heap.size W W') (h : LS bv bd w W) : LS bv bd w W' :=
  ⟨(hb.cell (p := ⟨bv, 0, none⟩) h.2.out.1).trans h.1, Nat.lt_of_lt_of_le h.2.out.1 hb.size, h.2.out.2.trans (hb.mono h.2.out.2.size)⟩
theorem LS.bel {bv bd : Nat} {w W : World} (h : LS bv bd w W) : Below w.heap.size w W := h.2.out.2

set_option maxRecDepth 100000 in
set_option maxHeartbeats 1600000 in
theorem read_yes (h : VH w0 w own bd bv most top S) {n : Nat} (hn : n ∈ nums S) :
    Calls Tryz.prog 68 #[.pointer (some ⟨bv, 0, none⟩), .int .i64 n] w fun e w' => e = .returned (.string ⟨(dat S n).toArray⟩) ∧ Below w.heap.size w w' := by
  have hF := find_any h n
  rw [if_pos (hasN_yes hn)] at hF
  have hb := nums_bound hn
  have hrd : ∀ W, Below w.heap.size w W → Calls Tryz.prog 107 #[.pointer (some ⟨bd, 0, none⟩), .string (nt n)] W fun e w' => e = .returned (.tuple #[.string ⟨(dat S n).toArray⟩, .int .i64 0]) ∧ Below W.heap.size W w' := fun W hb2 => by
    have := Dk.read_any W (h.below hb2).disk (nt n) (nt_small (by omega))
    rw [nt_list, read_nm h.ok.rising hn] at this
    exact this
  have hnm : ∀ W, Below w.heap.size w W → Calls Tryz.prog 48 #[.int .i64 n] W fun e w' => e = .returned (.string (nt n)) ∧ Below W.heap.size W w' := fun W hb2 => nameOf_any _ (by omega) W (h.below hb2).envW
  have HV := hide h
  generalize (ByteArray.mk (dat S n).toArray) = D at *
  clear h hn
  go_enter Tryz.func68, Tryz.ntmps68
  go_wp2_with fail
  refine hF.mono ?_
  rintro e w1 ⟨rfl, hb1⟩
  have h1 := HV.out.below hb1
  have hc0 := h1.c0
  have hLS : LS bv bd w w1 := ⟨hc0, h1.lt, hb1⟩
  clear hF h1
  go_wp2
  go_region_held3 (LS bv bd w) (first | with_reducible exact LS.drew (by assumption) | with_reducible exact LS.call (by assumption) (by assumption) | with_reducible assumption)
    (first | (go_at_call 48; refine (hnm _ (LS.bel (by assumption))).mono ?_; rintro e w2 ⟨rfl, hb2⟩) | (go_at_call 107; refine (hrd _ (LS.bel (by assumption))).mono ?_; rintro e w3 ⟨rfl, hb3⟩))
  have hf : LS bv bd w w3 := by assumption
  have hb9 : Below w.heap.size w w3 := hf.bel
  clear hf hb2 hb3 hnm hrd hLS hc0
  go_wp2_with (first | (go_at_call 45; refine (pass_no _).mono ?_; rintro e w4 ⟨rfl, rfl⟩))
  go_ret
  exact ⟨rfl, hb9⟩
set_option maxRecDepth 100000 in
theorem read_no (h : VH w0 w own bd bv most top S) {z : Int} (hn : hasN (nums S) z = false) :
    Calls Tryz.prog 68 #[.pointer (some ⟨bv, 0, none⟩), .int .i64 z] w fun e w' => e = gone 110 ∧ Below w.heap.size w w' := by
  have hF := find_any h z
  rw [if_neg (by simp [hn])] at hF
  clear h hn
  go_enter Tryz.func68, Tryz.ntmps68
  go_wp2_with fail
  refine hF.mono ?_
  rintro e w1 ⟨rfl, hb1⟩
  exact ⟨rfl, rfl, hb1⟩
end

end Go.Proofs.YtgfmnffaknmcnaaGreatDoor.Vl
