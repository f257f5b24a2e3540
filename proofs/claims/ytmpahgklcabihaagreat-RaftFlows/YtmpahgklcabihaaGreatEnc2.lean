/- The walk over code.go: Encode. -/
import Derived.Test.YtmpahgklcabihaaGreatEnc
import Derived.Laws.IdiomStrings
namespace Go.Proofs.YtmpahgklcabihaaGreat
open Go.RowKit

theorem conv_own {w : World} {B : Nat} {v : Value} {n : Nat} {l : List UInt8} (h : w.ownsRow B 5 1 v n (bys l)) : (convert 64 9 v).run Tryz.prog w = .ok (.string ⟨l.toArray⟩) w := by
  have hlen : l.length = n := by have := h.1; simpa [bys] using this
  subst hlen
  rcases h.2 with ⟨rfl, h0⟩ | ⟨g, cap, cur, rfl, _⟩
  · have : l = [] := List.eq_nil_of_length_eq_zero h0
    subst this
    rw [run_convert_bytes_string w 64 9 5 none 0 0 Tryz.underlying64 Tryz.underlying5 Tryz.underlying9]
    simp [Conv.bytesToString, Sem.run_pure]; rfl
  · refine run_convert_bytes_back w 64 9 5 ⟨g, 0, none⟩ cap l Tryz.underlying64 Tryz.underlying5 Tryz.underlying9 (fun j hj => ?_)
    refine h.cells rfl j _ ?_
    simp [bys, List.getElem?_eq_getElem hj]

/-- what Encode answers -/
def encode (l : List Fld) : ByteArray × Nat :=
  if 4096 < l.length then (⟨#[]⟩, 2) else if l.all Fld.may = false then (⟨#[]⟩, 4) else if 262144 < (encs l).length then (⟨#[]⟩, 2) else (⟨(encs l).toArray⟩, 0)
abbrev encodeV (l : List Fld) : Value := .tuple #[.string (encode l).1, .int .i64 (encode l).2]

theorem encode_many {l : List Fld} (h : 4096 < l.length) : Ending.returned (.tuple #[.string ⟨#[]⟩, .int .i64 2]) = .returned (encodeV l) := by simp [encodeV, encode, h]
theorem encode_bad {l : List Fld} (h : ¬ 4096 < l.length) (h2 : l.all Fld.may = false) : Ending.returned (.tuple #[.string ⟨#[]⟩, .int .i64 4]) = .returned (encodeV l) := by simp [encodeV, encode, h, h2]
theorem encode_long {l : List Fld} (h : ¬ 4096 < l.length) (h2 : l.all Fld.may = true) (h3 : 262144 < (encs l).length) : Ending.returned (.tuple #[.string ⟨#[]⟩, .int .i64 2]) = .returned (encodeV l) := by simp [encodeV, encode, h, h2, h3]
theorem encode_ok {l : List Fld} (h : ¬ 4096 < l.length) (h2 : l.all Fld.may = true) (h3 : ¬ 262144 < (encs l).length) : Ending.returned (.tuple #[.string ⟨(encs l).toArray⟩, .int .i64 0]) = .returned (encodeV l) := by simp [encodeV, encode, h, h2, h3]

theorem may_bad {l : List Fld} {k : Nat} (h : k < l.length) (hm : (l[k]).may = false) : l.all Fld.may = false := by
  rw [List.all_eq_false]; exact ⟨l[k], List.getElem_mem h, by simp [hm]⟩
theorem may_all {l : List Fld} (h : ∀ j (hj : j < l.length), (l[j]).may = true) : l.all Fld.may = true := by
  rw [List.all_eq_true]; intro x hx; obtain ⟨j, hj, rfl⟩ := List.getElem_of_mem hx; exact h j hj

theorem own_keep {B : Nat} {v : Value} {m : Nat} {l : List Value} {a b : World} (hb : Below a.heap.size a b) (h : a.ownsRow B 5 1 v m l) : b.ownsRow B 5 1 v m l := by
  refine ⟨h.1, ?_⟩
  rcases h.2 with hn | ⟨g, cap, cur, rfl, h1, hgg, rest⟩
  · exact .inl hn
  · exact .inr ⟨g, cap, cur, rfl, h1, (hb.block g (Array.getElem?_eq_some_iff.1 hgg).1).trans hgg, rest⟩
theorem own_ne {B : Nat} {v : Value} {m : Nat} {l : List Value} {w : World} (h : w.ownsRow B 5 1 v m l) : some w.heap.size ≠ v.ownBlock := fun e => by have := (h.lt _ e.symm).2; omega
theorem Sat.grown {B H : Nat} {w : World} {o : Nat} {c : Value} {a b : World} {v : Value} (hg : a.grownBy b v.ownBlock) (hne : some H ≠ v.ownBlock) (hB : B ≤ H) (hlt : ∀ k, v.ownBlock = some k → B ≤ k) (h : Sat B H w o c a) : Sat B H w o c b :=
  ⟨(World.cell?_of_block (a := ⟨H, o, none⟩) (hg.block H h.2.1 hne)).trans h.1, Nat.lt_of_lt_of_le h.2.1 hg.size, h.2.2.grown hg (by have := h.2.1; omega) hlt⟩
theorem own_next {B : Nat} {v : Value} {q : Nat} {x y z : List UInt8} {w : World} (he : z = x ++ y) (h : w.ownsRow B 5 1 v (x.length + q) (bys (x ++ y))) : w.ownsRow B 5 1 v z.length (bys z) := by
  subst he
  have := h.1
  rw [bys_length] at this
  rw [show (x ++ y).length = x.length + q from by omega]
  exact h

set_option maxRecDepth 100000 in
set_option maxHeartbeats 4000000 in
theorem Encode_any (a : Option Addr) (cap : Nat) (fs : List Fld) (w : World) (hl : Lies w a fs) (hn : fs.length ≤ 9223372036854775807) (hsz : ∀ x ∈ fs, x.s.size ≤ 140737488351232) :
    Calls Tryz.prog 126 #[.slice a fs.length cap] w fun e w' => e = .returned (encodeV fs) ∧ Below w.heap.size w w' := by
  obtain ⟨i0, hi, hz0, hz1, hz2⟩ := info_parts u8_info
  by_cases hmany : 4096 < fs.length
  · go_enter Tryz.func126, Tryz.ntmps126
    go_wp2
    go_ret2
    exact ⟨encode_many hmany, Below.refl _ _⟩
  · have hmany' : fs.length ≤ 4096 := by omega
    go_enter Tryz.func126, Tryz.ntmps126
    go_wp2
    go_loopw [16] (fun i wr => ∃ k : Nat, k ≤ fs.length ∧ i = .int .i64 k ∧ (∀ j (hj : j < fs.length), j < k → (fs[j]).may = true) ∧ Below w.heap.size w wr) (fun i _ => fs.length - (intOf i).toNat)
    case atStart => exact ⟨0, by omega, rfl, fun _ _ h => absurd h (by omega), Below.refl _ _⟩
    case round =>
      obtain ⟨k, hk, rfl, hmay, hbel⟩ := hrel
      have hwr := hbel.size
      by_cases hlt : k < fs.length
      · obtain ⟨b, off, rfl, c0', c1', c2'⟩ := hl.at k hlt hbel
        have HM : Hid (∀ j (hj : j < fs.length), j < k → (fs[j]).may = true) := hmay
        clear hmay
        cases hx : (fs[k]).may
        · have HB : Hid (fs.all Fld.may = false) := may_bad hlt hx
          go_wp2_with fail
          refine (mayBe_any (fs[k]) _).mono ?_
          rintro e w1 ⟨rfl, hb1⟩
          rw [hx]
          have hbel2 := (hbel.alloc hwr _).trans (hb1.mono (by simp; omega))
          go_wp2
          go_ret2
          exact ⟨encode_bad hmany HB.out, hbel2⟩
        · go_wp2_with fail
          refine (mayBe_any (fs[k]) _).mono ?_
          rintro e w1 ⟨rfl, hb1⟩
          rw [hx]
          have hbel2 := (hbel.alloc hwr _).trans (hb1.mono (by simp; omega))
          go_wp2
          go_roundw
          case rel =>
            refine ⟨k + 1, by omega, by go_num, fun j hj hjk => ?_, hbel2⟩
            by_cases e : j = k
            · subst e; exact hx
            · exact HM.out j hj (by omega)
          case measure => simp [intOf]; omega
      · have HA : Hid (fs.all Fld.may = true) := may_all (fun j hj => hmay j hj (by omega))
        clear hmay
        go_wp2_with fail
        refine (longOf_any a cap fs wr (hl.later hbel) hmany' hsz).mono ?_
        rintro e w1 ⟨rfl, hb1⟩
        have hbel1 := hbel.trans (hb1.mono hwr)
        have hwr1 := hbel1.size
        clear hbel hb1
        by_cases hlong : 262144 < (encs fs).length
        · rw [longs, if_neg (by omega)]
          go_wp2
          go_ret2
          exact ⟨encode_long hmany HA.out hlong, hbel1⟩
        · rw [longs, if_pos (by omega)]
          have hlong' : ((encs fs).length : Int) ≤ 262144 := by omega
          go_wp2_with (at_make; refine wpList_make_own _ rfl _ _ 64 rfl w.heap.size 5 i0 (.int .u8 0) 1 Tryz.underlying64 hi hz0 hz1 .i64 .i64 _ (encs fs).length rfl rfl rfl (by rw [hz2]; omega) (by unfold maxLen; omega) (by omega) ?_)
          intro w2 hown0 hg0
          have hbel2 := hbel1.grown hg0 hwr1 (by simp)
          clear hbel1 hg0
          go_wp2
          obtain ⟨wo, rfl⟩ : ∃ wo : World, wo = wr := ⟨_, rfl⟩
          go_loopw [8, 35] (fun v i wx => ∃ j : Nat, j ≤ fs.length ∧ i = .int .i64 j ∧ wx.ownsRow w.heap.size 5 1 v (encs (fs.take j)).length (bys (encs (fs.take j))) ∧ Below w.heap.size w wx) (fun _ i _ => fs.length - (intOf i).toNat)
          case atStart => exact ⟨0, by omega, rfl, hown0, hbel2⟩
          case round =>
            clear hown0 hbel2
            obtain ⟨wx, rfl⟩ : ∃ wx : World, wx = wr := ⟨_, rfl⟩
            obtain ⟨vx, rfl⟩ : ∃ vx : Value, vx = u8 := ⟨_, rfl⟩
            obtain ⟨j, hj, rfl, hown, hbelr⟩ := hrel
            have hwr' := hbelr.size
            by_cases hlt2 : j < fs.length
            · obtain ⟨b, off, rfl, c0', c1', c2'⟩ := hl.at j hlt2 hbelr
              have HE : Hid (encs (fs.take (j + 1)) = encs (fs.take j) ++ enc fs[j]) := encs_snoc fs j hlt2
              have HT := encs_take_le fs (j + 1)
              have HL : (encs (fs.take (j + 1))).length = (encs (fs.take j)).length + (enc fs[j]).length := by rw [encs_snoc fs j hlt2]; simp
              have hle : (encs (fs.take j)).length + (enc fs[j]).length ≤ 262144 := by omega
              clear HT HL
              generalize fs[j] = x at *
              obtain ⟨t, n, s⟩ := x
              cases t
              · rw [enc_num] at HE
                go_wp2_with fail
                obtain ⟨W, hW, d0, d1, d2, hsz1, hbel3⟩ := box3 hbelr hwr' (.bool false) (.int .i64 n) (.string s) 120
                have hownW := hown.alloc (.cells #[.bool false, .int .i64 n, .string s] 120)
                rw [← hW] at hownW ⊢
                clear hW
                have hS : Sat w.heap.size wx.heap.size w 1 (.int .i64 n) W := ⟨d1, hsz1, hbel3⟩
                have hneW := own_ne hown
                have hltW : ∀ k, vx.ownBlock = some k → w.heap.size ≤ k := fun k hk => (hown.lt k hk).1
                clear d0 d1 d2 c0' c1' c2' hbel3
                go_region_held3 (Sat w.heap.size wx.heap.size w 1 (.int .i64 n)) (first | exact Sat.grown (by assumption) hneW hwr' hltW (by assumption) | exact Sat.call (by assumption) hwr' (by assumption) | exact Sat.drew (by assumption))
                  (first | (go_at_call 174; refine (numbers_any _).mono ?_; rintro e w3 ⟨rfl, hb3⟩) | (go_at_call 173; refine (writeN_any w.heap.size _ _ (encs (fs.take j)) _ _  (by omega) (by have := hb3.size; simp at this; omega) (own_keep hb3 hownW.drew)).mono ?_; rintro e w4 ⟨v4, rfl, hown4, hg4⟩))
                have hb5 : Sat w.heap.size wx.heap.size w 1 (.int .i64 n) w4 := by assumption
                have hbel5 := hb5.2.2
                have hown5 : w4.ownsRow w.heap.size 5 1 v4 (encs (fs.take (j + 1))).length (bys (encs (fs.take (j + 1)))) := own_next HE.out hown4
                clear hb5 hS hb3 hown4 hg4 hownW hneW hown hltW
                go_wp2
                go_roundw
                case rel => exact ⟨j + 1, by omega, by go_num, hown5, hbel5⟩
                case measure => simp [intOf]; omega
              · rw [enc_text] at HE
                go_wp2_with fail
                obtain ⟨W, hW, d0, d1, d2, hsz1, hbel3⟩ := box3 hbelr hwr' (.bool true) (.int .i64 n) (.string s) 120
                have hownW := hown.alloc (.cells #[.bool true, .int .i64 n, .string s] 120)
                rw [← hW] at hownW ⊢
                clear hW
                have hS : Sat w.heap.size wx.heap.size w 2 (.string s) W := ⟨d2, hsz1, hbel3⟩
                have hneW := own_ne hown
                have hltW : ∀ k, vx.ownBlock = some k → w.heap.size ≤ k := fun k hk => (hown.lt k hk).1
                clear d0 d1 d2 c0' c1' c2' hbel3
                go_region_held3 (Sat w.heap.size wx.heap.size w 2 (.string s)) (first | exact Sat.grown (by assumption) hneW hwr' hltW (by assumption) | exact Sat.call (by assumption) hwr' (by assumption) | exact Sat.drew (by assumption))
                  (first | (go_at_call 172; refine (texts_any _).mono ?_; rintro e w3 ⟨rfl, hb3⟩) | (go_at_call 171; refine (writeT_any w.heap.size _ _ (encs (fs.take j)) _ _ (by rw [enc_text_length] at hle; omega) (by omega) (by have := hb3.size; simp at this; omega) (own_keep hb3 hownW.drew)).mono ?_; rintro e w4 ⟨v4, rfl, hown4, hg4⟩))
                have hb5 : Sat w.heap.size wx.heap.size w 2 (.string s) w4 := by assumption
                have hbel5 := hb5.2.2
                have hown5 : w4.ownsRow w.heap.size 5 1 v4 (encs (fs.take (j + 1))).length (bys (encs (fs.take (j + 1)))) := own_next HE.out hown4
                clear hb5 hS hb3 hown4 hg4 hownW hneW hown hltW
                go_wp2
                go_roundw
                case rel => exact ⟨j + 1, by omega, by go_num, hown5, hbel5⟩
                case measure => simp [intOf]; omega
            · have hjl : j = fs.length := by omega
              subst hjl
              rw [List.take_length] at hown
              have hcv := conv_own hown
              clear hown
              go_wp2
              go_ret2
              exact ⟨encode_ok hmany HA.out hlong, hbelr⟩

end Go.Proofs.YtmpahgklcabihaaGreat
