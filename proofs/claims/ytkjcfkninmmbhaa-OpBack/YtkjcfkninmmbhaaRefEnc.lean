/- Walks over the document's own answer: Bytes, Encode. -/
import Derived.Test.YtkjcfkninmmbhaaRefNum
import Derived.Test.YtkjcfkninmmbhaaDec
namespace Go.Proofs.Ytkjcfkninmmbhaa
open Go.RowKit

/-- what Bytes may tell: the list's bytes, or some that are too many, as the list's are -/
def bytesOk (fs : List Fld) (l : List UInt8) : Prop := l = encs fs ∨ (262144 < l.length ∧ 262144 < (encs fs).length)

theorem enc_le (x : Fld) (h : x.s.size ≤ 4000000) : (enc x).length ≤ 4000010 := by
  obtain ⟨t, n, s⟩ := x
  cases t
  · rw [enc_num_length]; have := Pl.wd_le (u64 n); omega
  · rw [enc_text_length]; have := Pl.wd_le s.size; simp only at h; omega

theorem own_nextS {B : Nat} {v : Value} {S : ByteArray} {x y z : List UInt8} {w : World} (he : z = x ++ y) (hS : S = ⟨y.toArray⟩) (h : w.ownsRow B 5 1 v (x.length + S.size) (bys x ++ Lib.strCells S)) : w.ownsRow B 5 1 v z.length (bys z) := by
  subst he hS
  rw [bys_str] at h
  have e : (ByteArray.mk y.toArray).size = y.length := by show y.toArray.size = _; simp
  rw [e] at h
  rw [List.length_append]
  simpa using h

set_option maxRecDepth 100000 in
set_option maxHeartbeats 1600000 in
theorem rBytes_any (a : Option Addr) (cap : Nat) (fs : List Fld) (w : World) (hl : Lies w a fs) (hn : fs.length ≤ 4096) (hsz : ∀ x ∈ fs, x.s.size ≤ 4000000) :
    Calls Try.prog 59 #[.slice a fs.length cap] w fun e w' => ∃ l, e = .returned (.string ⟨l.toArray⟩) ∧ bytesOk fs l ∧ l.length ≤ 5000000 ∧ Below w.heap.size w w' := by
  obtain ⟨i0, hi, hz0, hz1, hz2⟩ := info_parts u8_info
  go_enter Try.func59, Try.ntmps59
  go_wp2
  go_loopw [3, 4] (fun v i wr => ∃ j : Nat, j ≤ fs.length ∧ i = .int .i64 j ∧ wr.ownsRow w.heap.size 5 1 v (encs (fs.take j)).length (bys (encs (fs.take j))) ∧ (encs (fs.take j)).length ≤ 5000000 ∧ Below w.heap.size w wr) (fun _ i _ => fs.length - (intOf i).toNat)
  case atStart => exact ⟨0, by omega, rfl, World.ownsRow_nil _ _ _ _, by simp [encs], Below.refl _ _⟩
  case round =>
    obtain ⟨j, hj, rfl, hown, hq, hbel⟩ := hrel
    have hwr := hbel.size
    have HTL := hide (encs_take_le fs j)
    obtain ⟨av, cv, rfl⟩ := own_slice hown
    by_cases hlt : j < fs.length
    · by_cases hbig : 262144 < (encs (fs.take j)).length
      · have hcv := conv_own hown
        have HB := hide (show bytesOk fs (encs (fs.take j)) from Or.inr ⟨hbig, by have := HTL.out; omega⟩)
        clear hown
        have b1 : ¬ ((encs (fs.take j)).length : Int) ≤ 262144 := by omega
        generalize encs (fs.take j) = l at *
        go_wp2
        go_ret
        exact ⟨l, rfl, HB.out, hq, hbel⟩
      · have hsm : ((encs (fs.take j)).length : Int) ≤ 262144 := by omega
        obtain ⟨b, off, rfl, c0', c1', c2'⟩ := hl.at j hlt hbel
        have HE := hide (encs_snoc fs j hlt)
        have hs' := hsz fs[j] (List.getElem_mem hlt)
        have hel := enc_le fs[j] hs'
        have HQ := hide (show (encs (fs.take (j + 1))).length ≤ 5000000 from by rw [encs_snoc fs j hlt, List.length_append]; omega)
        obtain ⟨l1, hl1⟩ : ∃ l1, l1 = encs (fs.take (j + 1)) := ⟨_, rfl⟩
        rw [← hl1] at HE HQ
        have HX := hide hl1
        clear hl1
        generalize encs (fs.take j) = l0 at *
        generalize fs[j] = x at *
        have hO := rOne_any x wr (by omega)
        obtain ⟨S, hS, hSz⟩ : ∃ S, S = ByteArray.mk (enc x).toArray ∧ S.size ≤ 4000010 := ⟨_, rfl, by show (enc x).toArray.size ≤ _; simpa using hel⟩
        rw [← hS] at hO
        have HS := hide hS
        clear hS hel
        have i1 : (0 : Int) ≤ (j : Int) := by omega
        have i2 : (j : Int) < (fs.length : Int) := by omega
        go_wp2_with fail
        refine hO.mono ?_
        rintro e w1 ⟨rfl, hb1⟩
        have hbel1 := hbel.trans (hb1.mono hwr)
        have hown1 := own_keepF hb1 hown
        have hzz := hb1.size
        clear hO hb1 hown hbel c0' c1' c2'
        go_wp2_with (at_builtin; refine Lib.wpList_append_own_string _ rfl (.tmp 16) (.tmp 21) 81 9 rfl w.heap.size 5 i0 Try.underlying81 Try.underlying9 hi hz0 hz1 hz2 _ _ _ rfl hown1 _ rfl ?d3 ?d4 ?d5 ?_)
        case d3 => unfold maxLen; omega
        case d4 => omega
        case d5 => omega
        intro v2 w2 hown2 hg2 _
        have hbel2 : Below w.heap.size w w2 := hbel1.grown hg2 (by omega) (fun k hk => (hown1.lt k hk).1)
        have hown3 := own_nextS HE.out HS.out hown2
        clear hown1 hown2 hg2 hbel1
        go_wp2
        go_roundw
        case rel => exact ⟨j + 1, by omega, by go_num, by rw [← HX.out]; exact hown3, by rw [← HX.out]; exact HQ.out, hbel2⟩
        case measure => simp [intOf]; omega
    · obtain rfl : j = fs.length := by omega
      rw [List.take_length] at *
      have hcv := conv_own hown
      clear hown
      have HB := hide (show bytesOk fs (encs fs) from Or.inl rfl)
      generalize encs fs = l at *
      go_wp2
      go_ret
      exact ⟨l, rfl, HB.out, hq, hbel⟩

set_option maxRecDepth 100000 in
set_option maxHeartbeats 1600000 in
theorem rEncode_any (a : Option Addr) (cap : Nat) (fs : List Fld) (w : World) (hl : Lies w a fs) (hn : fs.length ≤ 4611686018427387904) (hsz : ∀ x ∈ fs, x.s.size ≤ 4000000) :
    Calls Try.prog 30 #[.slice a fs.length cap] w fun e w' => e = .returned (encodeV fs) ∧ Below w.heap.size w w' := by
  by_cases hmany : 4096 < fs.length
  · go_enter Try.func30, Try.ntmps30
    go_wp2
    go_ret2
    exact ⟨encode_many hmany, Below.refl _ _⟩
  · have hmany' : fs.length ≤ 4096 := by omega
    go_enter Try.func30, Try.ntmps30
    go_wp2
    go_loopw [4] (fun i wr => ∃ k : Nat, k ≤ fs.length ∧ i = .int .i64 k ∧ (∀ j (hj : j < fs.length), j < k → (fs[j]).may = true) ∧ Below w.heap.size w wr) (fun i _ => fs.length - (intOf i).toNat)
    case atStart => exact ⟨0, by omega, rfl, fun _ _ h => absurd h (by omega), Below.refl _ _⟩
    case round =>
      obtain ⟨k, hk, rfl, hmay, hbel⟩ := hrel
      have hwr := hbel.size
      by_cases hlt : k < fs.length
      · obtain ⟨b, off, rfl, c0', c1', c2'⟩ := hl.at k hlt hbel
        have HM : Hid (∀ j (hj : j < fs.length), j < k → (fs[j]).may = true) := hmay
        have i1 : (0 : Int) ≤ (k : Int) := by omega
        have i2 : (k : Int) < (fs.length : Int) := by omega
        clear hmay
        cases hx : (fs[k]).may
        · have HB : Hid (fs.all Fld.may = false) := may_bad hlt hx
          go_wp2_with fail
          refine (rMay_any (fs[k]) _).mono ?_
          rintro e w1 ⟨rfl, hb1⟩
          rw [hx]
          have hbel2 := hbel.trans (hb1.mono hwr)
          go_wp2
          go_ret2
          exact ⟨encode_bad hmany HB.out, hbel2⟩
        · go_wp2_with fail
          refine (rMay_any (fs[k]) _).mono ?_
          rintro e w1 ⟨rfl, hb1⟩
          rw [hx]
          have hbel2 := hbel.trans (hb1.mono hwr)
          go_wp2
          go_roundw
          case rel =>
            refine ⟨k + 1, by omega, by go_num, fun j hj hjk => ?_, hbel2⟩
            by_cases e : j = k
            · subst e; exact hx
            · exact HM.out j hj (by omega)
          case measure => simp [intOf]; omega
      · have HA : Hid (fs.all Fld.may = true) := may_all (fun j hj => hmay j hj (by omega))
        clear hmay
        go_wp2_with fail
        refine (rBytes_any a cap fs wr (hl.later hbel) hmany' hsz).mono ?_
        rintro e w1 ⟨l, rfl, hok, hlen, hb1⟩
        have hbel1 := hbel.trans (hb1.mono hwr)
        obtain ⟨S, hS, hSz⟩ : ∃ S, S = ByteArray.mk l.toArray ∧ S.size = l.length := ⟨_, rfl, by show l.toArray.size = _; simp⟩
        rw [← hS]
        have HS := hide hS
        have HO := hide hok
        clear hbel hb1 hS hok
        by_cases hlong : 262144 < S.size
        · have HR := hide (show 262144 < (encs fs).length from by
            rcases HO.out with h | h
            · rw [← h]; omega
            · exact h.2)
          go_wp2
          go_ret2
          exact ⟨encode_long hmany HA.out HR.out, hbel1⟩
        · have HL := hide (show l = encs fs from by
            rcases HO.out with h | h
            · exact h
            · have := h.1; omega)
          have HR := hide (show ¬ 262144 < (encs fs).length from by rw [← HL.out]; omega)
          go_wp2
          go_ret2
          exact ⟨by rw [HS.out, HL.out]; exact encode_ok hmany HA.out HR.out, hbel1⟩

end Go.Proofs.Ytkjcfkninmmbhaa
