/- skylarklaw10's example: works() is true. -/
import Derived.Test.YtdlicndbdnfekaaGreatDoorWlSess
import Derived.Test.YtdlicndbdnfekaaGreatDoorWlSame
namespace Go.Proofs.YtdlicndbdnfekaaGreatDoor.Wl
open Go.RowKit Go.Joins
open Go.Proofs.YtdlicndbdnfekaaGreatDoor.Dk (Bs Fil Fls St St.Ok Held Only used)

/-- what a disk uses, by its segments -/
theorem On.used {S : St} {l : List Sg} {n m : Nat} (h : On S l) (hl : Lg l n m) (hr : Dk.Rising S.files) : used S.files = (l.map fun s => s.data.length).sum ∧ S.files.length = l.length := by
  have hp : S.files.Perm (l.map fun s => (nm s.first, s.fil)) := by
    refine (List.perm_ext_iff_of_nodup ?_ ?_).2 fun p => ⟨fun hp => ?_, fun hp => ?_⟩
    · exact hr.imp fun {a b} hab e => by rw [e, WideAt.bytes_irrefl] at hab; cases hab
    · exact List.pairwise_map.2 (hl.rise.1.imp fun {a b} hab e => by
        have := nm_inj (congrArg Prod.fst e); omega)
    · obtain ⟨s, hs, e⟩ := h.all p hp
      have h2 := Dk.getL_of_mem hr (k := p.1) (a := p.2) hp
      rw [e, h.has s hs] at h2
      exact List.mem_map.2 ⟨s, hs, by rw [← e, Option.some.inj h2]⟩
    · obtain ⟨s, hs, rfl⟩ := List.mem_map.1 hp
      exact Dk.getL_some (h.has s hs)
  constructor
  · rw [Dk.used, Dk.sumL_perm _ hp]
    simp only [Dk.sumL, List.map_map]
    rfl
  · rw [hp.length_eq, List.length_map]
theorem append_fits {S : St} {k d : Bs} (hu : Up S) (hn : Dk.named k = true) (h1 : used S.files + d.length ≤ S.room) (h2 : S.files.length < 64) : (S.append k d).1 = 0 ∧ (S.append k d).2.room = S.room := by
  unfold St.append
  rw [if_neg (by simp [hn]), if_neg (by omega), hu.do]
  exact ⟨rfl, rfl⟩

abbrev rA : Rec := ⟨0, ⟨#[97]⟩⟩
abbrev rB : Rec := ⟨2, ⟨#[98]⟩⟩
theorem rA_may : rA.may := ⟨by decide, by decide⟩
theorem rB_may : rB.may := ⟨by decide, by decide⟩
theorem frA : (fr 1 rA).length ≤ 39 := fr_le 1 rA
theorem frB : (fr 2 rB).length ≤ 39 := fr_le 2 rB

theorem own_nums {w : World} {B : Nat} {u : Value} {l : List Nat} (h : w.ownsRow B IntT 1 u l.length (nums l)) : ∃ a c, u = .slice a l.length c ∧ Gk.Lies w nE a l := by
  rw [← nums_rc] at h
  obtain ⟨a, c, rfl⟩ := Dk.own_slice h
  exact ⟨a, c, rfl, Gk.Row.lies (k := 1) (e := IntT) (n := l.length) (cap := c) (Gk.own_mono h (Nat.zero_le _))⟩
theorem same_nums (a a' : Option Addr) (c c' : Nat) (l : List Nat) (w : World) (h1 : Gk.Lies w nE a l) (h2 : Gk.Lies w nE a' l) (hn : l.length ≤ 9223372036854775807) :
    Calls Tryz.prog 18 #[.slice a l.length c, .slice a' l.length c'] w fun e w' => e = .returned (.bool true) ∧ Below w.heap.size w w' := same_ints nE (fun n => (n : Int)) (fun _ => rfl) a a' c c' l w h1 h2 hn
theorem own_recs {w : World} {B : Nat} {u : Value} {l : List (Nat × Rec)} (h : w.ownsRow B RecT 3 u l.length (Gk.rc recE l)) : ∃ a c, u = .slice a l.length c ∧ Gk.Lies w recE a l := by
  obtain ⟨a, c, rfl⟩ := Dk.own_slice h
  exact ⟨a, c, rfl, Gk.Row.lies (k := 3) (e := RecT) (n := l.length) (cap := c) (Gk.own_mono h (Nat.zero_le _))⟩
/-- a new disk -/
theorem new_ds {room : Nat} {w w' : World} {bd : Nat} (hT : Tab w) (h : Held w' (fun b => w.heap.size ≤ b) bd (Dk.St.new room)) (hb : Below w.heap.size w w') : Ds w.heap.size w w' (fun b => w.heap.size ≤ b ∧ b < w'.heap.size) bd (Dk.St.new room) [] 1 1 ∧ Up (Dk.St.new room) :=
  ⟨⟨fun b => w.heap.size ≤ b ∧ b < w'.heap.size, ⟨h.own fun _ h1 h2 => ⟨h2, h1⟩, fun _ h => h.2⟩, fun h => by have := hT.lt; omega, hT.below hb, ⟨by simp, by simp [Dk.St.new]⟩, Lg.nil 1, fun _ h => h, fun _ h => h, hb⟩, ⟨rfl, rfl⟩⟩
/-- in a log with room for it a record is taken -/
theorem Grew.fits {most : Nat} {S S' : St} {l l' : List Sg} {n m m' c : Nat} {r : Rec} (h : Grew most S S' l l' n m m' r c) (hu : Up S) (h1 : Dk.used S.files + (fr m r).length ≤ S.room) (h2 : S.files.length < 64) : c = 0 := by
  rcases h.code with h0 | h0 | h0
  · exact h0
  · exact absurd h0 (h.up hu).2
  · rcases h.full h0 with h3 | h3 <;> omega

set_option maxRecDepth 100000 in
set_option maxHeartbeats 6400000 in
theorem works_any (w : World) (hT : Tab w) : Calls Tryz.prog 6 #[] w fun e w' => e = .returned (.bool true) ∧ Below w.heap.size w w' := by
  have hN := Dk.new_ok 1000 w (by omega)
  go_enter Tryz.func6, Tryz.ntmps6
  go_wp2_with fail
  refine hN.mono ?_
  rintro e w1 ⟨bd, rfl, hH1, hb1⟩
  obtain ⟨hD1, hu1⟩ := new_ds hT hH1 hb1
  have hO := hD1.open (most := 1) hb1.size hu1 (by omega) (by omega) (fun _ => rfl) (by omega) (by omega)
  clear hN
  go_wp2_with fail
  refine hO.mono ?_
  rintro e w2 ⟨bw, O2, S2, rfl, hS2, hu2, hr2, -, hst2⟩
  have hz2 := hS2.base.size
  have hA := hS2.append hz2 (by omega) (by omega) rA rA_may
  clear hO
  go_wp2_with fail
  refine hA.mono ?_
  rintro e w3 ⟨O3, S3, l3, m3, c3, hS3, hG3, he3, -, hst3⟩
  have hus2 := hS2.on.used hS2.lg hS2.ok.rising
  have hc3 : c3 = 0 := hG3.fits hu2 (by rw [hus2.1, hr2]; have := frA; show 0 + _ ≤ 1000; omega) (by rw [hus2.2]; decide)
  subst hc3
  rw [he3 rfl]
  have hm3 : m3 = 2 := hG3.nx
  subst hm3
  have hu3 := (hG3.up hu2).1
  have hz3 := hS3.base.size
  have hf3 : l3.map (·.first) = [1] := hG3.seg rfl (by intro s hs; exact absurd hs (by simp [opened]))
  have hr3 : allRecs l3 = [rA] := hG3.recs
  obtain ⟨s3, hs3⟩ : ∃ s3, l3 = [s3] := by
    cases l3 with
    | nil => simp at hf3
    | cons s3 r =>
      cases r with
      | nil => exact ⟨s3, rfl⟩
      | cons _ _ => simp at hf3
  subst hs3
  have hrr3 : s3.recs = [rA] := by simpa [allRecs] using hr3
  have hff3 : s3.first = 1 := by simpa using hf3
  have hby3 : s3.bytes = (fr 1 rA).length := by simp [Sg.bytes, hrr3, hff3, frs]
  have hus3 := hS3.on.used hS3.lg hS3.ok.rising
  have hA := hS3.append hz3 (by omega) (by omega) rB rB_may
  clear he3
  go_wp2_with fail
  refine hA.mono ?_
  rintro e w4 ⟨O4, S4, l4, m4, c4, hS4, hG4, he4, -, hst4⟩
  have htl3 : s3.tl = [] := hS3.clean s3 (by simp)
  have hc4 : c4 = 0 := hG4.fits hu3 (by
    rw [hus3.1, hG3.room, hr2]
    have h1 := frA
    have h2 := frB
    show (s3.data.length + 0) + _ ≤ 1000
    rw [show s3.data.length = s3.bytes by rw [Sg.data, htl3, List.append_nil]; rfl, hby3]
    omega) (by rw [hus3.2]; show 1 < 64; decide)
  subst hc4
  rw [he4 rfl]
  have hm4 : m4 = 3 := hG4.nx
  subst hm4
  have hu4 := (hG4.up hu3).1
  have hz4 := hS4.base.size
  have hf4 : l4.map (·.first) = [1, 2] := by
    rw [hG4.seg rfl (fun s hs => by rw [List.mem_singleton.1 hs, hby3]; have := fr_pos 1 rA; omega), hf3]; rfl
  have hr4 : allRecs l4 = [rA, rB] := by rw [hG4.recs, hr3]; rfl
  obtain ⟨s4, t4, hs4⟩ : ∃ s4 t4, l4 = [s4, t4] := by
    match l4, hf4 with
    | [s4, t4], _ => exact ⟨s4, t4, rfl⟩
    | [], h => simp at h
    | [_], h => simp at h
    | _ :: _ :: _ :: _, h => simp at h
  subst hs4
  simp only [List.map_cons, List.map_nil, List.cons.injEq, and_true] at hf4
  obtain ⟨hf4a, hf4b⟩ := hf4
  have hch := hS4.lg.chain
  have hsl : s4.recs.length = 1 := by have := hch.2.1; unfold Sg.last at this; omega
  have hrt : t4.recs = [rB] := by
    have h5 : s4.recs ++ t4.recs = [rA, rB] := by simpa [allRecs] using hr4
    match hq : s4.recs, hsl with
    | [x], _ => rw [hq] at h5; simpa using (List.cons.inj h5).2
  have hSg := hS4.segs
  clear hA he4
  go_wp2_with fail
  refine hSg.mono ?_
  rintro e w5 ⟨u5, rfl, ho5, hb5⟩
  have hS5 := hS4.below hz4 hb5
  have hz5 := hS5.base.size
  have hFg := hS5.forget hz5 hu4 (by omega) 2 (by omega) (by omega)
  have hfo : forg 2 [s4, t4] = [t4] := by rw [forg_more, if_pos (by omega)]; rfl
  rw [hfo] at hFg
  rw [show lfst [t4] 3 = 2 by show t4.first = 2; exact hf4b] at hFg
  clear hSg
  go_wp2_with fail
  refine hFg.mono ?_
  rintro e w6 ⟨O6, S6, rfl, hS6, hu6, hst6⟩
  have hz6 := hS6.base.size
  have hRd := hS6.read (fr := 2) (q := 5) (by omega) (by omega) (by omega) (by omega)
  have hga : (gat 2 2 (allRecs [t4])).take 5 = [(2, rB)] := by simp [gat, allRecs, hrt, num]
  rw [hga] at hRd
  clear hFg
  go_wp2_with fail
  refine hRd.mono ?_
  rintro e w7 ⟨u7, rfl, ho7, hb7⟩
  have hS7 := hS6.below hz6 hb7
  have hz7 := hS7.base.size
  have ho6 := (hst6.row ho5 fun g hg h => by have := (hS4.old g h).2; have := (ho5.lt g hg).1; omega).1
  have ho8 := Gk.own_below ho6 hb7
  rw [show List.map (fun x : Sg => x.first) [s4, t4] = [1, 2] by simp [hf4a, hf4b]] at ho8
  obtain ⟨a5, c5, rfl, hl5⟩ := own_nums ho8
  obtain ⟨a7, c7, rfl, hl7⟩ := own_recs ho7
  obtain ⟨b7, f7, rfl, hlt7, hc7⟩ := hl7.at recE_len 0 (by simp)
  have k0 := hc7 0 _ rfl
  have k1 := hc7 1 _ rfl
  have k2 := hc7 2 _ rfl
  simp only [Nat.zero_mul, Nat.add_zero, List.getElem_cons_zero] at k0 k1 k2
  have hl9 : Gk.Lies (w7.alloc (.cells #[.int .i64 1, .int .i64 2] IntT)) nE (some ⟨w7.heap.size, 0, none⟩) [1, 2] := Or.inr ⟨w7.heap.size, 0, rfl, by simp, fun j u hj => by
    have : (w7.alloc (.cells #[.int .i64 1, .int .i64 2] IntT)).heap[w7.heap.size]? = some (.cells #[.int .i64 1, .int .i64 2] IntT (0, 0)) := heap_alloc_new w7 _
    rw [cell_of_block this, Nat.zero_add]
    simpa [Gk.rc, nE] using hj⟩
  have hSm := same_nums a5 (some ⟨w7.heap.size, 0, none⟩) c5 2 [1, 2] (w7.alloc (.cells #[.int .i64 1, .int .i64 2] IntT)) (hl5.below (below_alloc1 w7 _)) hl9 (by simp)
  have HS7 := hide hS7
  have hFi : ∀ W, Below w7.heap.size w7 W → Calls Tryz.prog 15 #[.pointer (some ⟨bw, 0, none⟩)] W fun e w' => e = .returned (.int .i64 2) ∧ W = w' := fun W hb => (HS7.out.below hz7 hb).first
  have HK0 := hide k0
  have HK1 := hide k1
  have HK2 := hide k2
  clear hRd hS7 k0 k1 k2 hc7 hl7 hl9 hl5 ho8 ho7
  go_wp2_with fail
  refine hSm.mono ?_
  rintro e w8 ⟨rfl, hb8⟩
  have hb9 : Below w7.heap.size w7 w8 := (below_alloc1 w7 _).trans (hb8.mono (by simp))
  have k0 := (hb9.cell (p := ⟨b7, f7, none⟩) hlt7).trans HK0.out
  have k1 := (hb9.cell (p := ⟨b7, f7 + 1, none⟩) hlt7).trans HK1.out
  have k2 := (hb9.cell (p := ⟨b7, f7 + 2, none⟩) hlt7).trans HK2.out
  have hF8 := hFi w8 hb9
  have hbe : Below w.heap.size w w8 := (HS7.out.below hz7 hb9).base
  clear hSm hFi
  go_wp2_with (first | (go_at_call 15; refine hF8.mono ?_; rintro e w9 ⟨rfl, rfl⟩))
  go_ret
  exact ⟨rfl, hbe⟩

end Go.Proofs.YtdlicndbdnfekaaGreatDoor.Wl
