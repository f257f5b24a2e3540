/- Layer 8: OpBack: the law's walk. -/
import Derived.Test.YtkjcfkninmmbhaaOpBkQ
import Derived.Test.YtkjcfkninmmbhaaOpRpS
namespace Go.Proofs.Ytkjcfkninmmbhaa.Oq
open Go.RowKit Go.Joins Go.Proofs.Ytkjcfkninmmbhaa.Gk

set_option maxRecDepth 100000 in
set_option maxHeartbeats 16000000 in
theorem back_law (r : Req) (a : Option Addr) (cap : Nat) (client seq at_ code : Int) (l : List RsA) (pa : Option Addr) (pcap : Nat) (b : ByteArray) (w : World)
    (hl : Gk.Lies w oenc a r.ops) (hn : r.ops.length ≤ 9223372036854775807) (hsz : ∀ x ∈ r.ops, x.key.size ≤ 140737488351232 ∧ x.val.size ≤ 140737488351232)
    (hp : ResL w pa l) (hpn : l.length ≤ 9223372036854775807) (hpr : ∀ x ∈ l, x.r.rows.length ≤ 9223372036854775807) (hat : -9223372036854775808 ≤ at_ ∧ at_ ≤ 9223372036854775807) (hco : -9223372036854775808 ≤ code ∧ code ≤ 9223372036854775807) (hs : b.size ≤ 140737488351232) :
    Calls Try.prog 4 #[r.v a cap, rpV client seq at_ code pa l.length pcap, .string b] w fun e w' => e = .returned (.bool true) ∧ Below w.heap.size w w' := by
  obtain ⟨X, hX⟩ : ∃ X, X = (w.alloc (.cells #[.int .i64 r.client, .int .i64 r.seq, .slice a r.ops.length cap] 24)).alloc (.cells #[.int .i64 client, .int .i64 seq, .slice pa l.length pcap, .int .i64 at_, .int .i64 code] 44) := ⟨_, rfl⟩
  have hbX : Below w.heap.size w X := by rw [hX]; exact below2 _ _ _
  have hzX : X.heap.size = w.heap.size + 2 := by rw [hX]; simp
  have hA : X.heap[w.heap.size]? = some (.cells #[.int .i64 r.client, .int .i64 r.seq, .slice a r.ops.length cap] 24 (0, 0)) := by
    rw [hX]; exact ((below1 _ _).block _ (by simp)).trans (heap_alloc_new _ _)
  have hB : X.heap[w.heap.size + 1]? = some (.cells #[.int .i64 client, .int .i64 seq, .slice pa l.length pcap, .int .i64 at_, .int .i64 code] 44 (0, 0)) := by
    rw [hX]; have := heap_alloc_new (w.alloc (.cells #[.int .i64 r.client, .int .i64 r.seq, .slice a r.ops.length cap] 24)) (.cells #[.int .i64 client, .int .i64 seq, .slice pa l.length pcap, .int .i64 at_, .int .i64 code] 44); simpa using this
  have AC : ∀ W, Below X.heap.size X W → W.cell? ⟨w.heap.size, 0, none⟩ = some (.int .i64 r.client) ∧ W.cell? ⟨w.heap.size, 1, none⟩ = some (.int .i64 r.seq) ∧ W.cell? ⟨w.heap.size, 2, none⟩ = some (.slice a r.ops.length cap) ∧ w.heap.size < W.heap.size := by
    intro W hb
    have hA' := (hb.block _ (show w.heap.size < X.heap.size by omega)).trans hA
    exact ⟨by rw [cell_of_block hA']; rfl, by rw [cell_of_block hA']; rfl, by rw [cell_of_block hA']; rfl, (Array.getElem?_eq_some_iff.1 hA').1⟩
  have BC : ∀ W, Below X.heap.size X W → W.cell? ⟨w.heap.size + 1, 0, none⟩ = some (.int .i64 client) ∧ W.cell? ⟨w.heap.size + 1, 1, none⟩ = some (.int .i64 seq) ∧ W.cell? ⟨w.heap.size + 1, 2, none⟩ = some (.slice pa l.length pcap) ∧ W.cell? ⟨w.heap.size + 1, 3, none⟩ = some (.int .i64 at_) ∧ W.cell? ⟨w.heap.size + 1, 4, none⟩ = some (.int .i64 code) ∧ w.heap.size + 1 < W.heap.size := by
    intro W hb
    have hB' := (hb.block _ (show w.heap.size + 1 < X.heap.size by omega)).trans hB
    exact ⟨by rw [cell_of_block hB']; rfl, by rw [cell_of_block hB']; rfl, by rw [cell_of_block hB']; rfl, by rw [cell_of_block hB']; rfl, by rw [cell_of_block hB']; rfl, (Array.getElem?_eq_some_iff.1 hB').1⟩
  have hlX := hl.below hbX
  have hpX := hp.below hbX
  clear hA hB hl hp
  obtain ⟨P, hP⟩ : ∃ P : Rp, P = ⟨client, seq, l.map RsA.r, at_, code⟩ := ⟨_, rfl⟩
  have E1 := fun W (hb : Below X.heap.size X W) => Encode_op r a cap W (hlX.below hb) hn hsz
  have E2 := fun W (hb : Below X.heap.size X W) => EncodeReply_op client seq at_ code l pa pcap W (hpX.below hb) hpn hpr
  rw [← hP] at E2
  have hPb := hide (fun h => @rep_back P h (by rw [hP]; exact hat) (by rw [hP]; exact hco))
  have hP' := hide hP
  clear hP
  have D3 := fun W => Decode_op b W hs
  have hbq := hide (@dec_req b)
  have hlq := decReq_len b
  generalize decReq b = R3 at D3 hbq hlq
  obtain ⟨RQ, RC⟩ := R3
  simp only at D3 hlq
  have D4 := fun W => DecodeReply_op b W hs
  have hbp := hide (@dec_rep b)
  have hlp := decRep_len b
  generalize decRep b = R4 at D4 hbp hlp
  obtain ⟨PR, PC⟩ := R4
  simp only at D4 hlp
  go_enter Try.func4, Try.ntmps4
  go_wp2_with fail
  rw [← hX]
  clear hX
  refine (works_op X).mono ?_
  rintro e w1 ⟨rfl, hb1⟩
  obtain ⟨k0, k1, k2, k3⟩ := AC w1 hb1
  go_wp2_with fail
  refine (E1 w1 hb1).mono ?_
  rintro e w2 ⟨rfl, hb2⟩
  have hv2 := hb1.trans (hb2.mono hb1.size)
  rw [Req.encodeV]
  clear k0 k1 k2 k3 hb2
  by_cases h1 : r.encode.2 = 0
  case' pos =>
    obtain ⟨hq1, hq2, hq3⟩ := req_back h1
    generalize r.encode = E at *
    obtain ⟨s, c⟩ := E
    simp only at h1 hq1 hq2 hq3
    subst h1
    have D1 := fun W => Decode_op s W (by omega)
    rw [hq1] at D1
    have D2 := fun W => DecodeReply_op s W (by omega)
    rw [hq2] at D2
    go_wp2_with fail
    refine (D1 w2).mono ?_
    rintro e w3 ⟨a3, c3, rfl, hl3, hb3⟩
    have hv3 := hv2.trans (hb3.mono hv2.size)
    go_wp2_with fail
    refine (D2 _).mono ?_
    rintro e w4 ⟨a4, c4, l4, _, rfl, _, hb4⟩
    obtain ⟨Y, hY⟩ : ∃ Y, Y = w4.alloc (.cells #[.int .i64 (decRep s).1.client, .int .i64 (decRep s).1.seq, .slice a4 l4.length c4, .int .i64 (decRep s).1.at_, .int .i64 (decRep s).1.code] 44) := ⟨_, rfl⟩
    have hb3Y : Below w3.heap.size w3 Y := by
      rw [hY]
      exact ((below1 w3 _).trans (hb4.mono (by simp))).alloc (by have := hb4.size; simp at this; omega) _
    have hlt4 : w3.heap.size < w4.heap.size := by have := hb4.size; simp at this; omega
    have x0 : w4.cell? ⟨w3.heap.size, 0, none⟩ = some (.int .i64 r.client) := (hb4.cell (p := ⟨w3.heap.size, 0, none⟩) (by simp)).trans (by simp)
    have x1 : w4.cell? ⟨w3.heap.size, 1, none⟩ = some (.int .i64 r.seq) := (hb4.cell (p := ⟨w3.heap.size, 1, none⟩) (by simp)).trans (by simp)
    have x2 : w4.cell? ⟨w3.heap.size, 2, none⟩ = some (.slice a3 r.ops.length c3) := (hb4.cell (p := ⟨w3.heap.size, 2, none⟩) (by simp)).trans (by simp)
    have hvY := hv3.trans (hb3Y.mono hv3.size)
    have hv4 : Below X.heap.size X w4 := hv3.trans (((below1 w3 _).trans (hb4.mono (by simp))).mono hv3.size)
    obtain ⟨k0, k1, k2, k3⟩ := AC w4 hv4
    go_wp2_with fail
    rw [← hY]
    refine (sameRequest_any r a3 a c3 cap Y (hl3.below hb3Y) (hlX.below hvY) hn).mono ?_
    rintro e v1 ⟨rfl, hb5⟩
    have hv1 := hvY.trans (hb5.mono hvY.size)
    clear k0 k1 k2 k3 x0 x1 x2 hlt4 hv4 hb3Y hvY hb5 hY hb4 hv3 hb3 hl3 D1 D2 hq1 hq2 hq3 hv2
  case' neg =>
    have hbadE := req_enc_bad h1
    generalize r.encode = E at *
    obtain ⟨s, c⟩ := E
    simp only at h1 hbadE
    subst hbadE
    have bz : ((c : Int) == 0) = false := by rw [beq_eq_false_iff_ne]; omega
    obtain ⟨v1, hv1e⟩ : ∃ v1, v1 = w2 := ⟨_, rfl⟩
    have hv1 : Below X.heap.size X v1 := by rw [hv1e]; exact hv2
    rw [← hv1e]
    clear hv1e hv2
  all_goals
    obtain ⟨k0, k1, k2, k3, k4, k5⟩ := BC v1 hv1
    go_wp2_with fail
    refine (E2 v1 hv1).mono ?_
    rintro e v2 ⟨rfl, hu2⟩
    have hv2 := hv1.trans (hu2.mono hv1.size)
    rw [Rp.encodeV]
    clear k0 k1 k2 k3 k4 k5 hu2
    by_cases h2 : P.encode.2 = 0
    case' pos =>
      obtain ⟨hq1, hq2, hq3⟩ := hPb.out h2
      generalize P.encode = E at *
      obtain ⟨t, d⟩ := E
      simp only at h2 hq1 hq2 hq3
      subst h2
      have D1 := fun W => DecodeReply_op t W (by omega)
      rw [hq1] at D1
      have D2 := fun W => Decode_op t W (by omega)
      rw [hq2] at D2
      have hPe := hP'.out
      subst hPe
      simp only at D1
      go_wp2_with fail
      refine (D1 v2).mono ?_
      rintro e w3 ⟨a3, c3, l3, hm3, rfl, hl3, hb3⟩
      have hv3 := hv2.trans (hb3.mono hv2.size)
      have hlen3 : l3.length = l.length := by simpa using congrArg List.length hm3
      go_wp2_with fail
      refine (D2 _).mono ?_
      rintro e w4 ⟨a4, c4, rfl, _, hb4⟩
      obtain ⟨Y, hY⟩ : ∃ Y, Y = w4.alloc (.cells #[.int .i64 (decReq t).1.client, .int .i64 (decReq t).1.seq, .slice a4 (decReq t).1.ops.length c4] 24) := ⟨_, rfl⟩
      have hb3Y : Below w3.heap.size w3 Y := by
        rw [hY]
        exact ((below1 w3 _).trans (hb4.mono (by simp))).alloc (by have := hb4.size; simp at this; omega) _
      have hlt4 : w3.heap.size < w4.heap.size := by have := hb4.size; simp at this; omega
      have x0 : w4.cell? ⟨w3.heap.size, 0, none⟩ = some (.int .i64 client) := (hb4.cell (p := ⟨w3.heap.size, 0, none⟩) (by simp)).trans (by simp)
      have x1 : w4.cell? ⟨w3.heap.size, 1, none⟩ = some (.int .i64 seq) := (hb4.cell (p := ⟨w3.heap.size, 1, none⟩) (by simp)).trans (by simp)
      have x2 : w4.cell? ⟨w3.heap.size, 2, none⟩ = some (.slice a3 l.length c3) := (hb4.cell (p := ⟨w3.heap.size, 2, none⟩) (by simp)).trans (by simp)
      have x3 : w4.cell? ⟨w3.heap.size, 3, none⟩ = some (.int .i64 at_) := (hb4.cell (p := ⟨w3.heap.size, 3, none⟩) (by simp)).trans (by simp)
      have x4 : w4.cell? ⟨w3.heap.size, 4, none⟩ = some (.int .i64 code) := (hb4.cell (p := ⟨w3.heap.size, 4, none⟩) (by simp)).trans (by simp)
      have hvY := hv3.trans (hb3Y.mono hv3.size)
      have hv4 : Below X.heap.size X w4 := hv3.trans (((below1 w3 _).trans (hb4.mono (by simp))).mono hv3.size)
      obtain ⟨k0, k1, k2, k3, k4, k5⟩ := BC w4 hv4
      have SR := sameReply_any client seq at_ code a3 pa c3 pcap l3 l Y (hl3.below hb3Y) (hpX.below hvY) hm3 (by rw [hlen3]; exact hpn) (fun x hx => by
        have h7 : x.r ∈ l.map RsA.r := by rw [← hm3]; exact List.mem_map_of_mem hx
        obtain ⟨y, hy, e⟩ := List.mem_map.1 h7
        rw [← e]; exact hpr y hy)
      rw [hlen3] at SR
      go_wp2_with fail
      rw [← hY]
      refine SR.mono ?_
      rintro e u1 ⟨rfl, hb5⟩
      have hu1 := hvY.trans (hb5.mono hvY.size)
      clear k0 k1 k2 k3 k4 k5 x0 x1 x2 x3 x4 hlt4 hv4 hb3Y hvY hb5 hY hb4 hv3 hb3 hl3 D1 D2 hq1 hq2 hq3 hv2 SR hm3 hlen3
    case' neg =>
      have hbadE := rep_enc_bad h2
      generalize P.encode = E at *
      obtain ⟨t, d⟩ := E
      simp only at h2 hbadE
      subst hbadE
      have bz2 : ((d : Int) == 0) = false := by rw [beq_eq_false_iff_ne]; omega
      obtain ⟨u1, hu1e⟩ : ∃ u1, u1 = v2 := ⟨_, rfl⟩
      have hu1 : Below X.heap.size X u1 := by rw [hu1e]; exact hv2
      rw [← hu1e]
      clear hu1e hv2
    all_goals
      go_wp2_with fail
      refine (D3 u1).mono ?_
      rintro e u2 ⟨a6, c6, rfl, hl6, hb6⟩
      have hu2 := hu1.trans (hb6.mono hu1.size)
      by_cases h3 : RC = 0
      case' pos =>
        subst h3
        have hRE := hbq.out rfl
        have E3 := fun W (hb : Below u2.heap.size u2 W) => Encode_op RQ a6 c6 W (hl6.below hb) (by omega) (may_big (enc_may (by rw [hRE])))
        rw [Req.encodeV, hRE] at E3
        simp only at E3
        go_wp2_with fail
        refine (E3 _ (below1 _ _)).mono ?_
        rintro e u3 ⟨rfl, hb7⟩
        have hu3 : Below X.heap.size X u3 := hu2.trans (((below1 u2 _).trans (hb7.mono (by simp))).mono hu2.size)
        go_wp2_with fail
        clear E3 hb7 hRE hl6
      case' neg =>
        have bz3 : ((RC : Int) == 0) = false := by rw [beq_eq_false_iff_ne]; omega
        obtain ⟨u3, hu3e⟩ : ∃ u3, u3 = u2.alloc (.cells #[.int .i64 RQ.client, .int .i64 RQ.seq, .slice a6 RQ.ops.length c6] 24) := ⟨_, rfl⟩
        have hu3 : Below X.heap.size X u3 := by rw [hu3e]; exact hu2.alloc hu2.size _
        go_wp2_with fail
        rw [← hu3e]
        clear hu3e hl6
      all_goals
        refine (D4 u3).mono ?_
        rintro e u4 ⟨a8, c8, l8, hm8, rfl, hl8, hb8⟩
        have hu4 := hu3.trans (hb8.mono hu3.size)
        have hlen8 : l8.length ≤ 32 := by have := hlp.1; rw [← hm8] at this; simpa using this
        by_cases h4 : PC = 0
        case' pos =>
          subst h4
          have hPE := hbp.out rfl
          have E4 := fun W (hb : Below u4.heap.size u4 W) => EncodeReply_op PR.client PR.seq PR.at_ PR.code l8 a8 c8 W (hl8.below hb) (by omega) (fun x hx => by
            have h7 : x.r ∈ PR.results := by rw [← hm8]; exact List.mem_map_of_mem hx
            have := hlp.2 _ h7
            omega)
          have hpe : (⟨PR.client, PR.seq, l8.map RsA.r, PR.at_, PR.code⟩ : Rp) = PR := by rw [hm8]
          rw [hpe, Rp.encodeV, hPE] at E4
          simp only at E4
          go_wp2_with fail
          refine (E4 _ (below1 _ _)).mono ?_
          rintro e u5 ⟨rfl, hb9⟩
          have hu5 : Below X.heap.size X u5 := hu4.trans (((below1 u4 _).trans (hb9.mono (by simp))).mono hu4.size)
          go_wp2
        case' neg =>
          have bz4 : ((PC : Int) == 0) = false := by rw [beq_eq_false_iff_ne]; omega
          have hu5 : Below X.heap.size X (u4.alloc (.cells #[.int .i64 PR.client, .int .i64 PR.seq, .slice a8 l8.length c8, .int .i64 PR.at_, .int .i64 PR.code] 44)) := hu4.alloc hu4.size _
          go_wp2
        all_goals
          refine bodyPost_ret (v := .bool true) (by simp [results, Try.results4, go_sem]) rfl ⟨rfl, hbX.trans (hu5.mono hbX.size)⟩

end Go.Proofs.Ytkjcfkninmmbhaa.Oq
