/- CodeLists, the row: for every list of fields and every text, together of bulk at most 1048576, the law returns true, and both read as they did. (Texts that are longer, one behind the other, may be more bytes than a slice of bytes has room for.) -/
import Derived.Test.YtldlbnmegbdfpaaArgs
import Derived.Test.YtldlbnmegbdfpaaListsLaw
import Derived.JoinedCond
namespace Go.Proofs.Ytldlbnmegbdfpaa
open Go.ChangeShapes Go.WideShapes Go.ChangeAt Go.RowKit Go.Deep
open Go.ChangeMaps (open_string)

theorem bulk_pos {H : Type} (d : DataW H) : 1 ≤ Rows.uptoBulk d := by
  cases d with
  | lit l => cases l <;> simp [Rows.uptoBulk]
  | _ => simp [Rows.uptoBulk]
theorem bulk_mem {H : Type} {d : DataW H} : ∀ {l : List (DataW H)}, d ∈ l → Rows.uptoBulk d ≤ Rows.uptoBulkAll l
  | y :: r, h => by
    rw [Rows.uptoBulkAll]
    rcases List.mem_cons.1 h with rfl | h
    · omega
    · have := bulk_mem h; omega
theorem bulk_len {H : Type} : ∀ (l : List (DataW H)), l.length ≤ Rows.uptoBulkAll l
  | [] => by simp
  | y :: r => by rw [Rows.uptoBulkAll, List.length_cons]; have := bulk_len r; have := bulk_pos y; omega

theorem open_fieldsU {H : Type} {enc : TypeId × Value → H} {W : World} {fuel : Nat} {cs : List Value} {x : DataW H × List MemPlace} (h : DataW.trod enc Try.prog W 0 (fun _ => true) true fuel 22 cs = some x)
    (hb : Rows.uptoBulk x.1 ≤ 1048576) : ∃ a cap fs, cs = [.slice a fs.length cap] ∧ Lies W a fs ∧ (a = none → cap = 0) ∧ fs.length * 32 ≤ 140737488351232 ∧ ∀ y ∈ fs, y.s.size ≤ 4000000 := by
  rcases open_slice Try.underlying22 h with ⟨rfl, rfl⟩ | ⟨a, len, cap, m, n, D, Pl, rfl, _, hl, _, hmm, rfl, hx⟩
  · exact ⟨none, 0, [], rfl, Or.inl rfl, fun _ => rfl, by simp, by simp⟩
  · have hm : m = cap := by rw [hmm]; simp
    have each : ∀ i, i < len → ∃ f : Fld, W.cell? (a.add (i * 3)) = some (.bool f.text) ∧ W.cell? (a.add (i * 3 + 1)) = some (.int .i64 f.n) ∧ W.cell? (a.add (i * 3 + 2)) = some (.string f.s) ∧
        D i = .agg [.lit (.bool f.text), .lit (.int .i64 f.n), .lit (.string f.s.data.toList)] := by
      intro i hi
      obtain ⟨cs', h1, h2⟩ := hx i (by omega)
      rw [cells_field] at h1
      obtain ⟨f, c0, c1, c2, hd, _⟩ := open_field h1 h2
      rw [add_add] at c1 c2
      exact ⟨f, c0, c1, c2, hd⟩
    obtain ⟨fs, hlen, hfs⟩ := list_of len each
    simp only [Rows.uptoBulk] at hb
    have hb1 := bulk_len ((List.range len).map D)
    rw [List.length_map, List.length_range] at hb1
    refine ⟨some a, cap, fs, by rw [hlen], ?_, by simp, by omega, ?_⟩
    · by_cases h0 : fs = []
      · exact Or.inl h0
      · have hp : 0 < fs.length := List.length_pos_iff.2 h0
        obtain ⟨b, off, spot⟩ := a
        have hspot : spot = none := by simpa [Addr.add] using World.cell?_spot (hfs 0 hp).1
        subst hspot
        have hlt := World.block_lt_of_cell? W _ (hfs 0 hp).1
        refine Or.inr ⟨b, off, rfl, by simpa [Go.WideShapes.add_plain] using hlt, fun i hi => ?_⟩
        obtain ⟨c0, c1, c2, _⟩ := hfs i hi
        rw [Go.WideShapes.add_plain] at c0 c1 c2
        exact ⟨c0, c1, c2⟩
    · intro y hy
      obtain ⟨i, hi, rfl⟩ := List.getElem_of_mem hy
      obtain ⟨_, _, _, hd⟩ := hfs i hi
      have hmem : D i ∈ (List.range len).map D := List.mem_map.2 ⟨i, List.mem_range.2 (by omega), rfl⟩
      have h1 := bulk_mem hmem
      rw [hd] at h1
      simp only [Rows.uptoBulk, Rows.uptoBulkAll] at h1
      rw [← Lib.size_eq] at h1
      omega

theorem lists_small {H : Type} {d : DataW H} {s : ByteArray} (hk : Rows.uptoSmall H [d, .lit (.string s.data.toList)] = true) : Rows.uptoBulk d ≤ 1048576 ∧ s.size ≤ 140737488351232 := by
  have h : Rows.uptoBulkAll [d, DataW.lit (H := H) (.string s.data.toList)] ≤ 1048576 := of_decide_eq_true hk
  simp only [Rows.uptoBulkAll, Rows.uptoBulk] at h
  rw [← Lib.size_eq] at h
  omega

set_option maxRecDepth 100000 in
theorem codeLists_lifted (os : Os) (started : os.Started) (H : Type) (enc : TypeId × Value → H) (F : Stop.Interp) :
    ReturnsInHanded {} Try.checked os 3 .any ((Rows.OpenSpec.upto Rows.codeListsSpec).pre6 enc Try.prog Try.f3 Rows.codeListsUptoRow.domain false) (((Rows.OpenSpec.upto Rows.codeListsSpec).at F).post enc Try.prog Try.f3 false true false false) := by
  refine returnsInHanded_of_cond (C := Try.checked) (s := Rows.OpenSpec.upto Rows.codeListsSpec) (k := Rows.uptoSmall) rfl try_own started (by kernel_rfl) Try.func3
    (OpenSpec.witness (enc := enc) (C := Try.checked) (s := Rows.OpenSpec.upto Rows.codeListsSpec) (k := Rows.uptoSmall) rfl false ⟨#[], #[.slice none 0 0, .string .empty], []⟩ 8 (by kernel_rfl) (by kernel_rfl) (by kernel_rfl)
      (x := ([.nil, .lit (.string [])], [], [])) (by kernel_rfl) rfl (by kernel_rfl)) ?_
  intro W base args ds gs before hval0 hW _ hk0 _
  have hk : Rows.uptoSmall H (ds ++ gs) = true := hk0
  have hval : ∀ (j : Nat) t v, Try.f3.params[j]? = some t → args[j]? = some v → Value.okWide Try.prog W .any base t v := hval0
  have hW' := hW
  obtain ⟨p, q, hA0, hV, rfl, _, _⟩ := hW
  have hA : DataW.TrodAll enc Try.prog W 0 (fun _ => true) true Try.f3.params.toList args.toList ds p := hA0
  rw [Try.params3] at hA hval
  obtain ⟨v0, v1, d0, d1, p0, p1, rfl, rfl, rfl, h0, h1⟩ := trodAll_two hA
  obtain ⟨rfl, rfl⟩ := trodVars_none hV
  have h1k := h1
  obtain ⟨a1, rfl, hd1, _, _⟩ := open_string Try.underlying9 (hval 1 9 v1 rfl rfl) h1
  obtain ⟨b0, sz1⟩ := lists_small (d := d0) (s := a1) (by rw [← hd1]; simpa using hk)
  have h0k := h0
  obtain ⟨z0, y0, x0, rfl⟩ := okWide_slice Try.underlying22 (hval 0 22 v0 rfl rfl)
  obtain ⟨u0, hu0⟩ := h0
  obtain ⟨a0, c0, fs0, e0, lies0, nil0, len0, fit0⟩ := open_fieldsU hu0 b0
  obtain ⟨rfl, rfl, rfl⟩ := slice_eq e0
  clear hA0 hval0
  simp only [List.append_nil] at hW'
  have hlt0 : ∀ x ∈ p0, x.block < W.heap.size := fun x hx => by simpa using hW'.lt x (by simp [hx])
  have hlt1 : ∀ x ∈ p1, x.block < W.heap.size := fun x hx => by simpa using hW'.lt x (by simp [hx])
  refine (lists_law _ _ fs0 a1 W lies0 nil0 len0 fit0 sz1).mono fun e W' ⟨he, hn⟩ => ?_
  subst he
  refine ⟨_, rfl, _, _, _, [], p0 ++ p1, [], hW', ?_, ?_, rfl, hn.frame _, fun h => by cases h⟩
  · exact trodAll_mk1 (shut_bool Try.underlying4 _)
  · exact trodAll_mk2 (Below.trod try_laidOut (by kernel_rfl) (of_decide_eq_true (by kernel_rfl)) h0k hn hlt0) (Below.trod try_laidOut (by kernel_rfl) (of_decide_eq_true (by kernel_rfl)) h1k hn hlt1)

theorem codeLists_holds : Rows.CodeListsUptoSaid :=
  OpenClaim.holds_of_cond 3 Try.f3 rfl rfl rfl rfl rfl rfl rfl ⟨rfl, rfl, rfl, rfl, rfl⟩ rfl rfl rfl rfl rfl (by kernel_rfl) Try.func3 (by kernel_rfl)
    (of_decide_eq_true (by kernel_rfl)) (by unfold Func.isWrapper; first | (rw [if_pos (by decide +kernel)]; kernel_rfl) | (rw [if_neg (by decide +kernel)]; exact ⟨rfl, rfl⟩))
    (fun os started H enc _ F => codeLists_lifted os started H enc F)
#print axioms codeLists_holds
end Go.Proofs.Ytldlbnmegbdfpaa
