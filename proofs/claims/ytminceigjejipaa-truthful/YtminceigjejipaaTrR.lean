import Derived.Test.YtminceigjejipaaTrL
import Derived.Test.YtminceigjejipaaG20
namespace Go.Proofs.Ytminceigjejipaa
open Go.ChangeShapes Go.WideShapes Go.ChangeAt Go.RowKit Go.Deep

section
variable {H : Type} {enc : TypeId × Value → H} {P : Program} {w : World} {base : Nat} {spare : Nat → Bool} {held : Bool}
theorem trodAll_six' {t0 t1 t2 t3 t4 t5 : TypeId} {args : Array Value} {ds : List (DataW H)} {ps : List MemPlace} (h : DataW.TrodAll enc P w base spare held [t0, t1, t2, t3, t4, t5] args.toList ds ps) :
    ∃ v0 v1 v2 v3 v4 v5 d0 d1 d2 d3 d4 d5 p0 p1 p2 p3 p4 p5, args = #[v0, v1, v2, v3, v4, v5] ∧ ds = [d0, d1, d2, d3, d4, d5] ∧ ps = p0 ++ (p1 ++ (p2 ++ (p3 ++ (p4 ++ p5)))) ∧ DataW.Trod enc P w base spare held t0 v0 d0 p0 ∧ DataW.Trod enc P w base spare held t1 v1 d1 p1 ∧ DataW.Trod enc P w base spare held t2 v2 d2 p2 ∧ DataW.Trod enc P w base spare held t3 v3 d3 p3 ∧ DataW.Trod enc P w base spare held t4 v4 d4 p4 ∧ DataW.Trod enc P w base spare held t5 v5 d5 p5 := by
  obtain ⟨v0, vs0, d0, ds0, p0, q0, hargs, rfl, rfl, h0, r0⟩ := trodAll_cons h
  obtain ⟨v1, vs1, d1, ds1, p1, q1, rfl, rfl, rfl, h1, r1⟩ := trodAll_cons r0
  obtain ⟨v2, vs2, d2, ds2, p2, q2, rfl, rfl, rfl, h2, r2⟩ := trodAll_cons r1
  obtain ⟨v3, vs3, d3, ds3, p3, q3, rfl, rfl, rfl, h3, r3⟩ := trodAll_cons r2
  obtain ⟨v4, vs4, d4, ds4, p4, q4, rfl, rfl, rfl, h4, r4⟩ := trodAll_cons r3
  obtain ⟨v5, vs5, d5, ds5, p5, q5, rfl, rfl, rfl, h5, r5⟩ := trodAll_cons r4
  obtain ⟨rfl, rfl, rfl⟩ := trodAll_nil r5
  exact ⟨v0, v1, v2, v3, v4, v5, d0, d1, d2, d3, d4, d5, p0, p1, p2, p3, p4, p5, by cases args; simp_all, rfl, by simp, h0, h1, h2, h3, h4, h5⟩
end

set_option maxRecDepth 100000 in
theorem open_job {H : Type} {enc : TypeId × Value → H} {W : World} {b0 base : Nat} {spare : Nat → Bool} {held : Bool} {v : Value} {d : DataW H} {ps : List MemPlace} (hv : Value.okWide Try.prog W .any b0 54 v) (h : DataW.Trod enc Try.prog W base spare held 54 v d ps) :
    ∃ j : JobG, v = jobV j ∧ JobI64 j := by
  obtain ⟨fuel, hf⟩ := h
  obtain ⟨cs, rfl, hcs⟩ := okWide_struct Try.underlying54 hv
  rw [cellsJob] at hcs
  have h' : DataW.trod enc Try.prog W base spare held fuel 54 cs.toList = some (d, ps) := by simpa [Value.cells] using hf
  have ji := job_ints _ _ _ h'
  obtain ⟨z0, e0, i0⟩ := ji 0 (by omega)
  obtain ⟨z1, e1, i1⟩ := ji 1 (by omega)
  obtain ⟨z2, e2, i2⟩ := ji 2 (by omega)
  obtain ⟨z3, e3, i3⟩ := ji 3 (by omega)
  obtain ⟨z4, e4, i4⟩ := ji 4 (by omega)
  refine ⟨⟨z0, z1, z2, z3, z4⟩, ?_, i0, i1, i2, i3, i4⟩
  have hform : cs = #[.int .i64 z0, .int .i64 z1, .int .i64 z2, .int .i64 z3, .int .i64 z4] := by
    apply Array.ext_getElem?
    intro i
    match i with
    | 0 => simpa using e0
    | 1 => simpa using e1
    | 2 => simpa using e2
    | 3 => simpa using e3
    | 4 => simpa using e4
    | i + 5 => simp [hcs]
  rw [hform]
  rfl

set_option maxRecDepth 100000 in
theorem case_sized' {H : Type} {d0 d1 : DataW H} {ts : List TypeId} {ds : List (DataW H)} {j sl : Nat} (h : (DataW.weightsEach Try.prog ts ds).all (· ≤ reachBytes) = true) (ht : ts[j]? = some 41) (hd : ds[j]? = some (.agg [d0, d1])) (hsd : (d1 = .nil ∧ sl = 0) ∨ ∃ elems sp, d1 = .slice elems sp ∧ elems.length = sl) : sl * 72 ≤ 140737488351232 := by
  rcases hsd with ⟨_, h0⟩ | ⟨el, sp, rfl, hl⟩
  · omega
  · have h1 : (el.length + sp.length) * Try.prog.bytesOf 56 ∈ DataW.weights Try.prog 39 (.slice el sp) := by simp [DataW.weights, Try.underlying39]
    have h2 : (el.length + sp.length) * Try.prog.bytesOf 56 ∈ DataW.weights Try.prog 41 (.agg [d0, .slice el sp]) := by
      have := DataW.weights_mem_each (P := Try.prog) (ts := [38, 39]) (ds := [d0, .slice el sp]) (j := 1) rfl rfl _ h1
      unfold DataW.weights
      rw [Try.underlying41]
      exact this
    have h3 := List.all_eq_true.1 h _ (DataW.weights_mem_each ht hd _ h2)
    rw [bytesStep] at h3
    have h4 := of_decide_eq_true h3
    unfold reachBytes at h4
    omega

set_option maxRecDepth 100000 in
theorem truthful_lifted (os : Os) (started : os.Started) (H : Type) (enc : TypeId × Value → H) :
    ReturnsInHanded {} Try.checked os 7 .any (Rows.truthfulSpec.pre6 enc Try.prog Try.f7 Rows.truthfulRow.domain false) (Rows.truthfulSpec.post enc Try.prog Try.f7 false true false false) := by
  refine returnsInHanded_of_change_sized (C := Try.checked) own started (by kernel_rfl) Try.func7
    (ChangeSpec.witness6 (enc := enc) (C := Try.checked) false ⟨#[], #[.agg #[.int .i64 0, .int .i64 0, .int .i64 0, .int .i64 0, .int .i64 0, .slice none 0 0], .int .i64 0, .agg #[.int .i64 0, .int .i64 0, .int .i64 0, .int .i64 0, .int .i64 0], .agg #[.int .i64 0, .int .i64 0, .int .i64 0, .int .i64 0, .int .i64 0], .int .i64 0, .int .i64 0], []⟩ 8 (by kernel_rfl) (by kernel_rfl) (by kernel_rfl) (by kernel_rfl)) ?_
  intro W base args ds gs before hval0 hW _ hsz0 _
  have hsz : (DataW.weightsEach Try.prog (Try.f7.params.toList ++ Rows.truthfulSpec.plain.varTypes Try.prog) (ds ++ gs)).all (· ≤ reachBytes) = true := hsz0
  clear hsz0
  have hval : ∀ (j : Nat) t v, Try.f7.params[j]? = some t → args[j]? = some v → Value.okWide Try.prog W .any base t v := hval0
  have hW' := hW
  obtain ⟨p, q, hA0, hV, rfl, _, _⟩ := hW
  have hA : DataW.TrodAll enc Try.prog W 0 (fun _ => true) true Try.f7.params.toList args.toList ds p := hA0
  rw [Try.params7] at hA hval hsz
  obtain ⟨v0, v1, v2, v3, v4, v5, d0, d1, d2, d3, d4, d5, p0, p1, p2, p3, p4, p5, rfl, rfl, rfl, h0, h1, h2, h3, h4, h5⟩ := trodAll_six' hA
  obtain ⟨rfl, rfl⟩ := trodVars_none hV
  obtain ⟨tn, rfl, rfl, rfl, wtn⟩ := open_int Try.underlying3 (hval 1 3 v1 rfl rfl) h1
  obtain ⟨az, rfl, rfl, rfl, waz⟩ := open_int Try.underlying3 (hval 4 3 v4 rfl rfl) h4
  obtain ⟨lz, rfl, rfl, rfl, wlz⟩ := open_int Try.underlying3 (hval 5 3 v5 rfl rfl) h5
  obtain ⟨jt, rfl, it⟩ := open_job (hval 2 54 v2 rfl rfl) h2
  obtain ⟨jf, rfl, if0⟩ := open_job (hval 3 54 v3 rfl rfl) h3
  have h0k := h0
  obtain ⟨f0, hf0⟩ := h0
  obtain ⟨c, sa, sl, sc, rfl, hs, x0, x1, hx, hsd⟩ := open_case (hval 0 41 v0 rfl rfl) hf0
  have hd0 : d0 = .agg [x0, x1] := hx
  subst hd0
  clear hA0 hval0
  simp only [List.append_nil] at hW'
  have hlt : ∀ x ∈ p0 ++ ([] ++ (p2 ++ (p3 ++ ([] ++ [])))), x.block < W.heap.size := fun x hx => by
    refine hW'.lt x ?_
    simpa using hx
  have hlt0 : ∀ x ∈ p0, x.block < W.heap.size := fun x hx => hlt x (by simp [hx])
  have hlt2 : ∀ x ∈ p2, x.block < W.heap.size := fun x hx => hlt x (by simp [hx])
  have hlt3 : ∀ x ∈ p3, x.block < W.heap.size := fun x hx => hlt x (by simp [hx])
  have hsl : sl * 72 ≤ 140737488351232 := case_sized' hsz (j := 0) rfl rfl hsd
  have fin : ∀ (e : Ending) W', (e = .returned (.bool true) ∧ Below W.heap.size W W') → ∃ v', e = .returned v' ∧ Rows.truthfulSpec.post enc Try.prog Try.f7 false true false false W #[caseV c (.slice sa sl sc), .int .i64 tn, jobV jt, jobV jf, .int .i64 az, .int .i64 lz] v' W' := by
    rintro e W' ⟨rfl, hb⟩
    refine ⟨_, rfl, _, _, _, [], p0 ++ ([] ++ (p2 ++ (p3 ++ ([] ++ [])))), [], hW', ?_, ?_, rfl, hb.frame _, fun h => by cases h⟩
    · exact trodAll_mk1 (shut_bool Try.underlying4 _)
    · exact ⟨p0, _, Below.trod laidOut (by kernel_rfl) (of_decide_eq_true (by kernel_rfl)) h0k hb hlt0, ⟨[], _, shut_int Try.underlying3 wtn, ⟨p2, _, Below.trod laidOut (by kernel_rfl) (of_decide_eq_true (by kernel_rfl)) h2 hb hlt2, ⟨p3, _, Below.trod laidOut (by kernel_rfl) (of_decide_eq_true (by kernel_rfl)) h3 hb hlt3, ⟨[], _, shut_int Try.underlying3 waz, trodAll_mk1 (shut_int Try.underlying3 wlz), rfl⟩, rfl⟩, rfl⟩, rfl⟩, rfl⟩
  cases hc : cfgOk c
  · exact (truthful_bad yardSpec c sa sl sc W hc tn jt jf az lz).mono fin
  · exact (truthful_ok yardSpec tickY paidY c sa sl sc W hc hs hsl tn jt jf az lz (isI64_wf wtn) it if0 (isI64_wf waz) (isI64_wf wlz)).mono fin

theorem truthful_holds : Rows.TruthfulSaid :=
  OpenClaim.holds_of_wide 7 Try.f7 rfl rfl rfl rfl rfl rfl rfl ⟨rfl, rfl, rfl, rfl, rfl⟩ rfl rfl rfl rfl rfl (by kernel_rfl) Try.func7 (by kernel_rfl)
    (of_decide_eq_true (by kernel_rfl)) (by unfold Func.isWrapper; first | (rw [if_pos (by decide +kernel)]; kernel_rfl) | (rw [if_neg (by decide +kernel)]; exact ⟨rfl, rfl⟩))
    (fun os started H enc _ => truthful_lifted os started H enc)
end Go.Proofs.Ytminceigjejipaa
