import Derived.Test.YtminceigjejipaaGreatPlays
import Derived.Test.YtminceigjejipaaGreatStepC
import Derived.Test.YtminceigjejipaaGreatLooks
import Derived.Test.YtminceigjejipaaGreatOpen
import Derived.JoinedCond
namespace Go.Proofs.YtminceigjejipaaGreat
open Go.ChangeShapes Go.WideShapes Go.ChangeAt Go.RowKit Go.Deep

/-- what holds between the steps of Checks -/
def InvC (B : Nat) (ca : Option Addr) (cl cc : Nat) (_ : Nat) (O : Nat → Prop) (w : World) : Prop :=
  (∀ k, O k ↔ k = B) ∧ w.heap[B]? = some (.cells #[.slice ca cl cc, .slice none 0 0, .slice none 0 0, .slice none 0 0, .slice none 0 0] 33 (0, 0))

theorem InvC.cell {B : Nat} {ca : Option Addr} {cl cc i : Nat} {O : Nat → Prop} {w : World} (h : InvC B ca cl cc i O w) (f : Nat) : w.cell? ⟨B, f, none⟩ = #[Value.slice ca cl cc, .slice none 0 0, .slice none 0 0, .slice none 0 0, .slice none 0 0][f]? := by
  unfold World.cell?
  rw [h.2]
  rfl

theorem playsC (w w0 : World) (ca : Option Addr) (cl cc slen : Nat) (S : Nat → Int) (hw : ∀ t, t < slen * 10 → IsI64 (S t)) (hb : Below w0.heap.size w0 w) (hc : IntRows w0 5 ca cl) (hcl : cl < 9007199254740992) :
    Plays w.heap.size slen S [1] [1] w (InvC w.heap.size ca cl cc) := by
  refine ⟨?_, ?_, ?_, ?_, ?_⟩
  · intro i O w1 h k hk
    have hB := (h.1 k).1 hk
    subst hB
    exact ⟨Nat.le_refl _, (Array.getElem?_eq_some_iff.1 h.2).1⟩
  · intro i O w1 w2 h hc
    refine ⟨h.1, ?_⟩
    rw [hc.block _ (Array.getElem?_eq_some_iff.1 h.2).1 (fun hn => hn ((h.1 _).2 rfl))]
    exact h.2
  · intro i O w1 h
    exact h
  · intro i hi hp O w1 h hbel
    have hk : S (i * 10) = 1 := by simpa using hp
    have e : opAt S i = .agg #[.int .i64 1, .int .i64 (S (i * 10 + 1)), .int .i64 (S (i * 10 + 2)), .int .i64 (S (i * 10 + 3)), .int .i64 (S (i * 10 + 4)), .int .i64 (S (i * 10 + 5)), .int .i64 (S (i * 10 + 6)), .int .i64 (S (i * 10 + 7)), .int .i64 (S (i * 10 + 8)), .int .i64 (S (i * 10 + 9))] := by
      unfold opAt; rw [hk]
    rw [e]
    have fin : ∀ (e : Ending) w2, (e = .returned (.bool true) ∧ Chg (fun _ => False) w1 w2) → ∃ b O', e = .returned (.bool b) ∧ InvC w.heap.size ca cl cc (i + 1) O' w2 ∧ Chg O w1 w2 ∧
        (b = false → List.contains [(1 : Int)] (S (i * 10)) = false ∧ S (i * 10) ≠ 2 ∧ S (i * 10) ≠ 6) := by
      rintro e w2 ⟨rfl, hq⟩
      refine ⟨true, O, rfl, ⟨h.1, ?_⟩, hq.mono (fun _ _ hx => hx.elim), fun hx => by cases hx⟩
      rw [hq.block _ (Array.getElem?_eq_some_iff.1 h.2).1 (fun hn => hn)]
      exact h.2
    have hcell := h.cell 0
    simp at hcell
    rcases hc with rfl | ⟨b, off, Z, hcl0, rfl, hbl, hZ, _⟩
    · exact (step_check_none w.heap.size cc ca _ _ _ _ _ _ _ _ _ w1 hcell).mono fin
    · have hz : ∀ t, t < cl * 5 → w1.cell? ⟨b, off + t, none⟩ = some (.int .i64 (Z t)) := fun t ht => by
        rw [hbel.cell (by have := hb.size; show b < _; omega), hb.cell (by exact hbl)]
        exact hZ t ht
      have ha := hw (i * 10 + 1) (by omega)
      exact (step_check_some w.heap.size b off cl cc Z _ _ _ _ _ _ _ _ _ w1 hcell hcl0 hcl ha.1 ha.2 hz).mono fin
  · intro i O w1 h
    have h3 := h.cell 3
    have h4 := h.cell 4
    simp at h3 h4
    refine (looks_nil w.heap.size w1 h3 h4).mono ?_
    rintro e w2 ⟨rfl, rfl⟩
    exact ⟨rfl, Chg.refl _ _⟩

set_option maxHeartbeats 400000 in
theorem checks_walk (w : World) (ca sa : Option Addr) (cl cc sl sc : Nat) (hc : IntRows w 5 ca cl) (hs : IntRows w 10 sa sl) (hcl : cl < 5000000000000) (hsl : sl < 1759218604391) :
    Calls Tryz.prog 3 #[.slice ca cl cc, .slice sa sl sc] w fun e w' => e = .returned (.bool true) ∧ Below w.heap.size w w' := by
  have HC : Hid (IntRows w 5 ca cl) := hc
  clear hc
  rcases hs with rfl | ⟨b, off, S, hl0, rfl, hbl, hS, hw⟩
  · go_enter Tryz.func3, Tryz.ntmps3
    go_wp2_with fail
    refine (plays_none _ _ _ _ _ _ _ _).mono ?_
    rintro e w1 ⟨rfl, hb⟩
    go_wp2
    go_ret
    exact ⟨rfl, (((Below.refl _ _).alloc (Nat.le_refl _) _).alloc (by simp) _).trans (hb.mono (by simp; omega))⟩
  · have HS : Hid (∀ t, t < sl * 10 → w.cell? ⟨b, off + t, none⟩ = some (.int .i64 (S t))) := hS
    have HW : Hid (∀ t, t < sl * 10 → IsI64 (S t)) := hw
    clear hS hw
    go_enter Tryz.func3, Tryz.ntmps3
    go_wp2_with fail
    obtain ⟨W, hW⟩ : ∃ W, W = (w.alloc (.cells #[.int .i64 1] 3)).alloc (.cells #[.int .i64 1] 3) := ⟨_, rfl⟩
    rw [← hW]
    have hb : Below w.heap.size w W := by rw [hW]; exact ((Below.refl _ _).alloc (Nat.le_refl _) _).alloc (by simp) _
    have hsz : W.heap.size = w.heap.size + 2 := by rw [hW]; simp
    have p0 : ∀ j, j < 1 → W.cell? ⟨w.heap.size, j, none⟩ = some (.int .i64 (([1] : List Int).getD j 0)) := fun j hj => by
      obtain rfl : j = 0 := by omega
      rw [hW, World.cell?_alloc_lt _ _ _ (by simp)]
      simp
    have p1 : ∀ j, j < 1 → W.cell? ⟨w.heap.size + 1, j, none⟩ = some (.int .i64 (([1] : List Int).getD j 0)) := fun j hj => by
      obtain rfl : j = 0 := by omega
      rw [hW]
      simp
    refine (plays_some ca cl cc w.heap.size (w.heap.size + 1) 1 1 1 1 b off sl sc S [1] [1] W (InvC W.heap.size ca cl cc) (playsC W w ca cl cc sl S HW.out hb HC.out (by omega)) (by omega) (by omega)
      (fun t ht => by rw [hb.cell (by exact hbl)]; exact HS.out t ht) (by omega) (by omega) rfl rfl (by omega) (by omega) p0 p1 (fun k => k = W.heap.size) ⟨fun _ => Iff.rfl, heap_alloc_new W _⟩).mono ?_
    rintro e w1 ⟨rfl, hb1⟩
    have hfin : Below w.heap.size w w1 := hb.trans (hb1.mono (by omega))
    clear hb hsz p0 p1 hb1 hW HS HW HC
    go_wp2
    go_ret
    exact ⟨rfl, hfin⟩

set_option maxRecDepth 100000 in
theorem checks_lifted (os : Os) (started : os.Started) (H : Type) (enc : TypeId × Value → H) :
    ReturnsInHanded {} Tryz.checked os 3 .any (Rows.checksSpec.pre6 enc Tryz.prog Tryz.f3 Rows.checksRow.domain false) (Rows.checksSpec.post enc Tryz.prog Tryz.f3 false true false false) := by
  refine returnsInHanded_of_change_sized (C := Tryz.checked) own started (by kernel_rfl) Tryz.func3
    (ChangeSpec.witness6 (enc := enc) (C := Tryz.checked) false ⟨#[], #[.slice none 0 0, .slice none 0 0], []⟩ 8 (by kernel_rfl) (by kernel_rfl) (by kernel_rfl) (by kernel_rfl)) ?_
  intro W base args ds gs before hval0 hW _ hsz0 _
  have hsz : (DataW.weightsEach Tryz.prog (Tryz.f3.params.toList ++ Rows.checksSpec.plain.varTypes Tryz.prog) (ds ++ gs)).all (· ≤ reachBytes) = true := hsz0
  clear hsz0
  have hval : ∀ (j : Nat) t v, Tryz.f3.params[j]? = some t → args[j]? = some v → Value.okWide Tryz.prog W .any base t v := hval0
  have hW' := hW
  obtain ⟨p, q, hA0, hV, rfl, _, _⟩ := hW
  have hA : DataW.TrodAll enc Tryz.prog W 0 (fun _ => true) true Tryz.f3.params.toList args.toList ds p := hA0
  rw [Tryz.params3] at hA hval hsz
  obtain ⟨v0, v1, d0, d1, p0, p1, rfl, rfl, rfl, h0, h1⟩ := trodAll_two hA
  obtain ⟨rfl, rfl⟩ := trodVars_none hV
  obtain ⟨ca, cl, cc, rfl⟩ := okWide_slice Tryz.underlying22 (hval 0 22 v0 rfl rfl)
  obtain ⟨sa, sl, sc, rfl⟩ := okWide_slice Tryz.underlying23 (hval 1 23 v1 rfl rfl)
  have h0k := h0
  have h1k := h1
  obtain ⟨f0, hf0⟩ := h0
  obtain ⟨f1, hf1⟩ := h1
  clear hA0 hval0
  simp only [List.append_nil] at hW'
  have hlt : ∀ x ∈ p0 ++ p1, x.block < W.heap.size := fun x hx => by simpa using hW'.lt x hx
  obtain ⟨hc, hcd⟩ := rows_of_slice Tryz.underlying22 cellsConfig (by omega) config_ints (by simpa [Value.cells] using hf0)
  obtain ⟨hs, hsd⟩ := rows_of_slice Tryz.underlying23 cellsOp (by omega) op_ints (by simpa [Value.cells] using hf1)
  have hcl : cl < 5000000000000 := by
    rcases hcd with ⟨_, h⟩ | ⟨el, sp, hd, hl⟩
    · omega
    · have hd' : d0 = .slice el sp := hd
      subst hd'
      have := sized_slice hsz (j := 0) (t := 22) (e := 49) rfl rfl Tryz.underlying22
      rw [bytesConfig] at this
      rw [← hl]
      exact small_slice this (by omega)
  have hsl : sl < 1759218604391 := by
    rcases hsd with ⟨_, h⟩ | ⟨el, sp, hd, hl⟩
    · omega
    · have hd' : d1 = .slice el sp := hd
      subst hd'
      have := sized_slice hsz (j := 1) (t := 23) (e := 37) rfl rfl Tryz.underlying23
      rw [bytesOp] at this
      rw [← hl]
      exact small_slice80 this
  refine (checks_walk W ca sa cl cc sl sc hc hs hcl hsl).mono fun e W' ⟨he, hb⟩ => ?_
  subst he
  refine ⟨_, rfl, _, _, _, [], p0 ++ p1, [], hW', ?_, ?_, rfl, hb.frame _, fun h => by cases h⟩
  · exact trodAll_mk1 (shut_bool Tryz.underlying4 _)
  · exact trodAll_mk2 (Below.trod laidOut (by kernel_rfl) (of_decide_eq_true (by kernel_rfl)) h0k hb (fun x hx => hlt x (List.mem_append_left _ hx))) (Below.trod laidOut (by kernel_rfl) (of_decide_eq_true (by kernel_rfl)) h1k hb (fun x hx => hlt x (List.mem_append_right _ hx)))

theorem checks_holds : Rows.ChecksSaid :=
  OpenClaim.holds_of_wide 3 Tryz.f3 rfl rfl rfl rfl rfl rfl rfl ⟨rfl, rfl, rfl, rfl, rfl⟩ rfl rfl rfl rfl rfl (by kernel_rfl) Tryz.func3 (by kernel_rfl)
    (of_decide_eq_true (by kernel_rfl)) (by unfold Func.isWrapper; first | (rw [if_pos (by decide +kernel)]; kernel_rfl) | (rw [if_neg (by decide +kernel)]; exact ⟨rfl, rfl⟩))
    (fun os started H enc _ => checks_lifted os started H enc)
end Go.Proofs.YtminceigjejipaaGreat
