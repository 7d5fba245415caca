import Derived.Test.YtminceigjejipabGreatG19
import Derived.Test.YtminceigjejipabGreatG17
import Derived.JoinedCond
namespace Go.Proofs.YtminceigjejipabGreat
open Go.ChangeShapes Go.WideShapes Go.ChangeAt Go.RowKit Go.Deep

def kAllPlay : List Int := [1, 2, 3, 4, 5, 6, 7, 8, 9, 10, 11, 12, 13, 14, 15, 16, 17, 18, 19, 20]
def kAllHold : List Int := [1, 2, 3, 4, 5, 6, 7, 8, 9, 10, 11, 12, 13, 14, 15, 16, 17, 18, 19, 20]

set_option maxHeartbeats 400000 in
theorem all_walk {YAt : World → Nat → (Nat → Prop) → MkG → Prop} (hY : YardSpec YAt) (hT : TickY YAt) (hP : PaidY YAt) (w : World) (ca sa : Option Addr) (cl cc sl sc : Nat) (hc : IntRows w 5 ca cl) (hs : IntRows w 10 sa sl) (hcl : cl < 5000000000000) (hsl : sl < 1759218604391) :
    Calls Tryz.prog 3 #[.slice ca cl cc, .slice sa sl sc] w fun e w' => e = .returned (.bool true) ∧ Below w.heap.size w w' := by
  have HC : Hid (IntRows w 5 ca cl) := hc
  have HY := hide hY
  have HT := hide hT
  have HP := hide hP
  clear hc hY hT hP
  rcases hs with rfl | ⟨b, off, S, hl0, rfl, hbl, hS, hw⟩
  · go_enter Tryz.func3, Tryz.ntmps3
    go_wp2_with fail
    refine (plays_none _ _ _ _ _ _ _ _).mono ?_
    rintro e w1 ⟨rfl, hb⟩
    go_wp2
    go_ret
    exact ⟨rfl, ((Below.refl _ _).alloc (Nat.le_refl _) _).trans (hb.mono (by simp))⟩
  · have HS : Hid (∀ t, t < sl * 10 → w.cell? ⟨b, off + t, none⟩ = some (.int .i64 (S t))) := hS
    have HW : Hid (∀ t, t < sl * 10 → IsI64 (S t)) := hw
    clear hS hw
    go_enter Tryz.func3, Tryz.ntmps3
    go_wp2_with fail
    obtain ⟨W, hW⟩ : ∃ W, W = w.alloc (.cells #[.int .i64 1, .int .i64 2, .int .i64 3, .int .i64 4, .int .i64 5, .int .i64 6, .int .i64 7, .int .i64 8, .int .i64 9, .int .i64 10, .int .i64 11, .int .i64 12, .int .i64 13, .int .i64 14, .int .i64 15, .int .i64 16, .int .i64 17, .int .i64 18, .int .i64 19, .int .i64 20] 3) := ⟨_, rfl⟩
    rw [← hW]
    have hb : Below w.heap.size w W := by rw [hW]; exact (Below.refl _ _).alloc (Nat.le_refl _) _
    have hsz : W.heap.size = w.heap.size + 1 := by rw [hW]; simp
    have p0 : ∀ j, j < 20 → W.cell? ⟨w.heap.size, j, none⟩ = some (.int .i64 (kAllPlay.getD j 0)) := fun j hj => by
      rw [hW]
      have hc : j = 0 ∨ j = 1 ∨ j = 2 ∨ j = 3 ∨ j = 4 ∨ j = 5 ∨ j = 6 ∨ j = 7 ∨ j = 8 ∨ j = 9 ∨ j = 10 ∨ j = 11 ∨ j = 12 ∨ j = 13 ∨ j = 14 ∨ j = 15 ∨ j = 16 ∨ j = 17 ∨ j = 18 ∨ j = 19 := by omega
      rcases hc with rfl | rfl | rfl | rfl | rfl | rfl | rfl | rfl | rfl | rfl | rfl | rfl | rfl | rfl | rfl | rfl | rfl | rfl | rfl | rfl <;> simp [kAllPlay]
    refine (plays_some ca cl cc w.heap.size w.heap.size 20 20 20 20 b off sl sc S kAllPlay kAllHold W (InvA YAt W.heap.size ca cl cc) (playsA HY.out HT.out HP.out kAllPlay kAllHold rfl W w ca cl cc sl S HW.out hsl hb HC.out hcl) (by omega) (by omega)
      (fun t ht => by rw [hb.cell (by exact hbl)]; exact HS.out t ht) (by omega) (by omega) rfl rfl (by omega) (by omega) p0 p0 _ (InvA.start YAt W ca cl cc)).mono ?_
    rintro e w1 ⟨rfl, hb1⟩
    have hfin : Below w.heap.size w w1 := hb.trans (hb1.mono (by omega))
    clear hb hsz p0 hb1 hW HS HW HC HY HT HP
    go_wp2
    go_ret
    exact ⟨rfl, hfin⟩

set_option maxRecDepth 100000 in
theorem all_lifted (os : Os) (started : os.Started) (H : Type) (enc : TypeId × Value → H) :
    ReturnsInHanded {} Tryz.checked os 3 .any (Rows.allSpec.pre6 enc Tryz.prog Tryz.f3 Rows.allRow.domain false) (Rows.allSpec.post enc Tryz.prog Tryz.f3 false true false false) := by
  refine returnsInHanded_of_change_sized (C := Tryz.checked) own started (by kernel_rfl) Tryz.func3
    (ChangeSpec.witness6 (enc := enc) (C := Tryz.checked) false ⟨#[], #[.slice none 0 0, .slice none 0 0], []⟩ 8 (by kernel_rfl) (by kernel_rfl) (by kernel_rfl) (by kernel_rfl)) ?_
  intro W base args ds gs before hval0 hW _ hsz0 _
  have hsz : (DataW.weightsEach Tryz.prog (Tryz.f3.params.toList ++ Rows.allSpec.plain.varTypes Tryz.prog) (ds ++ gs)).all (· ≤ reachBytes) = true := hsz0
  clear hsz0
  have hval : ∀ (j : Nat) t v, Tryz.f3.params[j]? = some t → args[j]? = some v → Value.okWide Tryz.prog W .any base t v := hval0
  have hW' := hW
  obtain ⟨p, q, hA0, hV, rfl, _, _⟩ := hW
  have hA : DataW.TrodAll enc Tryz.prog W 0 (fun _ => true) true Tryz.f3.params.toList args.toList ds p := hA0
  rw [Tryz.params3] at hA hval hsz
  obtain ⟨v0, v1, d0, d1, p0, p1, rfl, rfl, rfl, h0, h1⟩ := trodAll_two hA
  obtain ⟨rfl, rfl⟩ := trodVars_none hV
  obtain ⟨ca, cl, cc, rfl⟩ := okWide_slice Tryz.underlying22 (hval 0 22 v0 rfl rfl)
  obtain ⟨sa, sl, sc, rfl⟩ := okWide_slice Tryz.underlying23 (hval 1 23 v1 rfl rfl)
  have h0k := h0
  have h1k := h1
  obtain ⟨f0, hf0⟩ := h0
  obtain ⟨f1, hf1⟩ := h1
  clear hA0 hval0
  simp only [List.append_nil] at hW'
  have hlt : ∀ x ∈ p0 ++ p1, x.block < W.heap.size := fun x hx => by simpa using hW'.lt x hx
  obtain ⟨hc, hcd⟩ := rows_of_slice Tryz.underlying22 cellsConfig (by omega) config_ints (by simpa [Value.cells] using hf0)
  obtain ⟨hs, hsd⟩ := rows_of_slice Tryz.underlying23 cellsOp (by omega) op_ints (by simpa [Value.cells] using hf1)
  have hcl : cl < 5000000000000 := by
    rcases hcd with ⟨_, h⟩ | ⟨el, sp, hd, hl⟩
    · omega
    · have hd' : d0 = .slice el sp := hd
      subst hd'
      have := sized_slice hsz (j := 0) (t := 22) (e := 49) rfl rfl Tryz.underlying22
      rw [bytesConfig] at this
      rw [← hl]
      exact small_slice this (by omega)
  have hsl : sl < 1759218604391 := by
    rcases hsd with ⟨_, h⟩ | ⟨el, sp, hd, hl⟩
    · omega
    · have hd' : d1 = .slice el sp := hd
      subst hd'
      have := sized_slice hsz (j := 1) (t := 23) (e := 37) rfl rfl Tryz.underlying23
      rw [bytesOp] at this
      rw [← hl]
      exact small_slice80 this
  refine (all_walk yardSpec tickY paidY W ca sa cl cc sl sc hc hs hcl hsl).mono fun e W' ⟨he, hb⟩ => ?_
  subst he
  refine ⟨_, rfl, _, _, _, [], p0 ++ p1, [], hW', ?_, ?_, rfl, hb.frame _, fun h => by cases h⟩
  · exact trodAll_mk1 (shut_bool Tryz.underlying4 _)
  · exact trodAll_mk2 (Below.trod laidOut (by kernel_rfl) (of_decide_eq_true (by kernel_rfl)) h0k hb (fun x hx => hlt x (List.mem_append_left _ hx))) (Below.trod laidOut (by kernel_rfl) (of_decide_eq_true (by kernel_rfl)) h1k hb (fun x hx => hlt x (List.mem_append_right _ hx)))

theorem all_holds : Rows.AllSaid :=
  OpenClaim.holds_of_wide 3 Tryz.f3 rfl rfl rfl rfl rfl rfl rfl ⟨rfl, rfl, rfl, rfl, rfl⟩ rfl rfl rfl rfl rfl (by kernel_rfl) Tryz.func3 (by kernel_rfl)
    (of_decide_eq_true (by kernel_rfl)) (by unfold Func.isWrapper; first | (rw [if_pos (by decide +kernel)]; kernel_rfl) | (rw [if_neg (by decide +kernel)]; exact ⟨rfl, rfl⟩))
    (fun os started H enc _ => all_lifted os started H enc)
end Go.Proofs.YtminceigjejipabGreat
