import Derived.Test.YtminceigjejipaaG6
namespace Go.Proofs.Ytminceigjejipaa
open Go.RowKit

theorem within_ten {m : MkG} {k : Int} : inB k 0 (m.c.ten - 1) = m.tenB k := by
  rw [Bool.eq_iff_iff]
  simp [inB, MkG.tenB]
  omega

set_option maxHeartbeats 1000000 in
theorem hasTenant_any (V : YV) (m : MkG) (k : Int) (w : World) (hm : YmAt w V m) (hcf : cfgOk m.c = true) :
    Calls Try.prog 61 #[.pointer (some ⟨V.q, 0, none⟩), .int .i64 k] w fun e w' => e = .returned (.bool (m.tenB k)) ∧ w' = w := by
  have hc : w.cell? ⟨V.q, 3, none⟩ = some (.int .i64 m.c.ten) := hm.cell 3
  have hq := cfgOk_true hcf
  have HE := hide (@within_ten m k)
  have hw1 : IntKind.i64.wrap (m.c.ten - 1) = m.c.ten - 1 := by rw [IntKind.wrap_i64]; omega
  clear hm hcf
  generalize m.c.ten = tn at *
  go_enter Try.func61, Try.ntmps61
  go_wp2_with (go_at_call 72; refine (within_any _ _ _ _).mono ?_; rintro e w' ⟨rfl, hw⟩; subst w')
  go_ret
  exact ⟨ret_bool HE.out, rfl⟩

set_option maxRecDepth 100000 in
set_option maxHeartbeats 4000000 in
theorem indexOf_any (V : YV) (m : MkG) (ten ref : Int) (w : World) (hm : YmAt w V m) (hn : m.bids.length ≤ 300) :
    Calls Try.prog 74 #[.pointer (some ⟨V.q, 0, none⟩), .agg #[.int .i64 ten, .int .i64 ref]] w fun e w' => e = .returned (.int .i64 (findZ m.bids ten ref)) ∧ Chg (fun _ => False) w w' := by
  have hc : w.cell? ⟨V.q, 6, none⟩ = some V.bv := hm.cell 6
  have hpl := hm.lt
  have hbl' := hide (fun k hk => (hm.bids.lt k hk).2)
  obtain ⟨ao, cap, hv, hel⟩ := hm.bid_form
  rw [hv] at hc
  have HEL := hide hel
  clear hv hel hm
  generalize hbl : m.bids = l at *
  obtain ⟨n, hln⟩ : ∃ n, n = l.length := ⟨_, rfl⟩
  rw [← hln] at hc hn
  have HLN := hide hln
  clear hln hbl
  have d6 : ∀ o, (w.alloc o).cell? ⟨V.q, 6, none⟩ = some (.slice ao n cap) := fun o => by rw [World.cell?_alloc_lt _ _ _ (by exact hpl)]; exact hc
  go_enter Try.func74, Try.ntmps74
  go_wp2
  obtain ⟨w1, hw1⟩ : ∃ w1, w1 = w.alloc (.cells #[.int .i64 ten, .int .i64 ref] 90) := ⟨_, rfl⟩
  rw [← hw1]
  have HC1 : Hid (Chg (fun _ => False) w w1) := by rw [hw1]; exact (Chg.refl _ _).alloc _
  have b0 : w1.cell? ⟨w.heap.size, 0, none⟩ = some (.int .i64 ten) := by rw [hw1]; simp
  have b1 : w1.cell? ⟨w.heap.size, 1, none⟩ = some (.int .i64 ref) := by rw [hw1]; simp
  have c6 : w1.cell? ⟨V.q, 6, none⟩ = some (.slice ao n cap) := by rw [hw1]; exact d6 _
  clear hw1 d6 hc
  have HB0 := hide b0
  have HB1 := hide b1
  have HC6 := hide c6
  have hqs : w.heap.size < w1.heap.size := by
    rcases Nat.lt_or_ge w.heap.size w1.heap.size with h | h
    · exact h
    · exfalso
      unfold World.cell? at b0
      rw [Array.getElem?_eq_none h] at b0
      simp at b0
  have hqp : V.q < w1.heap.size := by omega
  clear b0 b1 c6
  go_loopw [11] (fun i wr => ∃ k : Nat, k ≤ n ∧ i = .int .i64 k ∧ (∀ (j : Nat) (b : BidG), j < k → l[j]? = some b → b.is ten ref = false) ∧ Chg (fun _ => False) w1 wr) (fun i _ => n - (intOf i).toNat)
  case atStart => exact ⟨0, by omega, rfl, fun j b h => by omega, Chg.refl _ _⟩
  case round =>
    obtain ⟨k, hk, rfl, hno, hch⟩ := hrel
    have HNO := hide hno
    have HCH := hide hch
    clear hno
    by_cases hlt : k < n
    · obtain ⟨b, hb⟩ : ∃ b, l[k]? = some b := ⟨_, List.getElem?_eq_getElem (by rw [← HLN.out]; exact hlt)⟩
      have HB := hide hb
      obtain ⟨g, hao, hown, hcl, _⟩ := HEL.out k b hb
      subst hao
      have hgl : g < w.heap.size := hbl'.out g hown
      have b0 : wr.cell? ⟨w.heap.size, 0, none⟩ = some (.int .i64 ten) := by rw [hch.cell (by exact hqs) (fun h => h)]; exact HB0.out
      have b1 : wr.cell? ⟨w.heap.size, 1, none⟩ = some (.int .i64 ref) := by rw [hch.cell (by exact hqs) (fun h => h)]; exact HB1.out
      have c6 : wr.cell? ⟨V.q, 6, none⟩ = some (.slice (some ⟨g, 0, none⟩) n cap) := by rw [hch.cell (by exact hqp) (fun h => h)]; exact HC6.out
      have c0 : wr.cell? ⟨g, k * 9, none⟩ = some (.int .i64 b.ten) := by rw [hch.cell (by show g < w1.heap.size; omega) (fun h => h), HC1.out.cell (by exact hgl) (fun h => h)]; exact hcl 0 _ rfl
      have c1 : wr.cell? ⟨g, k * 9 + 1, none⟩ = some (.int .i64 b.ref) := by rw [hch.cell (by show g < w1.heap.size; omega) (fun h => h), HC1.out.cell (by exact hgl) (fun h => h)]; exact hcl 1 _ rfl
      clear hcl hb hown HEL hch HC6
      have i0 : (0 : Int) ≤ (k : Int) := by omega
      have i1 : (k : Int) < (n : Int) := by omega
      cases h1 : b.ten == ten
      · go_wp2
        go_quiet (fail)
        go_wp2
        go_roundw
        case rel =>
          refine ⟨k + 1, by omega, by go_num, fun j b' hj hb' => ?_, HCH.out.drewN _⟩
          by_cases e : j < k
          · exact HNO.out j b' e hb'
          · obtain rfl : j = k := by omega
            rw [HB.out] at hb'
            obtain rfl := Option.some.inj hb'
            simp [BidG.is, h1]
        case measure => simp [intOf]; omega
      · cases h2 : b.ref == ref
        · go_wp2
          go_quiet (fail)
          go_wp2
          go_roundw
          case rel =>
            refine ⟨k + 1, by omega, by go_num, fun j b' hj hb' => ?_, HCH.out.drewN _⟩
            by_cases e : j < k
            · exact HNO.out j b' e hb'
            · obtain rfl : j = k := by omega
              rw [HB.out] at hb'
              obtain rfl := Option.some.inj hb'
              simp [BidG.is, h2]
          case measure => simp [intOf]; omega
        · have hf := hide (findZ_some HB.out (by simp [BidG.is, h1, h2]) HNO.out)
          go_wp2
          go_quiet (fail)
          go_wp2
          go_ret
          exact ⟨ret_int (by rw [hf.out]), HC1.out.trans (HCH.out.drewN _) (fun _ _ h => h)⟩
    · have hf := hide (findZ_none (l := l) (ten := ten) (ref := ref) (fun i b hb => HNO.out i b (by have := (List.getElem?_eq_some_iff.1 hb).1; rw [← HLN.out] at this; omega) hb))
      clear hch
      go_wp2
      go_ret
      exact ⟨ret_int (by rw [hf.out]), HC1.out.trans HCH.out (fun _ _ h => h)⟩

set_option maxHeartbeats 2000000 in
theorem countPending_any (V : YV) (m : MkG) (ten : Int) (w : World) (hm : YmAt w V m) (hn : m.bids.length ≤ 300) :
    Calls Try.prog 90 #[.pointer (some ⟨V.q, 0, none⟩), .int .i64 ten] w fun e w' => e = .returned (.int .i64 (pendL m.bids ten)) ∧ w' = w := by
  have hc : w.cell? ⟨V.q, 6, none⟩ = some V.bv := hm.cell 6
  obtain ⟨ao, cap, hv, hel⟩ := hm.bid_form
  rw [hv] at hc
  have HEL := hide hel
  clear hv hel hm
  generalize hbl : m.bids = l at *
  obtain ⟨n, hln⟩ : ∃ n, n = l.length := ⟨_, rfl⟩
  rw [← hln] at hc hn
  have HLN := hide hln
  clear hln hbl
  go_enter Try.func90, Try.ntmps90
  go_wp2
  go_loop [5, 12] (fun s i => ∃ k : Nat, k ≤ n ∧ i = .int .i64 k ∧ s = .int .i64 (pendL (l.take k) ten)) (fun _ i => n - (intOf i).toNat)
  case atStart => exact ⟨0, by omega, rfl, rfl⟩
  case round =>
    obtain ⟨k, hk, rfl, rfl⟩ := hrel
    have hb1 := pendL_le (l.take k) ten
    have hb2 : (l.take k).length ≤ k := List.length_take_le _ _
    by_cases hlt : k < n
    · obtain ⟨b, hb⟩ : ∃ b, l[k]? = some b := ⟨_, List.getElem?_eq_getElem (by rw [← HLN.out]; exact hlt)⟩
      have HS := pendL_snoc (l.take k) b ten
      rw [← take_snoc hb] at HS
      have HSh := hide HS
      obtain ⟨g, hao, hown, hcl, _⟩ := HEL.out k b hb
      subst hao
      have c0 : w.cell? ⟨g, k * 9, none⟩ = some (.int .i64 b.ten) := hcl 0 _ rfl
      have c1 : w.cell? ⟨g, k * 9 + 7, none⟩ = some (.int .i64 b.state) := hcl 7 _ rfl
      have hq : 0 ≤ pendL (l.take k) ten ∧ pendL (l.take k) ten ≤ 300 := by omega
      clear hcl hb hown HEL HS hb1 hb2
      generalize pendL (l.take k) ten = s at *
      obtain ⟨hq1, hq2⟩ := hq
      cases h1 : b.ten == ten
      · go_wp2
        go_round
        case rel => exact ⟨k + 1, by omega, by go_num, by rw [HSh.out]; simp [BidG.pends, h1]⟩
        case measure => simp [intOf]; omega
      · cases h2 : b.state == 1
        · go_wp2
          go_round
          case rel => exact ⟨k + 1, by omega, by go_num, by rw [HSh.out]; simp [BidG.pends, h2]⟩
          case measure => simp [intOf]; omega
        · go_wp2
          go_round
          case rel => exact ⟨k + 1, by omega, by go_num, by rw [HSh.out]; simp [BidG.pends, h1, h2]⟩
          case measure => simp [intOf]; omega
    · go_wp2
      go_ret
      exact ⟨ret_int (by rw [List.take_of_length_le (by rw [← HLN.out]; omega)]), rfl⟩
end Go.Proofs.Ytminceigjejipaa
