import Derived.Test.YtminceigjejipabGreatG2
namespace Go.Proofs.YtminceigjejipabGreat
open Go.RowKit

set_option maxHeartbeats 1000000 in
theorem tenant_any (p : Nat) (V : MV) (m : MkG) (k : Int) (w : World) (hm : MktAt w p V m) :
    Calls Tryz.prog 64 #[.pointer (some ⟨p, 0, none⟩), .int .i64 k] w fun e w' => e = .returned (.bool (m.tenB k)) ∧ w' = w := by
  have hc : w.cell? ⟨p, 3, none⟩ = some (.int .i64 m.c.ten) := hm.cell 3
  clear hm
  by_cases h : 0 ≤ k
  · by_cases h' : k < m.c.ten
    all_goals
      go_enter Tryz.func64, Tryz.ntmps64
      go_wp2
      go_ret
      exact ⟨ret_bool (by simp [MkG.tenB]; omega), rfl⟩
  · go_enter Tryz.func64, Tryz.ntmps64
    go_wp2
    go_ret
    exact ⟨ret_bool (by simp [MkG.tenB]; omega), rfl⟩

set_option maxHeartbeats 2000000 in
theorem find_any (p : Nat) (V : MV) (m : MkG) (ten ref : Int) (w : World) (hm : MktAt w p V m) (hn : m.bids.length ≤ 300) :
    Calls Tryz.prog 65 #[.pointer (some ⟨p, 0, none⟩), .int .i64 ten, .int .i64 ref] w fun e w' => e = .returned (.int .i64 (findZ m.bids ten ref)) ∧ w' = w := by
  have hc : w.cell? ⟨p, 7, none⟩ = some V.bv := hm.cell 7
  obtain ⟨ao, cap, hv, hel⟩ := hm.bid_form
  rw [hv] at hc
  have HEL := hide hel
  clear hv hel hm
  generalize hbl : m.bids = l at *
  obtain ⟨n, hln⟩ : ∃ n, n = l.length := ⟨_, rfl⟩
  rw [← hln] at hc hn
  have HLN := hide hln
  clear hln hbl
  go_enter Tryz.func65, Tryz.ntmps65
  go_wp2
  go_loop [7] (fun i => ∃ k : Nat, k ≤ n ∧ i = .int .i64 k ∧ ∀ (j : Nat) (b : BidG), j < k → l[j]? = some b → b.is ten ref = false) (fun i => n - (intOf i).toNat)
  case atStart => exact ⟨0, by omega, rfl, fun j b h => by omega⟩
  case round =>
    obtain ⟨k, hk, rfl, hno⟩ := hrel
    have HNO := hide hno
    clear hno
    by_cases hlt : k < n
    · obtain ⟨b, hb⟩ : ∃ b, l[k]? = some b := ⟨_, List.getElem?_eq_getElem (by rw [← HLN.out]; exact hlt)⟩
      have HB := hide hb
      obtain ⟨g, hao, hown, hcl, _⟩ := HEL.out k b hb
      subst hao
      have c0 : w.cell? ⟨g, k * 12, none⟩ = some (.int .i64 b.ten) := hcl 0 _ rfl
      have c1 : w.cell? ⟨g, k * 12 + 1, none⟩ = some (.int .i64 b.ref) := hcl 1 _ rfl
      clear hcl hb hown HEL
      cases h1 : b.ten == ten
      · go_wp2
        go_round
        case rel =>
          refine ⟨k + 1, by omega, by go_num, fun j b' hj hb' => ?_⟩
          by_cases e : j < k
          · exact HNO.out j b' e hb'
          · obtain rfl : j = k := by omega
            rw [HB.out] at hb'
            obtain rfl := Option.some.inj hb'
            simp [BidG.is, h1]
        case measure => simp [intOf]; omega
      · cases h2 : b.ref == ref
        · go_wp2
          go_round
          case rel =>
            refine ⟨k + 1, by omega, by go_num, fun j b' hj hb' => ?_⟩
            by_cases e : j < k
            · exact HNO.out j b' e hb'
            · obtain rfl : j = k := by omega
              rw [HB.out] at hb'
              obtain rfl := Option.some.inj hb'
              simp [BidG.is, h2]
          case measure => simp [intOf]; omega
        · have hf := hide (findZ_some HB.out (by simp [BidG.is, h1, h2]) HNO.out)
          go_wp2
          go_ret
          exact ⟨ret_int (by rw [hf.out]), rfl⟩
    · have hf := hide (findZ_none (l := l) (ten := ten) (ref := ref) (fun i b hb => HNO.out i b (by have := (List.getElem?_eq_some_iff.1 hb).1; rw [← HLN.out] at this; omega) hb))
      go_wp2
      go_ret
      exact ⟨ret_int (by rw [hf.out]), rfl⟩

theorem take_snoc {α : Type} {l : List α} {k : Nat} {x : α} (h : l[k]? = some x) : l.take (k + 1) = l.take k ++ [x] := by
  rw [List.take_add_one, h]
  rfl

set_option maxHeartbeats 2000000 in
theorem pending_any (p : Nat) (V : MV) (m : MkG) (ten : Int) (w : World) (hm : MktAt w p V m) (hn : m.bids.length ≤ 300) :
    Calls Tryz.prog 67 #[.pointer (some ⟨p, 0, none⟩), .int .i64 ten] w fun e w' => e = .returned (.int .i64 (pendL m.bids ten)) ∧ w' = w := by
  have hc : w.cell? ⟨p, 7, none⟩ = some V.bv := hm.cell 7
  obtain ⟨ao, cap, hv, hel⟩ := hm.bid_form
  rw [hv] at hc
  have HEL := hide hel
  clear hv hel hm
  generalize hbl : m.bids = l at *
  obtain ⟨n, hln⟩ : ∃ n, n = l.length := ⟨_, rfl⟩
  rw [← hln] at hc hn
  have HLN := hide hln
  clear hln hbl
  go_enter Tryz.func67, Tryz.ntmps67
  go_wp2
  go_loop [5, 6] (fun s i => ∃ k : Nat, k ≤ n ∧ i = .int .i64 k ∧ s = .int .i64 (pendL (l.take k) ten)) (fun _ i => n - (intOf i).toNat)
  case atStart => exact ⟨0, by omega, rfl, rfl⟩
  case round =>
    obtain ⟨k, hk, rfl, rfl⟩ := hrel
    have hb1 := pendL_le (l.take k) ten
    have hb2 : (l.take k).length ≤ k := List.length_take_le _ _
    by_cases hlt : k < n
    · obtain ⟨b, hb⟩ : ∃ b, l[k]? = some b := ⟨_, List.getElem?_eq_getElem (by rw [← HLN.out]; exact hlt)⟩
      have HS := pendL_snoc (l.take k) b ten
      rw [← take_snoc hb] at HS
      have HSh := hide HS
      obtain ⟨g, hao, hown, hcl, _⟩ := HEL.out k b hb
      subst hao
      have c0 : w.cell? ⟨g, k * 12, none⟩ = some (.int .i64 b.ten) := hcl 0 _ rfl
      have c1 : w.cell? ⟨g, k * 12 + 8, none⟩ = some (.int .i64 b.state) := hcl 8 _ rfl
      have hq : 0 ≤ pendL (l.take k) ten ∧ pendL (l.take k) ten ≤ 300 := by omega
      clear hcl hb hown HEL HS hb1 hb2
      generalize pendL (l.take k) ten = s at *
      obtain ⟨hq1, hq2⟩ := hq
      cases h1 : b.ten == ten
      · go_wp2
        go_round
        case rel => exact ⟨k + 1, by omega, by go_num, by rw [HSh.out]; simp [BidG.pends, h1]⟩
        case measure => simp [intOf]; omega
      · cases h2 : b.state == 1
        · go_wp2
          go_round
          case rel => exact ⟨k + 1, by omega, by go_num, by rw [HSh.out]; simp [BidG.pends, h2]⟩
          case measure => simp [intOf]; omega
        · go_wp2
          go_round
          case rel => exact ⟨k + 1, by omega, by go_num, by rw [HSh.out]; simp [BidG.pends, h1, h2]⟩
          case measure => simp [intOf]; omega
    · go_wp2
      go_ret
      exact ⟨ret_int (by rw [List.take_of_length_le (by rw [← HLN.out]; omega)]), rfl⟩
end Go.Proofs.YtminceigjejipabGreat
