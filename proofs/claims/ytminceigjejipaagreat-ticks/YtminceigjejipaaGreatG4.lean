import Derived.Test.YtminceigjejipaaGreatG2
import Derived.BigRegion
namespace Go.Proofs.YtminceigjejipaaGreat
open Go.RowKit

set_option maxHeartbeats 1000000 in
theorem tenant_any (p : Nat) (V : MV) (m : MkG) (k : Int) (w : World) (hm : MktAt w p V m) :
    Calls Tryz.prog 69 #[.pointer (some ⟨p, 0, none⟩), .int .i64 k] w fun e w' => e = .returned (.bool (m.tenB k)) ∧ w' = w := by
  have hc : w.cell? ⟨p, 3, none⟩ = some (.int .i64 m.c.ten) := hm.cell 3
  clear hm
  by_cases h : 0 ≤ k
  · by_cases h' : k < m.c.ten
    all_goals
      go_enter Tryz.func69, Tryz.ntmps69
      go_wp2
      go_ret
      exact ⟨ret_bool (by simp [MkG.tenB]; omega), rfl⟩
  · go_enter Tryz.func69, Tryz.ntmps69
    go_wp2
    go_ret
    exact ⟨ret_bool (by simp [MkG.tenB]; omega), rfl⟩

set_option maxHeartbeats 2000000 in
theorem find_any (p : Nat) (V : MV) (m : MkG) (ten ref : Int) (w : World) (hm : MktAt w p V m) (hn : m.bids.length ≤ 300) :
    Calls Tryz.prog 70 #[.pointer (some ⟨p, 0, none⟩), .int .i64 ten, .int .i64 ref] w fun e w' => e = .returned (.int .i64 (findZ m.bids ten ref)) ∧ w' = w := by
  have hc : w.cell? ⟨p, 7, none⟩ = some V.bv := hm.cell 7
  obtain ⟨ao, cap, hv, hel⟩ := hm.bid_form
  rw [hv] at hc
  have HEL := hide hel
  clear hv hel hm
  generalize hbl : m.bids = l at *
  obtain ⟨n, hln⟩ : ∃ n, n = l.length := ⟨_, rfl⟩
  rw [← hln] at hc hn
  have HLN := hide hln
  clear hln hbl
  go_enter Tryz.func70, Tryz.ntmps70
  go_wp2
  go_loop [7] (fun i => ∃ k : Nat, k ≤ n ∧ i = .int .i64 k ∧ ∀ (j : Nat) (b : BidG), j < k → l[j]? = some b → b.is ten ref = false) (fun i => n - (intOf i).toNat)
  case atStart => exact ⟨0, by omega, rfl, fun j b h => by omega⟩
  case round =>
    obtain ⟨k, hk, rfl, hno⟩ := hrel
    have HNO := hide hno
    clear hno
    by_cases hlt : k < n
    · obtain ⟨b, hb⟩ : ∃ b, l[k]? = some b := ⟨_, List.getElem?_eq_getElem (by rw [← HLN.out]; exact hlt)⟩
      have HB := hide hb
      obtain ⟨g, hao, hown, hcl, _⟩ := HEL.out k b hb
      subst hao
      have c0 : w.cell? ⟨g, k * 12, none⟩ = some (.int .i64 b.ten) := hcl 0 _ rfl
      have c1 : w.cell? ⟨g, k * 12 + 1, none⟩ = some (.int .i64 b.ref) := hcl 1 _ rfl
      clear hcl hb hown HEL
      cases h1 : b.ten == ten
      · go_wp2
        go_round
        case rel =>
          refine ⟨k + 1, by omega, by go_num, fun j b' hj hb' => ?_⟩
          by_cases e : j < k
          · exact HNO.out j b' e hb'
          · obtain rfl : j = k := by omega
            rw [HB.out] at hb'
            obtain rfl := Option.some.inj hb'
            simp [BidG.is, h1]
        case measure => simp [intOf]; omega
      · cases h2 : b.ref == ref
        · go_wp2
          go_round
          case rel =>
            refine ⟨k + 1, by omega, by go_num, fun j b' hj hb' => ?_⟩
            by_cases e : j < k
            · exact HNO.out j b' e hb'
            · obtain rfl : j = k := by omega
              rw [HB.out] at hb'
              obtain rfl := Option.some.inj hb'
              simp [BidG.is, h2]
          case measure => simp [intOf]; omega
        · have hf := hide (findZ_some HB.out (by simp [BidG.is, h1, h2]) HNO.out)
          go_wp2
          go_ret
          exact ⟨ret_int (by rw [hf.out]), rfl⟩
    · have hf := hide (findZ_none (l := l) (ten := ten) (ref := ref) (fun i b hb => HNO.out i b (by have := (List.getElem?_eq_some_iff.1 hb).1; rw [← HLN.out] at this; omega) hb))
      go_wp2
      go_ret
      exact ⟨ret_int (by rw [hf.out]), rfl⟩

theorem take_snoc {α : Type} {l : List α} {k : Nat} {x : α} (h : l[k]? = some x) : l.take (k + 1) = l.take k ++ [x] := by
  rw [List.take_add_one, h]
  rfl

set_option maxHeartbeats 2000000 in
theorem pending_any (p : Nat) (V : MV) (m : MkG) (ten : Int) (w : World) (hm : MktAt w p V m) (hn : m.bids.length ≤ 300) :
    Calls Tryz.prog 72 #[.pointer (some ⟨p, 0, none⟩), .int .i64 ten] w fun e w' => e = .returned (.int .i64 (pendL m.bids ten)) ∧ w' = w := by
  have hc : w.cell? ⟨p, 7, none⟩ = some V.bv := hm.cell 7
  obtain ⟨ao, cap, hv, hel⟩ := hm.bid_form
  rw [hv] at hc
  have HEL := hide hel
  clear hv hel hm
  generalize hbl : m.bids = l at *
  obtain ⟨n, hln⟩ : ∃ n, n = l.length := ⟨_, rfl⟩
  rw [← hln] at hc hn
  have HLN := hide hln
  clear hln hbl
  go_enter Tryz.func72, Tryz.ntmps72
  go_wp2
  go_loop [5, 6] (fun s i => ∃ k : Nat, k ≤ n ∧ i = .int .i64 k ∧ s = .int .i64 (pendL (l.take k) ten)) (fun _ i => n - (intOf i).toNat)
  case atStart => exact ⟨0, by omega, rfl, rfl⟩
  case round =>
    obtain ⟨k, hk, rfl, rfl⟩ := hrel
    have hb1 := pendL_le (l.take k) ten
    have hb2 : (l.take k).length ≤ k := List.length_take_le _ _
    by_cases hlt : k < n
    · obtain ⟨b, hb⟩ : ∃ b, l[k]? = some b := ⟨_, List.getElem?_eq_getElem (by rw [← HLN.out]; exact hlt)⟩
      have HS := pendL_snoc (l.take k) b ten
      rw [← take_snoc hb] at HS
      have HSh := hide HS
      obtain ⟨g, hao, hown, hcl, _⟩ := HEL.out k b hb
      subst hao
      have c0 : w.cell? ⟨g, k * 12, none⟩ = some (.int .i64 b.ten) := hcl 0 _ rfl
      have c1 : w.cell? ⟨g, k * 12 + 8, none⟩ = some (.int .i64 b.state) := hcl 8 _ rfl
      have hq : 0 ≤ pendL (l.take k) ten ∧ pendL (l.take k) ten ≤ 300 := by omega
      clear hcl hb hown HEL HS hb1 hb2
      generalize pendL (l.take k) ten = s at *
      obtain ⟨hq1, hq2⟩ := hq
      cases h1 : b.ten == ten
      · go_wp2
        go_round
        case rel => exact ⟨k + 1, by omega, by go_num, by rw [HSh.out]; simp [BidG.pends, h1]⟩
        case measure => simp [intOf]; omega
      · cases h2 : b.state == 1
        · go_wp2
          go_round
          case rel => exact ⟨k + 1, by omega, by go_num, by rw [HSh.out]; simp [BidG.pends, h2]⟩
          case measure => simp [intOf]; omega
        · go_wp2
          go_round
          case rel => exact ⟨k + 1, by omega, by go_num, by rw [HSh.out]; simp [BidG.pends, h1, h2]⟩
          case measure => simp [intOf]; omega
    · go_wp2
      go_ret
      exact ⟨ret_int (by rw [List.take_of_length_le (by rw [← HLN.out]; omega)]), rfl⟩
end Go.Proofs.YtminceigjejipaaGreat

namespace Go.Proofs.YtminceigjejipaaGreat
open Go.RowKit

set_option maxRecDepth 100000 in
set_option maxHeartbeats 4000000 in
theorem used_any (p : Nat) (V : MV) (m : MkG) (t : Int) (w : World) (hm : MktAt w p V m) (hn : m.bids.length ≤ 300) (hok : ∀ b ∈ m.bids, BidOk m.c b) (hcf : cfgOk m.c = true) :
    Calls Tryz.prog 73 #[.pointer (some ⟨p, 0, none⟩), .int .i64 t] w fun e w' => e = .returned (.int .i64 (usedL m.bids t)) ∧ Chg (fun _ => False) w w' := by
  have hc : w.cell? ⟨p, 7, none⟩ = some V.bv := hm.cell 7
  have hpl := hm.lt
  have hbl' := hide (fun k hk => (hm.bids.lt k hk).2)
  obtain ⟨ao, cap, hv, hel⟩ := hm.bid_form
  rw [hv] at hc
  have HEL := hide hel
  have HOK := hide hok
  have HCF := hide hcf
  clear hv hel hm hok hcf
  generalize hbl : m.bids = l at *
  obtain ⟨n, hln⟩ : ∃ n, n = l.length := ⟨_, rfl⟩
  rw [← hln] at hc hn
  have HLN := hide hln
  have HC := hide hc
  clear hln hbl
  go_enter Tryz.func73, Tryz.ntmps73
  go_wp2
  go_loopw [5, 6] (fun s i wr => ∃ k : Nat, k ≤ n ∧ i = .int .i64 k ∧ s = .int .i64 (usedL (l.take k) t) ∧ Chg (fun _ => False) w wr) (fun _ i _ => n - (intOf i).toNat)
  case atStart => exact ⟨0, by omega, rfl, rfl, Chg.refl _ _⟩
  case round =>
    obtain ⟨k, hk, rfl, rfl, hchg⟩ := hrel
    have HCH := hide hchg
    have hcr : wr.cell? ⟨p, 7, none⟩ = some (.slice ao n cap) := by rw [hchg.cell (by exact hpl) (fun h => h)]; exact HC.out
    clear hc
    by_cases hlt : k < n
    · obtain ⟨b, hb⟩ : ∃ b, l[k]? = some b := ⟨_, List.getElem?_eq_getElem (by rw [← HLN.out]; exact hlt)⟩
      have HS := usedL_snoc (l.take k) b t
      rw [← take_snoc hb] at HS
      have HSh := hide HS
      have hub := usedL_le m.c t (l.take k) (fun x hx => HOK.out x (List.mem_of_mem_take hx))
      have hub2 : (l.take k).length ≤ k := List.length_take_le _ _
      have hbok := HOK.out b (List.mem_of_getElem? hb)
      have hj := jobIn_true hbok.job
      have hcf := cfgOk_true HCF.out
      obtain ⟨g, hao, hown, hcl, _⟩ := HEL.out k b hb
      subst hao
      have hgl : g < w.heap.size := hbl'.out g hown
      have c0 : wr.cell? ⟨g, k * 12, none⟩ = some (.int .i64 b.ten) := by rw [hchg.cell (by exact hgl) (fun h => h)]; exact hcl 0 _ rfl
      have c1 : wr.cell? ⟨g, k * 12 + 1, none⟩ = some (.int .i64 b.ref) := by rw [hchg.cell (by exact hgl) (fun h => h)]; exact hcl 1 _ rfl
      have c2 : wr.cell? ⟨g, k * 12 + 2, none⟩ = some (.int .i64 b.job.arr) := by rw [hchg.cell (by exact hgl) (fun h => h)]; exact hcl 2 _ rfl
      have c3 : wr.cell? ⟨g, k * 12 + 3, none⟩ = some (.int .i64 b.job.dl) := by rw [hchg.cell (by exact hgl) (fun h => h)]; exact hcl 3 _ rfl
      have c4 : wr.cell? ⟨g, k * 12 + 4, none⟩ = some (.int .i64 b.job.len) := by rw [hchg.cell (by exact hgl) (fun h => h)]; exact hcl 4 _ rfl
      have c5 : wr.cell? ⟨g, k * 12 + 5, none⟩ = some (.int .i64 b.job.units) := by rw [hchg.cell (by exact hgl) (fun h => h)]; exact hcl 5 _ rfl
      have c6 : wr.cell? ⟨g, k * 12 + 6, none⟩ = some (.int .i64 b.job.val) := by rw [hchg.cell (by exact hgl) (fun h => h)]; exact hcl 6 _ rfl
      have c7 : wr.cell? ⟨g, k * 12 + 7, none⟩ = some (.int .i64 b.arrival) := by rw [hchg.cell (by exact hgl) (fun h => h)]; exact hcl 7 _ rfl
      have c8 : wr.cell? ⟨g, k * 12 + 8, none⟩ = some (.int .i64 b.state) := by rw [hchg.cell (by exact hgl) (fun h => h)]; exact hcl 8 _ rfl
      have c9 : wr.cell? ⟨g, k * 12 + 9, none⟩ = some (.int .i64 b.start) := by rw [hchg.cell (by exact hgl) (fun h => h)]; exact hcl 9 _ rfl
      have c10 : wr.cell? ⟨g, k * 12 + 10, none⟩ = some (.int .i64 b.entry) := by rw [hchg.cell (by exact hgl) (fun h => h)]; exact hcl 10 _ rfl
      have c11 : wr.cell? ⟨g, k * 12 + 11, none⟩ = some (.bool b.charged) := by rw [hchg.cell (by exact hgl) (fun h => h)]; exact hcl 11 _ rfl
      have q1 := hbok.st0
      have q2 := hbok.st1
      have q3 : 1 ≤ b.job.len ∧ b.job.len ≤ 64 := by omega
      have q4 : 1 ≤ b.job.units ∧ b.job.units ≤ 1000 := by omega
      have hq : 0 ≤ usedL (l.take k) t ∧ usedL (l.take k) t ≤ 300000 := by omega
      clear hcl hb hown HEL HS hub hub2 hbok hj hcf hchg
      generalize usedL (l.take k) t = s at *
      obtain ⟨hq1, hq2⟩ := hq
      obtain ⟨q3, q5⟩ := q3
      obtain ⟨q4, q6⟩ := q4
      cases h1 : b.state == 2
      · go_wp2
        go_roundw
        case rel => exact ⟨k + 1, by omega, by go_num, by rw [HSh.out]; simp [BidG.runs, h1], HCH.out.alloc _⟩
        case measure => simp [intOf]; omega
      · by_cases h2 : b.start ≤ t
        · by_cases h3 : t < b.start + b.job.len
          · go_wp2
            go_roundw
            case rel => exact ⟨k + 1, by omega, by go_num, by rw [HSh.out]; simp [BidG.runs, h1, h2, h3], HCH.out.alloc _⟩
            case measure => simp [intOf]; omega
          · go_wp2
            go_roundw
            case rel => exact ⟨k + 1, by omega, by go_num, by rw [HSh.out, if_neg (by simp [BidG.runs]; intro _ _; omega)]; go_num, HCH.out.alloc _⟩
            case measure => simp [intOf]; omega
        · go_wp2
          go_roundw
          case rel => exact ⟨k + 1, by omega, by go_num, by rw [HSh.out, if_neg (by simp [BidG.runs]; intro _ _; omega)]; go_num, HCH.out.alloc _⟩
          case measure => simp [intOf]; omega
    · go_wp2
      go_ret
      exact ⟨ret_int (by rw [List.take_of_length_le (by rw [← HLN.out]; omega)]), HCH.out⟩
end Go.Proofs.YtminceigjejipaaGreat
