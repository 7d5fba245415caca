import Derived.Test.YtminceigjejipabGreatMkA
import Derived.BigRegion
namespace Go.Proofs.YtminceigjejipabGreat
open Go.RowKit

set_option maxRecDepth 100000 in
set_option maxHeartbeats 4000000 in
theorem used_any (p : Nat) (V : MV) (m : MkG) (t : Int) (w : World) (hm : MktAt w p V m) (hn : m.bids.length ≤ 300) (hok : ∀ b ∈ m.bids, BidOk m.c b) (hcf : cfgOk m.c = true) :
    Calls Tryz.prog 68 #[.pointer (some ⟨p, 0, none⟩), .int .i64 t] w fun e w' => e = .returned (.int .i64 (usedL m.bids t)) ∧ Chg (fun _ => False) w w' := by
  have hc : w.cell? ⟨p, 7, none⟩ = some V.bv := hm.cell 7
  have hpl := hm.lt
  have hbl' := hide (fun k hk => (hm.bids.lt k hk).2)
  obtain ⟨ao, cap, hv, hel⟩ := hm.bid_form
  rw [hv] at hc
  have HEL := hide hel
  have HOK := hide hok
  have HCF := hide hcf
  clear hv hel hm hok hcf
  generalize hbl : m.bids = l at *
  obtain ⟨n, hln⟩ : ∃ n, n = l.length := ⟨_, rfl⟩
  rw [← hln] at hc hn
  have HLN := hide hln
  have HC := hide hc
  clear hln hbl
  go_enter Tryz.func68, Tryz.ntmps68
  go_wp2
  go_loopw [5, 6] (fun s i wr => ∃ k : Nat, k ≤ n ∧ i = .int .i64 k ∧ s = .int .i64 (usedL (l.take k) t) ∧ Chg (fun _ => False) w wr) (fun _ i _ => n - (intOf i).toNat)
  case atStart => exact ⟨0, by omega, rfl, rfl, Chg.refl _ _⟩
  case round =>
    obtain ⟨k, hk, rfl, rfl, hchg⟩ := hrel
    have HCH := hide hchg
    have hcr : wr.cell? ⟨p, 7, none⟩ = some (.slice ao n cap) := by rw [hchg.cell (by exact hpl) (fun h => h)]; exact HC.out
    clear hc
    by_cases hlt : k < n
    · obtain ⟨b, hb⟩ : ∃ b, l[k]? = some b := ⟨_, List.getElem?_eq_getElem (by rw [← HLN.out]; exact hlt)⟩
      have HS := usedL_snoc (l.take k) b t
      rw [← take_snoc hb] at HS
      have HSh := hide HS
      have hub := usedL_le m.c t (l.take k) (fun x hx => HOK.out x (List.mem_of_mem_take hx))
      have hub2 : (l.take k).length ≤ k := List.length_take_le _ _
      have hbok := HOK.out b (List.mem_of_getElem? hb)
      have hj := jobIn_true hbok.job
      have hcf := cfgOk_true HCF.out
      obtain ⟨g, hao, hown, hcl, _⟩ := HEL.out k b hb
      subst hao
      have hgl : g < w.heap.size := hbl'.out g hown
      have c0 : wr.cell? ⟨g, k * 12, none⟩ = some (.int .i64 b.ten) := by rw [hchg.cell (by exact hgl) (fun h => h)]; exact hcl 0 _ rfl
      have c1 : wr.cell? ⟨g, k * 12 + 1, none⟩ = some (.int .i64 b.ref) := by rw [hchg.cell (by exact hgl) (fun h => h)]; exact hcl 1 _ rfl
      have c2 : wr.cell? ⟨g, k * 12 + 2, none⟩ = some (.int .i64 b.job.arr) := by rw [hchg.cell (by exact hgl) (fun h => h)]; exact hcl 2 _ rfl
      have c3 : wr.cell? ⟨g, k * 12 + 3, none⟩ = some (.int .i64 b.job.dl) := by rw [hchg.cell (by exact hgl) (fun h => h)]; exact hcl 3 _ rfl
      have c4 : wr.cell? ⟨g, k * 12 + 4, none⟩ = some (.int .i64 b.job.len) := by rw [hchg.cell (by exact hgl) (fun h => h)]; exact hcl 4 _ rfl
      have c5 : wr.cell? ⟨g, k * 12 + 5, none⟩ = some (.int .i64 b.job.units) := by rw [hchg.cell (by exact hgl) (fun h => h)]; exact hcl 5 _ rfl
      have c6 : wr.cell? ⟨g, k * 12 + 6, none⟩ = some (.int .i64 b.job.val) := by rw [hchg.cell (by exact hgl) (fun h => h)]; exact hcl 6 _ rfl
      have c7 : wr.cell? ⟨g, k * 12 + 7, none⟩ = some (.int .i64 b.arrival) := by rw [hchg.cell (by exact hgl) (fun h => h)]; exact hcl 7 _ rfl
      have c8 : wr.cell? ⟨g, k * 12 + 8, none⟩ = some (.int .i64 b.state) := by rw [hchg.cell (by exact hgl) (fun h => h)]; exact hcl 8 _ rfl
      have c9 : wr.cell? ⟨g, k * 12 + 9, none⟩ = some (.int .i64 b.start) := by rw [hchg.cell (by exact hgl) (fun h => h)]; exact hcl 9 _ rfl
      have c10 : wr.cell? ⟨g, k * 12 + 10, none⟩ = some (.int .i64 b.entry) := by rw [hchg.cell (by exact hgl) (fun h => h)]; exact hcl 10 _ rfl
      have c11 : wr.cell? ⟨g, k * 12 + 11, none⟩ = some (.bool b.charged) := by rw [hchg.cell (by exact hgl) (fun h => h)]; exact hcl 11 _ rfl
      have q1 := hbok.st0
      have q2 := hbok.st1
      have q3 : 1 ≤ b.job.len ∧ b.job.len ≤ 64 := by omega
      have q4 : 1 ≤ b.job.units ∧ b.job.units ≤ 1000 := by omega
      have hq : 0 ≤ usedL (l.take k) t ∧ usedL (l.take k) t ≤ 300000 := by omega
      clear hcl hb hown HEL HS hub hub2 hbok hj hcf hchg
      generalize usedL (l.take k) t = s at *
      obtain ⟨hq1, hq2⟩ := hq
      obtain ⟨q3, q5⟩ := q3
      obtain ⟨q4, q6⟩ := q4
      cases h1 : b.state == 2
      · go_wp2
        go_roundw
        case rel => exact ⟨k + 1, by omega, by go_num, by rw [HSh.out]; simp [BidG.runs, h1], HCH.out.alloc _⟩
        case measure => simp [intOf]; omega
      · by_cases h2 : b.start ≤ t
        · by_cases h3 : t < b.start + b.job.len
          · go_wp2
            go_roundw
            case rel => exact ⟨k + 1, by omega, by go_num, by rw [HSh.out]; simp [BidG.runs, h1, h2, h3], HCH.out.alloc _⟩
            case measure => simp [intOf]; omega
          · go_wp2
            go_roundw
            case rel => exact ⟨k + 1, by omega, by go_num, by rw [HSh.out, if_neg (by simp [BidG.runs]; intro _ _; omega)]; go_num, HCH.out.alloc _⟩
            case measure => simp [intOf]; omega
        · go_wp2
          go_roundw
          case rel => exact ⟨k + 1, by omega, by go_num, by rw [HSh.out, if_neg (by simp [BidG.runs]; intro _ _; omega)]; go_num, HCH.out.alloc _⟩
          case measure => simp [intOf]; omega
    · go_wp2
      go_ret
      exact ⟨ret_int (by rw [List.take_of_length_le (by rw [← HLN.out]; omega)]), HCH.out⟩
end Go.Proofs.YtminceigjejipabGreat
