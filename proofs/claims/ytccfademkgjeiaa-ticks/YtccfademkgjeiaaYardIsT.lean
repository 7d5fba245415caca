import Derived.Test.YtccfademkgjeiaaYardIs
import Derived.Test.YtccfademkgjeiaaLawT
import Derived.Test.YtccfademkgjeiaaYt6
/-
  THE LANDED MARKET MEETS TickY.
-/
namespace Go.Proofs.Ytccfademkgjeiaa
open Go.RowKit

theorem IsOrder.logs {m : MkG} {t : Int} {l : List Nat} {c : CallG} (h : IsOrder (m.logs c) t l) : IsOrder m t l := ⟨h.mem, h.sorted⟩
theorem YTickRes.res {m m' : MkG} {z : Int} {names : List (Int × Int)} (hok : MkOk (m.logs callTick)) (hg : m.ghost = -1) (hl : m.log.length < 300) (h : YTickRes (m.logs callTick) z names m') : TickRes m z names m' := by
  rcases h with ⟨h1, rfl, rfl, rfl⟩ | ⟨h1, rfl, l, hl', rfl, rfl⟩
  · exact .inr (.inl ⟨hl, h1, rfl, rfl, rfl⟩)
  · refine .inr (.inr ⟨hl, h1, rfl, l, hl'.logs, ?_, ?_⟩)
    · unfold tickM
      simp only
      rw [ghostI_none hok hg]
      rfl
    · unfold tickM
      simp only
      rw [ghostI_none hok hg]
      rfl
theorem YTickRes.log {m m' : MkG} {z : Int} {names : List (Int × Int)} (h : YTickRes m z names m') : m'.log.length = m.log.length := by
  rcases h with ⟨h1, rfl, rfl, rfl⟩ | ⟨h1, rfl, l, hl', rfl, rfl⟩
  · rfl
  · exact congrArg List.length (AlikeM.fold m.time none l (m, [])).log
theorem YTickRes.arr {m m' : MkG} {z : Int} {names : List (Int × Int)} (h : YTickRes m z names m') (ha : ArrOk m) : ArrOk m' := by
  rcases h with ⟨h1, rfl, rfl, rfl⟩ | ⟨h1, rfl, l, hl', rfl, rfl⟩
  · exact ha
  · refine (ArrOk.fold m.time l (m, []) ha).tickEnd ?_
    have := (AlikeM.fold m.time none l (m, [])).time
    show (l.foldl (tickOne m.time none) (m, [])).1.time ≤ _
    rw [this]
    exact Int.le_refl _

set_option maxRecDepth 100000 in
set_option maxHeartbeats 2000000 in
theorem tickY : TickY YAt := by
  intro w p F m hy hok hg
  obtain ⟨V, hF, hv⟩ := hy
  have HF := hide hF
  have HV := hide hv
  have HOK := hide hok
  have HG := hide hg
  clear hF hv hok hg
  by_cases hl : m.log.length = 300
  · have HL := hide hl
    clear hl
    go_enter Try.func48, Try.ntmps48
    go_wp2_with (go_at_call 72; refine (log_full p V m _ HV.out HL.out).mono ?_; rintro e w' ⟨rfl, hw⟩; subst w')
    go_ret2
    exact ⟨_, [], 2, m, F, rfl, .inl ⟨HL.out, rfl, rfl, rfl⟩, ⟨V, HF.out, HV.out⟩, Chg.refl _ _, fun _ hk => .inl hk, World.ownsRow_nil _ _ _ _, fun k hk => by simp [Value.ownBlock] at hk, fun _ => rfl⟩
  · have hl' : m.log.length < 300 := by have := HOK.out.nl; omega
    have HL := hide hl'
    clear hl hl'
    go_enter Try.func48, Try.ntmps48
    go_wp2_with fail
    refine (log_ok p V m _ HV.out HL.out).mono ?_
    rintro e w2 ⟨rfl, hw2⟩
    obtain ⟨m1, m2⟩ := HV.out.more
    rw [← hw2] at m1 m2
    have hc12 : Chg (fun k => k = p) w w2 := by rw [hw2]; exact (Chg.refl (fun k => k = p) _).setCell (.inl rfl) _
    have cq : w2.cell? ⟨p, 1, none⟩ = some (.pointer (some ⟨V.q, 0, none⟩)) := by unfold World.cell?; rw [m1]; rfl
    have HBOX := hide m1
    have HC12 := hide hc12
    have HSUB := hide (ytick_any V (m.logs callTick) w2 (m2.logs _) (HOK.out.logs HL.out _) (HV.out.arr.logs _) HG.out)
    have HSZ := hide hc12.size
    have HLT := hide m2.foot_lt
    clear hw2 hc12 m1 m2
    go_wp2_with (go_at_call 77; refine HSUB.out.mono ?_; rintro e w3 ⟨lv, z, names, m', rfl, hres, hm3, hc3, how, hnew, hnil⟩; have HRES := hide hres; have HM3 := hide hm3; have HC3 := hide hc3; have HOW := hide how; have HNEW := hide hnew; have HNIL := hide hnil; clear hres hm3 hc3 how hnew hnil)
    go_ret2
    have hlog : m'.log.length = m.log.length + 1 := by rw [HRES.out.log]; simp [MkG.logs]
    have hp2 : p < w2.heap.size := (Array.getElem?_eq_some_iff.1 HBOX.out).1
    refine ⟨lv, names, z, m', F, rfl, HRES.out.res (HOK.out.logs HL.out _) HG.out HL.out, ⟨V, HF.out, ?_, HM3.out, HRES.out.arr (HV.out.arr.logs _)⟩, ?_, fun _ hk => .inl hk, HOW.out, fun k hk => ⟨Nat.le_trans HSZ.out (HNEW.out k hk), fun hf => ?_⟩, HNIL.out⟩
    · rw [hlog]
      exact (HC3.out.block _ hp2 HV.out.out).trans HBOX.out
    · exact (HC12.out.mono (fun k _ hk => (HF.out k).2 (.inl hk))).trans HC3.out (fun k _ hk => (HF.out k).2 (.inr hk))
    · have h1 := HNEW.out k hk
      rcases (HF.out k).1 hf with rfl | hf
      · omega
      · have := HLT.out k hf
        omega
end Go.Proofs.Ytccfademkgjeiaa
