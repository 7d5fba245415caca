import Derived.Test.YtminceigjejipaaChA
/-
  yardkeep, Charged: of.
-/
namespace Go.Proofs.Ytminceigjejipaa
open Go.RowKit

set_option maxRecDepth 100000 in
set_option maxHeartbeats 4000000 in
theorem kof_any (l : List InvG) (av : Value) (ten : Int) (w : World) (ha : w.ownsRow 0 88 3 av l.length (l.flatMap invCells)) (hl : l.length ≤ 300) (hc : ∀ c ∈ l, 0 ≤ c.cents ∧ c.cents ≤ 1048576) :
    Calls Try.prog 35 #[av, .int .i64 ten] w fun e w' => ∃ lv, e = .returned (.tuple #[lv, .int .i64 (sumC (ofTen l ten))]) ∧ InvSt w (ofTen l ten) lv w' := by
  obtain ⟨ca, cc, hav⟩ := ownsRow_form ha
  subst hav
  have HA := hide ha
  have HC := hide hc
  obtain ⟨N, hN⟩ : ∃ N, N = l.length := ⟨_, rfl⟩
  have HN := hide hN
  rw [← hN] at hl ⊢
  clear ha hc hN
  go_enter Try.func35, Try.ntmps35
  go_wp2
  go_loopw [6, 7, 8] (fun lv s y wr => ∃ k : Nat, k ≤ N ∧ y = .int .i64 k ∧ s = .int .i64 (sumC (ofTen (l.take k) ten)) ∧ InvSt w (ofTen (l.take k) ten) lv wr) (fun _ _ y _ => N - (intOf y).toNat)
  case atStart => exact ⟨0, by omega, rfl, rfl, InvSt.nil (Chg.refl _ _)⟩
  case round =>
    obtain ⟨k, hk, rfl, rfl, hst⟩ := hrel
    have HST := hide hst
    have HCR := hide hst.chg
    obtain ⟨S, hS⟩ : ∃ S, S = sumC (ofTen (l.take k) ten) := ⟨_, rfl⟩
    rw [← hS]
    have hsb := sumC_le (ofTen (l.take k) ten) (fun c h => HC.out c (List.mem_of_mem_take (List.mem_filter.1 h).1))
    have hfl := List.length_filter_le (fun c : InvG => c.ten == ten) (l.take k)
    rw [← hS] at hsb
    have hflt : (ofTen (l.take k) ten).length ≤ k := by
      simp at hfl
      unfold ofTen
      omega
    have hsr : 0 ≤ S ∧ S ≤ 314572800 := by constructor <;> omega
    have HS' := hide hS
    clear hst hS hsb hfl
    by_cases hlt : k < N
    · obtain ⟨c, hc⟩ : ∃ c, l[k]? = some c := ⟨_, List.getElem?_eq_getElem (by rw [← HN.out]; exact hlt)⟩
      obtain ⟨gc, ccap, hv, _, hgl, hcel⟩ := invRow_cell HA.out hc
      have hla : ca = some ⟨gc, 0, none⟩ := by
        simp at hv
        exact hv.1
      subst hla
      have hcb := HC.out c (List.mem_of_getElem? hc)
      have k0 : (0 : Int) ≤ (k : Int) := by omega
      have k1 : (k : Int) < (N : Int) := by omega
      have l0 : wr.cell? ⟨gc, k * 3, none⟩ = some (.int .i64 c.ten) := by rw [HCR.out.cell (p := ⟨gc, k * 3, none⟩) hgl (fun h => h)]; exact hcel 0 _ rfl
      have l1 : wr.cell? ⟨gc, k * 3 + 1, none⟩ = some (.int .i64 c.ref) := by rw [HCR.out.cell (p := ⟨gc, k * 3 + 1, none⟩) hgl (fun h => h)]; exact hcel 1 _ rfl
      have l2 : wr.cell? ⟨gc, k * 3 + 2, none⟩ = some (.int .i64 c.cents) := by rw [HCR.out.cell (p := ⟨gc, k * 3 + 2, none⟩) hgl (fun h => h)]; exact hcel 2 _ rfl
      have HL2 : Hid (w.cell? ⟨gc, k * 3 + 2, none⟩ = some (.int .i64 c.cents)) := hcel 2 _ rfl
      have HS := hide (ofTen_snoc (ten := ten) hc)
      clear hcel hv hc
      cases hq : c.ten == ten
      · have HE := hide (show ofTen (l.take (k + 1)) ten = ofTen (l.take k) ten by rw [HS.out, hq]; simp)
        go_wp2
        go_roundw
        case rel => exact ⟨k + 1, by omega, by go_num, by rw [HE.out, HS'.out], by rw [HE.out]; exact HST.out⟩
        case measure => simp [intOf]; omega
      · have HE := hide (show ofTen (l.take (k + 1)) ten = ofTen (l.take k) ten ++ [c] by rw [HS.out, hq]; simp)
        have hww : IntKind.i64.wrap (S + c.cents) = S + c.cents := by rw [IntKind.wrap_i64]; omega
        obtain ⟨oa, oc, hov⟩ := ownsRow_form HST.out.own
        subst hov
        obtain ⟨no, hno⟩ : ∃ no, no = (ofTen (l.take k) ten).length := ⟨_, rfl⟩
        have HOUT : Hid (wr.ownsRow 0 88 3 (.slice oa no oc) no ((ofTen (l.take k) ten).flatMap invCells)) := by rw [hno]; exact HST.out.own
        have hol : no ≤ k := by rw [hno]; exact hflt
        rw [← hno] at HST ⊢
        have HNO := hide hno
        have HG := hide hgl
        clear hno hflt hgl
        obtain ⟨i0', hi, hz0', hz1, hz2⟩ := info_parts infoInvoice
        go_wp2_with (first | (at_builtin; refine wpList_append_lies _ rfl (.tmp 22) (.tmp 27) 49 rfl 0 88 i0' (.agg #[.int .i64 0, .int .i64 0, .int .i64 0]) 3 24 Try.underlying49 hi hz0' hz1 hz2 rfl (by decide) (.slice oa no oc) no ((ofTen (l.take k) ten).flatMap invCells) rfl (HOUT.out.alloc _) ⟨wr.heap.size, 0, none⟩ 1 1 (invCells c) rfl rfl (World.news_of_block (heap_alloc_new wr _)) (by simp [invCells, Value.oneCell']) (by decide) (by unfold maxLen; omega) (by omega) (Nat.zero_le _) _ rfl ?_; intro g capn w7 hown hgrow hat2 hlt; have HST8 := inv_arm HST.out HNO.out ((Chg.refl _ _).alloc _) hown hgrow hat2 (by simp); have hra7 : w7.cell? ⟨gc, k * 3 + 2, none⟩ = some (.int .i64 c.cents) := (by rw [HST8.out.chg.cell (p := ⟨gc, k * 3 + 2, none⟩) HG.out (fun h => h)]; exact HL2.out); clear hown hgrow hat2 hlt))
        all_goals
          clear l0 l1 l2
          go_wp2
          go_roundw
          case rel => exact ⟨k + 1, by omega, by go_num, by rw [HE.out, sumC_snoc, HS'.out], by rw [HE.out]; exact HST8.out⟩
          case measure => simp [intOf]; omega
    · have hkN : k = N := by omega
      have HE := hide (show ofTen l ten = ofTen (l.take k) ten by rw [hkN, HN.out, List.take_length])
      clear hkN
      go_wp2
      go_ret2
      exact ⟨_, by rw [HE.out, HS'.out]; rfl, by rw [HE.out]; exact HST.out⟩
end Go.Proofs.Ytminceigjejipaa

/-
  yardkeep, Charged, pure: what a step makes of the charged bids, the charges and the payments; the marks.
-/
namespace Go.Proofs.Ytminceigjejipaa

def chs (m : MkG) : List Bool := m.bids.map (·.charged)
/-- the book knows which bids are charged -/
def ChRel (m : MkG) (b : BookG) : Prop := b.bids.map (·.charged) = chs m
theorem ChRel.at {m : MkG} {b : BookG} (h : ChRel m b) {i : Nat} {o : KnownG} {x : BidG} (ho : b.bids[i]? = some o) (hx : m.bids[i]? = some x) : o.charged = x.charged := by
  have h1 : (b.bids.map (·.charged))[i]? = some o.charged := by rw [List.getElem?_map, ho]; rfl
  have h2 : (chs m)[i]? = some x.charged := by rw [chs, List.getElem?_map, hx]; rfl
  rw [h, h2] at h1
  exact (Option.some.inj h1).symm
theorem ch_set {l : List BidG} {i : Nat} {b b' : BidG} (hb : l[i]? = some b) (h : b'.charged = b.charged) : (l.set i b').map (·.charged) = l.map (·.charged) := by
  apply List.ext_getElem?
  intro k
  rw [List.getElem?_map, List.getElem?_map, List.getElem?_set]
  by_cases e : i = k
  · subst e
    rw [if_pos rfl, if_pos (List.getElem?_eq_some_iff.1 hb).1, hb]
    simp [h]
  · rw [if_neg e]
/-- charged bids, charges and payments stay -/
structure Cash (m m' : MkG) : Prop where
  chs : chs m' = chs m
  charges : m'.charges = m.charges
  paid : m'.paid = m.paid
theorem Cash.refl (m : MkG) : Cash m m := ⟨rfl, rfl, rfl⟩
theorem Cash.trans {m m1 m2 : MkG} (h : Cash m m1) (h' : Cash m1 m2) : Cash m m2 := ⟨h'.chs.trans h.chs, h'.charges.trans h.charges, h'.paid.trans h.paid⟩
theorem Cash.logs (m : MkG) (c : CallG) : Cash m (m.logs c) := ⟨rfl, rfl, rfl⟩
theorem Cash.start (m : MkG) (i : Nat) (t : Int) : Cash m (startM m i t) := by
  unfold startM
  split
  · rename_i b hb
    exact ⟨ch_set hb rfl, rfl, rfl⟩
  · exact Cash.refl _
theorem Cash.one (t : Int) (s : TkS) (i : Nat) : Cash s.1 (tickOne t none s i).1 := by
  unfold tickOne
  split
  · exact Cash.refl _
  · split
    · exact Cash.start _ _ _
    · exact Cash.refl _
theorem Cash.fold (t : Int) : ∀ (l : List Nat) (s : TkS), Cash s.1 (l.foldl (tickOne t none) s).1
  | [], _ => Cash.refl _
  | i :: l, s => (Cash.one t s i).trans (Cash.fold t l _)
theorem Cash.end (t : Int) (m : MkG) : Cash m (tickEnd t m) := by
  refine ⟨?_, rfl, rfl⟩
  unfold tickEnd Go.Proofs.Ytminceigjejipaa.chs
  rw [List.map_map]
  apply List.map_congr_left
  intro b _
  show (b.expire (t + 1)).charged = b.charged
  unfold BidG.expire
  split <;> rfl
theorem Cash.tick {m m' : MkG} (hg : GoodM m) {z : Int} {names : List (Int × Int)} (hr : TickRes m z names m') : Cash m m' := by
  rcases hr with ⟨_, _, _, rfl⟩ | ⟨_, _, _, _, rfl⟩ | ⟨hl, ht, _, l, hord, rfl, _⟩
  · exact Cash.refl _
  · exact Cash.logs _ _
  · unfold tickM
    simp only
    rw [ghostI_none (hg.ok.logs hl callTick) hg.ghost]
    simp only [wantEnd]
    exact ((Cash.logs m callTick).trans (Cash.fold m.time l (m.logs callTick, []))).trans (Cash.end _ _)

theorem noteB_bids {b : BookG} {i : Int} {s : StepG} {z now : Int} (h : ¬ (z = 0 ∧ s.kind = 1)) : (noteB b i s z now).bids = b.bids := by
  unfold noteB
  rw [if_neg h]
  split
  · rfl
  · split <;> rfl
theorem ch_note {m m' : MkG} {b : BookG} (h : ChRel m b) {i : Int} {s : StepG} {z now : Int} (hn : ¬ (z = 0 ∧ s.kind = 1)) (hc : Cash m m') : ChRel m' (noteB b i s z now) := by
  unfold ChRel
  rw [noteB_bids hn, hc.chs]
  exact h

/-- every step but a Bill and a payment -/
theorem ch_same {m m' : MkG} {b : BookG} (h : ChRel m b) (hg : GoodM m) {s : StepG} {z : Int} {names : List (Int × Int)} {bills : List InvG} (hr : DoesRes m s z names bills m') (h6 : ¬ (s.kind = 6 ∧ z = 0)) (h7 : ¬ (s.kind = 7 ∧ z = 0)) (i : Int) :
    ChRel m' (noteB b i s z m.time) ∧ m'.charges = m.charges ∧ m'.paid = m.paid := by
  have of : Cash m m' → ¬ (z = 0 ∧ s.kind = 1) → ChRel m' (noteB b i s z m.time) ∧ m'.charges = m.charges ∧ m'.paid = m.paid := fun hc hn => ⟨ch_note h hn hc, hc.charges, hc.paid⟩
  rcases hr with ⟨e, hr, _⟩ | ⟨e, hr, _⟩ | ⟨e, hr, _⟩ | ⟨e, hr, _⟩ | ⟨e, hr, _⟩ | ⟨e, hr, _⟩ | ⟨e, hr, _⟩ | ⟨e, hz, rfl, _⟩
  · rcases hr with ⟨_, rfl, rfl⟩ | ⟨_, rfl, rfl⟩
    · exact of (Cash.refl _) (by omega)
    · by_cases hz : submitE m s.a s.b s.job = 0
      · unfold submitM
        simp only
        rw [if_pos hz]
        refine ⟨?_, rfl, rfl⟩
        unfold noteB
        rw [if_pos ⟨hz, e⟩]
        show (b.bids ++ [knownNew i m.time s]).map (·.charged) = (m.bids ++ [newBid m s.a s.b s.job]).map (·.charged)
        rw [List.map_append, List.map_append, show b.bids.map (·.charged) = m.bids.map (·.charged) from h]
        rfl
      · refine of ?_ (by omega)
        unfold submitM
        simp only
        rw [if_neg hz]
        exact Cash.logs _ _
  · rcases hr with ⟨_, _, rfl⟩ | ⟨_, _, rfl⟩
    · exact of (Cash.refl _) (by omega)
    · refine of ?_ (by omega)
      unfold cancelM
      simp only
      split
      · refine ⟨?_, rfl, rfl⟩
        show (setState m.bids (findZ m.bids s.a s.b).toNat 3).map (·.charged) = _
        unfold setState
        split
        · rename_i x hx
          exact ch_set hx rfl
        · rfl
      · exact Cash.logs _ _
  · rcases hr with ⟨_, _, rfl⟩ | ⟨_, _, rfl⟩
    · exact of (Cash.refl _) (by omega)
    · refine of ?_ (by omega)
      unfold suspendM
      simp only
      split <;> exact ⟨rfl, rfl, rfl⟩
  · rcases hr with ⟨_, _, rfl⟩ | ⟨_, ⟨_, _, rfl⟩ | ⟨_, _, _, rfl⟩ | ⟨_, _, _, rfl⟩⟩ <;> exact of ⟨rfl, rfl, rfl⟩ (by omega)
  · exact of (Cash.tick hg hr) (by omega)
  · rcases hr with ⟨_, _, _, rfl⟩ | ⟨_, hz, _⟩
    · exact of (Cash.refl _) (by omega)
    · exact absurd ⟨e, hz⟩ h6
  · rcases hr with ⟨_, _, rfl⟩ | ⟨_, hz, rfl⟩
    · exact of (Cash.refl _) (by omega)
    · refine of ?_ (by omega)
      unfold payM
      simp only
      rw [if_neg (by intro hp; exact h7 ⟨e, hz.trans hp⟩)]
      exact Cash.logs _ _
  · exact of (Cash.refl _) (by omega)
/-- a payment -/
theorem ch_pay {m m' : MkG} {b : BookG} (h : ChRel m b) {s : StepG} {z : Int} {names : List (Int × Int)} {bills : List InvG} (hr : DoesRes m s z names bills m') (h7 : s.kind = 7) (hz : z = 0) (i : Int) :
    ChRel m' (noteB b i s z m.time) ∧ m'.charges = m.charges ∧ m'.paid = m.paid.set s.a.toNat (m.paid.getD s.a.toNat 0 + s.b) ∧ (0 ≤ s.a ∧ s.a < m.c.ten) ∧ 1 ≤ s.b ∧ s.b ≤ 1073741824 := by
  rcases hr with ⟨e, _⟩ | ⟨e, _⟩ | ⟨e, _⟩ | ⟨e, _⟩ | ⟨e, _⟩ | ⟨e, _⟩ | ⟨e, hr, _⟩ | ⟨e, _⟩
  all_goals try (exfalso; omega)
  rcases hr with ⟨_, hz2, _⟩ | ⟨_, hz2, rfl⟩
  · omega
  · have hp : payE m s.a s.b = 0 := by omega
    unfold payM
    simp only
    rw [if_pos hp]
    refine ⟨?_, rfl, rfl, ?_⟩
    · unfold ChRel
      rw [noteB_bids (by omega)]
      exact h
    unfold payE at hp
    cases ht : m.tenB s.a
    · rw [if_pos ht] at hp; omega
    · rw [if_neg (by rw [ht]; simp)] at hp
      have h2 : ¬ (s.b < 1 ∨ 1073741824 < s.b) := by
        intro h2
        rw [if_pos h2] at hp
        omega
      unfold MkG.tenB at ht
      simp at ht
      exact ⟨by omega, by omega⟩

/-- those of l that due names are charged -/
def chMarkO (due : List InvG) (o : KnownG) : KnownG := if due.any (fun d => d.ten == o.ten && d.ref == o.ref) then { o with charged := true } else o
def chMark (l : List KnownG) (due : List InvG) : List KnownG := l.map (chMarkO due)
def chMarkB (b : BookG) (due : List InvG) : BookG := { b with bids := chMark b.bids due }
theorem chMarkO_nil (o : KnownG) : chMarkO [] o = o := rfl
theorem chMarkB_nil (b : BookG) : chMarkB b [] = b := by
  unfold chMarkB chMark
  have : b.bids.map (chMarkO []) = b.bids := by
    rw [show chMarkO [] = id from funext chMarkO_nil]
    simp
  rw [this]
theorem chMarkO_fields (due : List InvG) (o : KnownG) : (chMarkO due o).ten = o.ten ∧ (chMarkO due o).ref = o.ref ∧ (chMarkO due o).job = o.job ∧ (chMarkO due o).arrival = o.arrival ∧ (chMarkO due o).wasS = o.wasS ∧ (chMarkO due o).wasT = o.wasT := by
  unfold chMarkO
  split <;> exact ⟨rfl, rfl, rfl, rfl, rfl, rfl⟩
theorem chMark_get {l : List KnownG} {due : List InvG} {i : Nat} {o : KnownG} (h : l[i]? = some o) : (chMark l due)[i]? = some (chMarkO due o) := by
  rw [chMark, List.getElem?_map, h]
  rfl
theorem chMark_inv {l : List KnownG} {due : List InvG} {i : Nat} {o' : KnownG} (h : (chMark l due)[i]? = some o') : ∃ o, l[i]? = some o ∧ o' = chMarkO due o := by
  rw [chMark, List.getElem?_map] at h
  cases hl : l[i]? with
  | none => rw [hl] at h; simp at h
  | some o => rw [hl] at h; exact ⟨o, rfl, by simpa using h.symm⟩
theorem chMark_step {l : List KnownG} {due : List InvG} {k j : Nat} {d : InvG} {o : KnownG} (hd : due[k]? = some d) (ho : l[j]? = some o) (hn : d.ten = o.ten ∧ d.ref = o.ref) (hu : ∀ (i : Nat) (x : KnownG), l[i]? = some x → x.ten = o.ten → x.ref = o.ref → i = j) :
    chMark l (due.take (k + 1)) = (chMark l (due.take k)).set j { chMarkO (due.take k) o with charged := true } := by
  have hs : due.take (k + 1) = due.take k ++ [d] := take_snoc hd
  have hjl : j < (chMark l (due.take k)).length := by
    rw [chMark, List.length_map]
    exact (List.getElem?_eq_some_iff.1 ho).1
  apply List.ext_getElem?
  intro i
  rw [List.getElem?_set]
  by_cases e : j = i
  · subst e
    rw [if_pos rfl, if_pos hjl, chMark_get ho, hs]
    congr 1
    unfold chMarkO
    rw [if_pos (by simp [hn.1, hn.2])]
    split <;> rfl
  · rw [if_neg e]
    cases hl : l[i]? with
    | none => simp [chMark, hl]
    | some x =>
      rw [chMark_get hl, chMark_get hl, hs]
      congr 1
      unfold chMarkO
      have : ((due.take k ++ [d]).any fun d => d.ten == x.ten && d.ref == x.ref) = ((due.take k).any fun d => d.ten == x.ten && d.ref == x.ref) := by
        rw [List.any_append]
        have hf : ([d].any fun d => d.ten == x.ten && d.ref == x.ref) = false := by
          simp only [List.any_cons, List.any_nil, Bool.or_false]
          cases h1 : d.ten == x.ten
          · rfl
          · cases h2 : d.ref == x.ref
            · rfl
            · have h1' : d.ten = x.ten := by simpa using h1
              have h2' : d.ref = x.ref := by simpa using h2
              exact absurd (hu i x hl (by rw [← h1', hn.1]) (by rw [← h2', hn.2])).symm e
        rw [hf, Bool.or_false]
      rw [this]
theorem KeepP.mark {m : MkG} {b : BookG} (h : KeepP m b) (due : List InvG) : KeepP m (chMarkB b due) := by
  refine ⟨h.good, h.sound, h.rel.c, h.rel.susp, h.rel.units, by show (b.bids.map _).length = _; rw [List.length_map]; exact h.rel.len, fun i o' x ho hx => ?_, fun i o' x ho hx hs => ?_⟩
  · obtain ⟨o, ho', rfl⟩ := chMark_inv ho
    obtain ⟨f1, f2, f3, f4, f5, f6⟩ := chMarkO_fields due o
    rw [f1, f2, f3, f4]
    exact h.rel.bid i o x ho' hx
  · obtain ⟨o, ho', rfl⟩ := chMark_inv ho
    obtain ⟨f1, f2, f3, f4, f5, f6⟩ := chMarkO_fields due o
    rw [f5] at hs ⊢
    rw [f6]
    exact h.rel.was i o x ho' hx hs
/-- a Bill -/
theorem ch_bill {m m' : MkG} {b : BookG} (h : ChRel m b) (hp : KeepP m b) {s : StepG} {z : Int} {names : List (Int × Int)} {bills : List InvG} (hr : DoesRes m s z names bills m') (h6 : s.kind = 6) (hz : z = 0) (i : Int) :
    bills = dueL m m.bids ∧ noteB b i s z m.time = b ∧ ChRel m' (chMarkB b bills) ∧ m'.charges = m.charges ++ bills ∧ m'.paid = m.paid := by
  rcases hr with ⟨e, _⟩ | ⟨e, _⟩ | ⟨e, _⟩ | ⟨e, _⟩ | ⟨e, _⟩ | ⟨e, hr, _⟩ | ⟨e, hr, _⟩ | ⟨e, _⟩
  all_goals try (exfalso; omega)
  rcases hr with ⟨_, hz2, _⟩ | ⟨_, hz2, rfl, rfl⟩
  · omega
  · refine ⟨due_bill m, noteB_kind (by omega) (by omega) (by omega), ?_, rfl, rfl⟩
    rw [due_bill]
    show (chMark b.bids (dueL m m.bids)).map (·.charged) = (m.bids.map fun b => b.bill m.time).map (·.charged)
    apply List.ext_getElem?
    intro k
    rw [List.getElem?_map, List.getElem?_map, List.getElem?_map]
    cases hx : m.bids[k]? with
    | none =>
      have : b.bids[k]? = none := by
        rw [List.getElem?_eq_none_iff] at hx ⊢
        have := hp.rel.len
        omega
      simp [chMark, this]
    | some x =>
      obtain ⟨o, ho⟩ : ∃ o, b.bids[k]? = some o := ⟨_, List.getElem?_eq_getElem (by rw [hp.rel.len]; exact (List.getElem?_eq_some_iff.1 hx).1)⟩
      rw [chMark_get ho]
      simp only [Option.map_some]
      congr 1
      obtain ⟨r1, r2, _⟩ := hp.rel.bid k o x ho hx
      have hch := h.at ho hx
      have hany : ((dueL m m.bids).any fun d => d.ten == o.ten && d.ref == o.ref) = x.dueB m.time := by
        rw [Bool.eq_iff_iff, List.any_eq_true]
        constructor
        · rintro ⟨d, hd, hn⟩
          simp at hn
          unfold dueL at hd
          obtain ⟨y, hy, rfl⟩ := List.mem_map.1 hd
          obtain ⟨hy1, hy2⟩ := List.mem_filter.1 hy
          obtain ⟨j, hj⟩ := List.getElem?_of_mem hy1
          have := hp.sound.uniq j k y x hj hx (by rw [← r1]; exact hn.1) (by rw [← r2]; exact hn.2)
          subst this
          rw [hj] at hx
          obtain rfl := Option.some.inj hx
          exact hy2
        · intro hd
          refine ⟨invOf m x, List.mem_map.2 ⟨x, List.mem_filter.2 ⟨List.mem_of_getElem? hx, hd⟩, rfl⟩, ?_⟩
          simp [invOf, r1, r2]
      unfold chMarkO BidG.bill
      rw [hany]
      cases x.dueB m.time
      · simpa using hch
      · rfl
end Go.Proofs.Ytminceigjejipaa

/-
  yardkeep, Charged: what lies in memory between two steps.
-/
namespace Go.Proofs.Ytminceigjejipaa
open Go.RowKit

/-- a block that is neither the market's nor the book's -/
structure SideK (w0 : World) (F : Nat → Prop) (V : BV) (p : Nat) (wr : World) (k : Nat) : Prop where
  new : w0.heap.size ≤ k
  lt : k < wr.heap.size
  nf : ¬ F k
  nv : ¬ V.foot p k
/-- such blocks stay -/
def Kept (w0 : World) (p : Nat) (F : Nat → Prop) (V : BV) (wr : World) (F' : Nat → Prop) (V' : BV) (w2 : World) : Prop := ∀ k, SideK w0 F V p wr k → SideK w0 F' V' p w2 k ∧ w2.heap[k]? = wr.heap[k]?
section
variable {w0 wr w1 w2 : World} {p : Nat} {F F1 F' : Nat → Prop} {V V1 V' : BV}
theorem Kept.of {O : Nat → Prop} (hc : Chg O wr w2) (hO : ∀ k, O k → F k ∨ V.foot p k) (hF : ∀ k, F' k → F k ∨ wr.heap.size ≤ k) (hV : ∀ k, V'.foot p k → V.foot p k ∨ wr.heap.size ≤ k) : Kept w0 p F V wr F' V' w2 := fun k hk => by
  have hl := hk.lt
  refine ⟨⟨hk.new, Nat.lt_of_lt_of_le hk.lt hc.size, fun e => ?_, fun e => ?_⟩, hc.block k hk.lt (fun e => ?_)⟩
  · rcases hF k e with e | e
    · exact hk.nf e
    · omega
  · rcases hV k e with e | e
    · exact hk.nv e
    · omega
  · rcases hO k e with e | e
    · exact hk.nf e
    · exact hk.nv e
theorem Kept.chg0 (hc : Chg (fun _ => False) wr w2) : Kept w0 p F V wr F V w2 := Kept.of hc (fun _ e => e.elim) (fun _ e => .inl e) (fun _ e => .inl e)
theorem Kept.trans (h : Kept w0 p F V wr F1 V1 w1) (h' : Kept w0 p F1 V1 w1 F' V' w2) : Kept w0 p F V wr F' V' w2 := fun k hk => ⟨(h' k (h k hk).1).1, ((h' k (h k hk).1).2).trans (h k hk).2⟩
end
/-- a list of invoices in such a block -/
structure SideL (w0 : World) (F : Nat → Prop) (V : BV) (p : Nat) (wr : World) (lv : Value) (l : List InvG) : Prop where
  own : wr.ownsRow 0 88 3 lv l.length (l.flatMap invCells)
  side : ∀ k, lv.ownBlock = some k → SideK w0 F V p wr k
/-- a box in such a block -/
structure SideB (w0 : World) (F : Nat → Prop) (V : BV) (p : Nat) (wr : World) (Q : Nat) (cs : Array Value) (T : TypeId) : Prop where
  box : wr.heap[Q]? = some (.cells cs T (0, 0))
  side : SideK w0 F V p wr Q
section
variable {w0 wr w1 w2 : World} {p : Nat} {F F1 F' : Nat → Prop} {V V1 V' : BV} {lv : Value} {l : List InvG} {Q : Nat} {cs : Array Value} {T : TypeId}
theorem SideL.to (h : SideL w0 F V p wr lv l) (hk : Kept w0 p F V wr F' V' w2) : SideL w0 F' V' p w2 lv l := ⟨ownsRow_keep h.own (fun k e => (hk k (h.side k e)).2), fun k e => (hk k (h.side k e)).1⟩
theorem SideB.to (h : SideB w0 F V p wr Q cs T) (hk : Kept w0 p F V wr F' V' w2) : SideB w0 F' V' p w2 Q cs T := ⟨(hk Q h.side).2.trans h.box, (hk Q h.side).1⟩
theorem SideB.cell (h : SideB w0 F V p wr Q cs T) (f : Nat) : wr.cell? ⟨Q, f, none⟩ = cs[f]? := by
  unfold World.cell?
  rw [h.box]
  rfl
end

/-- between two steps: the market, the book, all charges, all payments -/
structure ChSt (YAt : World → Nat → (Nat → Prop) → MkG → Prop) (w0 : World) (y p : Nat) (wr : World) (m : MkG) (F : Nat → Prop) (V : BV) (b : BookG) (av : Value) (al : List InvG) (pg n : Nat) (ps : List Int) : Prop where
  keep : KeepM YAt w0 y p wr m F V b
  all : SideL w0 F V p wr av al
  paid : wr.ownsRow 0 3 1 (.slice (some ⟨pg, 0, none⟩) n n) n (ps.map (Value.int .i64))
  side : SideK w0 F V p wr pg
section
variable {YAt : World → Nat → (Nat → Prop) → MkG → Prop} {w0 wr w2 : World} {y p : Nat} {m m' : MkG} {F F' : Nat → Prop} {V V' : BV} {b b' : BookG} {av : Value} {al : List InvG} {pg n : Nat} {ps : List Int}
theorem KeepM.yto' (h : KeepM YAt w0 y p wr m F V b) (a1 : YAt w2 y F' m') (a2 : Chg F wr w2) (a3 : ∀ k, F' k → F k ∨ wr.heap.size ≤ k) : KeepM YAt w0 y p w2 m' F' V b := by
  have hs := h.chg.size
  refine ⟨a1, h.book.chg a2 (fun k hk e => h.apart k hk e), fun k hk e => ?_, fun k hk => ?_, h.newB, h.chg.trans a2 (fun x hx e => ?_)⟩
  · rcases a3 k e with e | e
    · exact h.apart k hk e
    · have := h.book.foot_lt k hk; omega
  · rcases a3 k hk with e | e
    · exact h.newF k e
    · omega
  · have := h.newF x e; omega
theorem ChSt.to (h : ChSt YAt w0 y p wr m F V b av al pg n ps) (hm : KeepM YAt w0 y p w2 m' F' V' b') (hk : Kept w0 p F V wr F' V' w2) : ChSt YAt w0 y p w2 m' F' V' b' av al pg n ps :=
  ⟨hm, h.all.to hk, ownsRow_keep h.paid (fun k e => by simp [Value.ownBlock] at e; subst e; exact (hk pg h.side).2), (hk pg h.side).1⟩
theorem ChSt.chg0 (hY : YardSpec YAt) (h : ChSt YAt w0 y p wr m F V b av al pg n ps) (hc : Chg (fun _ => False) wr w2) : ChSt YAt w0 y p w2 m F V b av al pg n ps := h.to (h.keep.chg0 hY hc) (Kept.chg0 hc)
theorem ChSt.yto' (h : ChSt YAt w0 y p wr m F V b av al pg n ps) (a1 : YAt w2 y F' m') (a2 : Chg F wr w2) (a3 : ∀ k, F' k → F k ∨ wr.heap.size ≤ k) : ChSt YAt w0 y p w2 m' F' V b av al pg n ps ∧ Kept w0 p F V wr F' V w2 := by
  have hk : Kept w0 p F V wr F' V w2 := Kept.of a2 (fun _ e => .inl e) a3 (fun _ e => .inl e)
  exact ⟨h.to (h.keep.yto' a1 a2 a3) hk, hk⟩
theorem ChSt.yto (h : ChSt YAt w0 y p wr m F V b av al pg n ps) (ht : YTo YAt wr y F m' w2) : ∃ F', ChSt YAt w0 y p w2 m' F' V b av al pg n ps ∧ Kept w0 p F V wr F' V w2 := by
  obtain ⟨F', a1, a2, a3⟩ := ht
  exact ⟨F', h.yto' a1 a2 a3⟩
theorem ChSt.note (hY : YardSpec YAt) (h : ChSt YAt w0 y p wr m F V b av al pg n ps) (ht : BookTo wr p V b' w2) : ∃ V', ChSt YAt w0 y p w2 m F V' b' av al pg n ps ∧ Kept w0 p F V wr F V' w2 := by
  obtain ⟨V', h1, h2, h3⟩ := KeepM.note hY h.keep ht
  have hk : Kept w0 p F V wr F V' w2 := Kept.of h2 (fun _ e => .inr e) (fun _ e => .inl e) h3
  exact ⟨V', h.to h1 hk, hk⟩
/-- a new block -/
theorem ChSt.newK (hY : YardSpec YAt) (h : ChSt YAt w0 y p wr m F V b av al pg n ps) {k : Nat} (hk : wr.heap.size ≤ k) (h2 : k < w2.heap.size) : SideK w0 F V p w2 k :=
  ⟨Nat.le_trans h.keep.chg.size hk, h2, fun e => by have := hY.lt _ _ _ _ h.keep.yard k e; omega, fun e => by have := h.keep.book.foot_lt k e; omega⟩
theorem ChSt.invs (hY : YardSpec YAt) (h : ChSt YAt w0 y p wr m F V b av al pg n ps) {l : List InvG} {lv : Value} (hi : InvSt wr l lv w2) : ChSt YAt w0 y p w2 m F V b av al pg n ps ∧ SideL w0 F V p w2 lv l :=
  ⟨h.chg0 hY hi.chg, hi.own, fun k hk => h.newK hY (hi.new k hk) (hi.own.lt k hk).2⟩
/-- the list of what is due -/
theorem ChSt.due (h : ChSt YAt w0 y p wr m F V b av al pg n ps) {l : List InvG} {lv : Value} (hd : DueSt YAt wr y F m F' l lv w2) : ChSt YAt w0 y p w2 m F' V b av al pg n ps ∧ Kept w0 p F V wr F' V w2 ∧ SideL w0 F' V p w2 lv l ∧ ∀ k, av.ownBlock = some k → lv.ownBlock ≠ some k := by
  obtain ⟨h2, hk⟩ := h.yto' hd.lk.yard hd.lk.chg hd.lk.foot
  refine ⟨h2, hk, ⟨hd.own, fun k e => ⟨Nat.le_trans h.keep.chg.size (hd.new k e).1, (hd.own.lt k e).2, (hd.new k e).2, fun e' => ?_⟩⟩, fun k e e' => ?_⟩
  · have := h.keep.book.foot_lt k e'
    have := (hd.new k e).1
    omega
  · have := (h.all.own.lt k e).2
    have := (hd.new k e').1
    omega
/-- a step -/
theorem ChSt.told (h : ChSt YAt w0 y p wr m F V b av al pg n ps) {names : List (Int × Int)} {bills : List InvG} {nv bv : Value} (ht : ToldAt YAt wr y F m' names bills nv bv F' w2) : ChSt YAt w0 y p w2 m' F' V b av al pg n ps ∧ Kept w0 p F V wr F' V w2 ∧ SideL w0 F' V p w2 bv bills := by
  obtain ⟨h2, hk⟩ := h.yto' ht.yard ht.chg ht.foot
  refine ⟨h2, hk, ht.bs, fun k e => ⟨Nat.le_trans h.keep.chg.size (ht.bn k e).1, (ht.bs.lt k e).2, (ht.bn k e).2, fun e' => ?_⟩⟩
  have := h.keep.book.foot_lt k e'
  have := (ht.bn k e).1
  omega
/-- a payment is written -/
theorem ChSt.pay (hY : YardSpec YAt) (h : ChSt YAt w0 y p wr m F V b av al pg n ps) {i : Nat} (hi : i < n) (u : Int) : ChSt YAt w0 y p (wr.setCell ⟨pg, i, none⟩ (.int .i64 u)) m F V b av al pg n (ps.set i u) := by
  have far : ∀ k, k ≠ pg → (wr.setCell ⟨pg, i, none⟩ (.int .i64 u)).heap[k]? = wr.heap[k]? := fun k hk => Below.heap_setCell _ _ _ _ hk
  have sz : (wr.setCell ⟨pg, i, none⟩ (.int .i64 u)).heap.size = wr.heap.size := by simp
  have hc : Chg (fun k => k = pg) wr (wr.setCell ⟨pg, i, none⟩ (.int .i64 u)) := (Chg.refl (fun k => k = pg) wr).setCell (p := ⟨pg, i, none⟩) (.inl rfl) _
  refine ⟨h.keep.fresh hY hc (fun k hk => by subst hk; exact ⟨h.side.new, h.side.nf, h.side.nv⟩), ⟨ownsRow_keep h.all.own (fun k hk => far k (fun e => ownsRow_apart h.all.own h.paid (by decide) hk (e ▸ rfl))), fun k hk => ?_⟩, ?_, ?_⟩
  · obtain ⟨s1, s2, s3, s4⟩ := h.all.side k hk
    exact ⟨s1, by rw [sz]; exact s2, s3, s4⟩
  · rw [List.map_set]
    exact ownsRow_set2 h.paid (by omega) rfl _
  · obtain ⟨s1, s2, s3, s4⟩ := h.side
    exact ⟨s1, by rw [sz]; exact s2, s3, s4⟩
theorem ChSt.paidCell (h : ChSt YAt w0 y p wr m F V b av al pg n ps) {i : Nat} (hi : i < ps.length) : wr.cell? ⟨pg, i, none⟩ = some (.int .i64 (ps.getD i 0)) ∧ wr.frozen? ⟨pg, i, none⟩ = false := by
  constructor
  · have := h.paid.cells (g := pg) rfl i (.int .i64 (ps.getD i 0)) (by simp [List.getD, List.getElem?_eq_getElem hi])
    rwa [Addr.add_lit, Nat.zero_add] at this
  · obtain ⟨cu, hc⟩ := ownsRow_block h.paid (k := pg) rfl
    unfold World.frozen?
    rw [hc]
    simp
/-- a bid is marked -/
theorem ChSt.mark (hY : YardSpec YAt) (h : ChSt YAt w0 y p wr m F V b av al pg n ps) {j g : Nat} {o : KnownG} (ho : b.bids[j]? = some o) (hg : V.bv.ownBlock = some g) : ChSt YAt w0 y p (wr.setCell ⟨g, j * 12 + 11, none⟩ (.bool true)) m F V { b with bids := b.bids.set j { o with charged := true } } av al pg n ps ∧ Kept w0 p F V wr F V (wr.setCell ⟨g, j * 12 + 11, none⟩ (.bool true)) := by
  have hc : Chg (V.foot p) wr (wr.setCell ⟨g, j * 12 + 11, none⟩ (.bool true)) := (Chg.refl (V.foot p) wr).setCell (p := ⟨g, j * 12 + 11, none⟩) (.inl (.inr (.inl hg))) _
  have hb := h.keep.book.setKnown (o' := { o with charged := true }) (r := 11) (u := .bool true) ho (by omega) hg rfl
  have hk : Kept w0 p F V wr F V (wr.setCell ⟨g, j * 12 + 11, none⟩ (.bool true)) := Kept.of hc (fun _ e => .inr e) (fun _ e => .inl e) (fun _ e => .inl e)
  have hs := h.keep.chg.size
  exact ⟨h.to ⟨hY.frame _ _ _ _ _ h.keep.yard (fun k hk => hc.block k (hY.lt _ _ _ _ h.keep.yard k hk) (fun e => h.keep.apart k e hk)), hb, h.keep.apart, h.keep.newF, h.keep.newB, h.keep.chg.trans hc (fun x hx e => by have := h.keep.newB x e; omega)⟩ hk, hk⟩
end
/-- the charges grow -/
theorem ch_grow {YAt : World → Nat → (Nat → Prop) → MkG → Prop} (hY : YardSpec YAt) {w0 wr w3 : World} {y p : Nat} {m : MkG} {F : Nat → Prop} {V : BV} {b : BookG} {al due : List InvG} {pg n : Nat} {ps : List Int} {ao : Option Addr} {cap cap' g H nn no : Nat}
    (h : ChSt YAt w0 y p wr m F V b (.slice ao nn cap) al pg n ps) (hn : nn = al.length) (hno : no = due.length)
    (hown : w3.ownsRow 0 88 3 (.slice (some ⟨g, 0, none⟩) (nn + no) cap') (nn + no) (al.flatMap invCells ++ due.flatMap invCells)) (hgrow : wr.grownBy w3 (Value.ownBlock (.slice ao nn cap))) (hat : Value.ownBlock (.slice ao nn cap) = some g ∨ g = H) (hH : wr.heap.size ≤ H) :
    ChSt YAt w0 y p w3 m F V b (.slice (some ⟨g, 0, none⟩) (nn + no) cap') (al ++ due) pg n ps ∧ ∀ k, SideK w0 F V p wr k → Value.ownBlock (.slice ao nn cap) ≠ some k → SideK w0 F V p w3 k ∧ w3.heap[k]? = wr.heap[k]? := by
  subst hn hno
  have hc : Chg (fun k => Value.ownBlock (.slice ao al.length cap) = some k) wr w3 := (Chg.refl _ _).grown hgrow (fun k hk => .inl hk)
  have hkeep : ∀ k, SideK w0 F V p wr k → Value.ownBlock (.slice ao al.length cap) ≠ some k → SideK w0 F V p w3 k ∧ w3.heap[k]? = wr.heap[k]? := fun k hk hne => ⟨⟨hk.new, Nat.lt_of_lt_of_le hk.lt hc.size, hk.nf, hk.nv⟩, hc.block k hk.lt hne⟩
  have hpn : Value.ownBlock (.slice ao al.length cap) ≠ some pg := fun e => ownsRow_apart h.all.own h.paid (by decide) e rfl
  refine ⟨⟨h.keep.fresh hY hc (fun k hk => ⟨(h.all.side k hk).new, (h.all.side k hk).nf, (h.all.side k hk).nv⟩), ⟨?_, fun k hk => ?_⟩, ownsRow_keep h.paid (fun k e => by simp [Value.ownBlock] at e; subst e; exact (hkeep pg h.side hpn).2), (hkeep pg h.side hpn).1⟩, hkeep⟩
  · rw [List.length_append, List.flatMap_append]
    exact hown
  · simp [Value.ownBlock] at hk
    subst hk
    have hl := (hown.lt g rfl).2
    rcases hat with e | e
    · obtain ⟨s1, s2, s3, s4⟩ := h.all.side g e
      exact ⟨s1, hl, s3, s4⟩
    · exact h.newK hY (by omega) hl
end Go.Proofs.Ytminceigjejipaa
