/-
  The walk of the model's WheelTake. By the verifier, by program.
-/
import Derived.Test.YtkocbfikcjgigaaGreatM6WhCopyS
import Derived.Test.YtkocbfikcjgigaaGreatWhInto
import Derived.Test.YtkocbfikcjgigaaGreatWhPo
import Derived.BigQuiet
import Derived.Deep.DeepCutAuto
namespace Go.Proofs.YtkocbfikcjgigaaGreat
open Go.RowKit

set_option maxHeartbeats 12800000 in
set_option maxRecDepth 100000 in
theorem specWheelTake (r : Wh) (v : Value) (w : World) (hB : r.big ≤ 1048576) (h : Hid (WhAt w v r)) :
    Calls Tryz.prog 18 #[v] w fun e w' => (∃ v', e = .returned (.tuple #[v', r.takeD.val, .bool r.takeB]) ∧ WhIn w.heap.size w'.heap.size w' v' r.take) ∧ Below w.heap.size w w' := by
  obtain ⟨a, c, rfl, k⟩ := h.out
  obtain ⟨hT, -, hin⟩ := Wh.small hB
  have A1 := fun w h => specWheelOk r a c w hB h
  have A2 := fun w h => specWhCopy r a c w hB h
  have Hb : Hid (r.takeB = (r.ok && decide (0 ≤ wat r.slots 8))) := rfl
  have Hi : Hid (r.takeD = if (r.ok && decide (0 ≤ wat r.slots 8)) = true then slHd r.slots (wat r.slots 8).toNat else ⟨0, 0⟩) := rfl
  have Hp : Hid (r.take = if r.ok = true then (if decide (0 ≤ wat r.slots 8) = true then ⟨r.step, wless r.slots (wat r.slots 8).toNat⟩ else r) else ⟨0, []⟩) := by
    show r.take = _
    unfold Wh.take Wh.less Wh.first
    simp only [decide_eq_true_eq]
  have Hok : Hid (r.ok = true → r.slots.length = 8) := fun g => (Wh.ok_iff.1 g).1.2
  have Hin : Hid (∀ k, k < r.slots.length → (dzAt r.slots k).length ≤ 1048576) := hin
  generalize r.takeB = pb at Hb ⊢
  generalize r.takeD = pi at Hi ⊢
  generalize r.take = pr at Hp ⊢
  generalize r.ok = ok at A1 Hb Hi Hp Hok
  obtain ⟨f, ls⟩ := r
  simp only [Wh.val] at A1 A2 Hi Hp Hb Hin Hok k hT ⊢
  obtain ⟨n, hn⟩ : ∃ n, ls.length = n := ⟨_, rfl⟩
  rw [hn] at A1 A2 Hin Hok hT ⊢
  have Hn : Hid (ls.length = n) := hn
  have A1' : Hid _ := A1
  have A2' : Hid _ := A2
  have K : Hid (DzAt w a ls) := k
  clear A1 A2 h k hB hin hn
  obtain ⟨W, hW⟩ : ∃ W, W = ((w.alloc (.cells #[.int .i64 f, .slice a n c] 29)).alloc (.cells #[.int .i64 0, .slice none 0 0] 29)).alloc (.cells #[.int .i64 0, .int .i64 0] 33) := ⟨_, rfl⟩
  have X : Hid (DzAt W a ls ∧ Boxed W w.heap.size #[.int .i64 f, .slice a n c] 29 ∧ Boxed W (w.heap.size + 1) #[.int .i64 0, .slice none 0 0] 29 ∧ Boxed W (w.heap.size + 1 + 1) #[.int .i64 0, .int .i64 0] 33 ∧ Below w.heap.size w W) := by
    rw [hW]
    refine ⟨((K.out.alloc _).alloc _).alloc _, ((Boxed.new w _ _).more _).more _, ?_, ?_, (((Below.refl _ _).alloc (Nat.le_refl _) _).alloc (by simp) _).alloc (by simp; omega) _⟩
    · have := (Boxed.new (w.alloc (.cells #[.int .i64 f, .slice a n c] 29)) #[.int .i64 0, .slice none 0 0] 29).more (.cells #[.int .i64 0, .int .i64 0] 33)
      simpa using this
    · have := Boxed.new ((w.alloc (.cells #[.int .i64 f, .slice a n c] 29)).alloc (.cells #[.int .i64 0, .slice none 0 0] 29)) #[.int .i64 0, .int .i64 0] 33
      simpa using this
  have HW : Hid (W = _) := hW
  clear hW
  go_enter Tryz.func18, Tryz.ntmps18
  go_wp2_with fail
  rw [← HW.out]
  refine (A1'.out _ X.out.1).mono ?_
  rintro e w1 ⟨rfl, q⟩
  have X1 : Hid (DzAt w1 a ls ∧ Boxed w1 w.heap.size #[.int .i64 f, .slice a n c] 29 ∧ Boxed w1 (w.heap.size + 1) #[.int .i64 0, .slice none 0 0] 29 ∧ Boxed w1 (w.heap.size + 1 + 1) #[.int .i64 0, .int .i64 0] 33 ∧ Below w.heap.size w w1) :=
    ⟨X.out.1.below q, X.out.2.1.below X.out.2.1.under q, X.out.2.2.1.below X.out.2.2.1.under q, X.out.2.2.2.1.below X.out.2.2.2.1.under q, X.out.2.2.2.2.trans (q.mono X.out.2.2.2.2.size)⟩
  clear q X A1' HW
  cases ok
  · have e1 : pb = false := by rw [Hb.out]; rfl
    have e2 : pr = ⟨0, []⟩ := by rw [Hp.out]; rfl
    have e3 : pi = ⟨0, 0⟩ := by rw [Hi.out]; rfl
    subst e1
    subst e2
    subst e3
    have r2 : Boxed (w1.setRow (w.heap.size + 1) #[.int .i64 0, .slice none 0 0]) (w.heap.size + 1 + 1) #[.int .i64 0, .int .i64 0] 33 := (setRow_other _ _ _ _ (by omega)).trans X1.out.2.2.2.1
    go_wp2_with (first | (refine wpList_store_row rfl 29 (.tmp 2) (.tmp 11) rfl (w.heap.size + 1) #[.int .i64 0, .slice none 0 0] rfl rfl _ _ X1.out.2.2.1 (by kernel_rfl) rfl (by simp [Value.oneCell']) ?_) | (refine wpList_store_row rfl 33 (.tmp 3) (.tmp 12) rfl (w.heap.size + 1 + 1) #[.int .i64 0, .int .i64 0] rfl rfl _ _ r2 (by kernel_rfl) rfl (by simp [Value.oneCell']) ?_))
    refine bodyPost_ret (results_two_tmp Tryz.results18 _ _ (w.heap.size + 1) (w.heap.size + 1 + 1) _ _ #[.int .i64 0, .slice none 0 0] #[.int .i64 0, .int .i64 0] _ _ _ _ (.bool false) rfl rfl rfl ((setRow_other _ _ _ _ (by omega)).trans (setRow_heap w1 (w.heap.size + 1) _ _ _ _ X1.out.2.2.1)) (setRow_heap _ (w.heap.size + 1 + 1) _ _ _ _ r2) Tryz.underlying29 rfl (by kernel_rfl) Tryz.underlying33 rfl (by kernel_rfl)) rfl ⟨⟨_, rfl, none, 0, rfl, dzIn_nil _ _ _⟩, below_setRow (below_setRow X1.out.2.2.2.2 (by omega) _) (by omega) _⟩
  have c0 : w1.cell? ⟨w.heap.size, 0, none⟩ = some (.int .i64 f) := X1.out.2.1.cell 0 rfl
  have c1 : w1.cell? ⟨w.heap.size, 1, none⟩ = some (.slice a n c) := X1.out.2.1.cell 1 rfl
  go_wp2_with fail
  refine (A2'.out _ X1.out.1).mono ?_
  rintro e w2 ⟨⟨v2, vs, rfl, g2⟩, q⟩
  obtain ⟨vx, vc, ev⟩ := rows_shape g2.outer
  rw [Hn.out] at ev
  subst ev
  have X2 : Hid (PoW w f a n c w2.heap.size (w1.heap.size + 3) vx vc vs ls (w2.alloc (.cells #[.int .i64 f, .slice vx n vc] 29))) := by
    have s1 := X1.out.2.2.2.1.under
    have s2 := q.size
    refine ⟨(X1.out.2.1.below X1.out.2.1.under q).more _, (X1.out.2.2.1.below X1.out.2.2.1.under q).more _, (X1.out.2.2.2.1.below X1.out.2.2.2.1.under q).more _, Boxed.new _ _ _, g2.below ((Below.refl _ _).alloc (Nat.le_refl _) _), ?_, by omega, by omega⟩
    have b := X1.out.2.2.2.2.trans (q.mono X1.out.2.2.2.2.size)
    exact b.alloc b.size _
  clear q g2 X1 c0 c1 A2'
  go_upto_region 4 with fail
  generalize w2.alloc (.cells #[.int .i64 f, .slice vx n vc] 29) = w3 at X2 ⊢
  generalize w2.heap.size = B at X2 ⊢
  generalize w1.heap.size + 3 = G at X2
  have e8 : n = 8 := Hok.out (by first | exact trivial | exact rfl)
  subst e8
  clear Hok
  obtain ⟨b, off, -, -, ha, -⟩ := K.out 0 (by rw [Hn.out]; omega)
  subst ha
  go_wp2_with fail
  go_loopw [6, 7] (fun s i wr => ∃ k : Nat, k ≤ 8 ∧ i = .int .i64 k ∧ s = .int .i64 (wat ls k) ∧ Hid (PoW w f (some ⟨b, off, none⟩) 8 c B G vx vc vs ls wr)) (fun _ i _ => 8 - (intOf i).toNat)
  case atStart => exact ⟨0, Nat.zero_le _, rfl, rfl, X2.out⟩
  case round =>
    obtain ⟨k, hk, rfl, rfl, HK⟩ := hrel
    clear X2
    by_cases hlt : k < 8
    · have hlt' : (k : Int) < 8 := by omega
      have hkl : k < ls.length := by rw [Hn.out]; exact hlt
      have wn : Hid (wat ls (k + 1) = if slHas ls k = true ∧ (wat ls k < 0 ∨ (slHd ls k).lt (slHd ls (wat ls k).toNat)) then (k : Int) else wat ls k) := rfl
      have wi := wat_is ls k
      obtain ⟨bb, hbb⟩ : ∃ bb, decide (slHas ls k = true ∧ (wat ls k < 0 ∨ (slHd ls k).lt (slHd ls (wat ls k).toNat))) = bb := ⟨_, rfl⟩
      have Hbb : Hid (decide (slHas ls k = true ∧ (wat ls k < 0 ∨ (slHd ls k).lt (slHd ls (wat ls k).toNat))) = bb) := hbb
      have Wi : Hid _ := wi
      clear hbb wi
      obtain ⟨at', hat⟩ : ∃ at', wat ls k = at' := ⟨_, rfl⟩
      rw [hat] at wn Hbb Wi ⊢
      clear hat
      go_upto_region 8 with fail
      go_cut [46] from 15 to 47 (fun s wc => Hid (s = .bool bb ∧ PoW w f (some ⟨b, off, none⟩) 8 c B G vx vc vs ls wc))
      case first =>
        have Go : Hid (∀ wq, Below wr.heap.size wr wq → PoW w f (some ⟨b, off, none⟩) 8 c B G vx vc vs ls wq) := fun wq q => HK.out.below q
        haveI : Nonempty (BelW wr.heap.size wr) := ⟨⟨wr, Below.refl _ _⟩⟩
        have c1 : ∀ p : BelW wr.heap.size wr, p.w'.cell? ⟨w.heap.size, 1, none⟩ = some (.slice (some ⟨b, off, none⟩) 8 c) := fun p => (Go.out _ p.h).box.cell 1 rfl
        have At : Hid (∀ p : BelW wr.heap.size wr, DzAt p.w' (some ⟨b, off, none⟩) ls) := fun p => K.out.below (Go.out _ p.h).bel
        have LK : ∀ i, i < 8 → ∃ ai ci, (∀ p : BelW wr.heap.size wr, p.w'.cell? ⟨b, off + i, none⟩ = some (.slice ai (dzAt ls i).length ci) ∧ DusAt p.w' ai (dzAt ls i)) := fun i hi => by
          obtain ⟨b', off', ai, ci, e, hb, hc, hr, -, -⟩ := (K.out.below HK.out.bel) i (by rw [Hn.out]; exact hi)
          cases e
          exact ⟨ai, ci, fun p => ⟨by rw [p.h.cell (p := ⟨b, off + i, none⟩) hb]; exact hc, hr.below p.h⟩⟩
        obtain ⟨ak, ck, Lk⟩ := LK k hlt
        have k0 : ∀ p : BelW wr.heap.size wr, p.w'.cell? ⟨b, off + k, none⟩ = some (.slice ak (dzAt ls k).length ck) := fun p => (Lk p).1
        have hsk : slHas ls k = decide (0 < (dzAt ls k).length) := rfl
        by_cases hz : (dzAt ls k).length = 0
        · have eb : bb = false := by rw [← Hbb.out, hsk]; simp [hz]
          subst eb
          rw [hz] at k0
          have A3' : Hid (∀ w, Calls Tryz.prog 47 #[.agg #[.int .i64 0, .int .i64 0], .agg #[.int .i64 0, .int .i64 0]] w fun e w' => e = .returned (.bool (decide ((⟨0, 0⟩ : Du).lt ⟨0, 0⟩))) ∧ Below w.heap.size w w') := fun w => specBefore ⟨0, 0⟩ ⟨0, 0⟩ w
          clear Lk LK hsk hz
          refine region_below wr.heap.size (by kernel_rfl) (by kernel_rfl) ?_
          repeat (go_big_quiet_step ((go_at_call 47; with_reducible refine quiet_below (Nat.le_refl _) (A3'.out _))))
          refine wpQuiet_nil ?_
          intro wq hx
          have GQ : Hid (PoW w f (some ⟨b, off, none⟩) 8 c B G vx vc vs ls wq) := Go.out _ (BelW.out hx)
          clear hx
          go_wp2_with fail
          go_meet
          exact ⟨rfl, GQ.out⟩
        have hsk' : slHas ls k = true := by rw [hsk]; exact decide_eq_true (by omega)
        have hlp : 0 < (dzAt ls k).length := by omega
        obtain ⟨bk, ok', eak, -, -⟩ := (Lk ⟨wr, Below.refl _ _⟩).2 0 hlp
        subst eak
        have k1 : ∀ p : BelW wr.heap.size wr, p.w'.cell? ⟨bk, ok', none⟩ = some (.int .i64 (slHd ls k).time) := fun p => by have := ((Lk p).2.cells hlp).1; rwa [Nat.zero_mul, Nat.add_zero] at this
        have k2 : ∀ p : BelW wr.heap.size wr, p.w'.cell? ⟨bk, ok' + 1, none⟩ = some (.int .i64 (slHd ls k).id) := fun p => by have := ((Lk p).2.cells hlp).2; rwa [Nat.zero_mul, Nat.add_zero] at this
        have hlp' : (0 : Int) < ((dzAt ls k).length : Int) := by omega
        rcases Wi.out with ⟨ea, -⟩ | ⟨j, ea, hjk, hjs, -⟩
        · have eb : bb = true := by rw [← Hbb.out]; simp [hsk', ea]
          subst eb
          subst ea
          have A3' : Hid (∀ w, Calls Tryz.prog 47 #[.agg #[.int .i64 0, .int .i64 0], .agg #[.int .i64 0, .int .i64 0]] w fun e w' => e = .returned (.bool (decide ((⟨0, 0⟩ : Du).lt ⟨0, 0⟩))) ∧ Below w.heap.size w w') := fun w => specBefore ⟨0, 0⟩ ⟨0, 0⟩ w
          clear Lk LK hsk hz hsk' Hbb wn Wi
          generalize (dzAt ls k).length = mk at k0 hlp hlp'
          refine region_below wr.heap.size (by kernel_rfl) (by kernel_rfl) ?_
          repeat (go_big_quiet_step ((go_at_call 47; with_reducible refine quiet_below (Nat.le_refl _) (A3'.out _))))
          refine wpQuiet_nil ?_
          intro wq hx
          have GQ : Hid (PoW w f (some ⟨b, off, none⟩) 8 c B G vx vc vs ls wq) := Go.out _ (BelW.out hx)
          clear hx
          go_wp2_with fail
          go_meet
          exact ⟨rfl, GQ.out⟩
        · have hj8 : j < 8 := by omega
          have hj8' : (j : Int) < 8 := by omega
          have hj0 : ¬ (j : Int) < 0 := by omega
          obtain ⟨aj, cj, Lj⟩ := LK j hj8
          have hjp : 0 < (dzAt ls j).length := of_decide_eq_true hjs
          obtain ⟨bj, oj, eaj, -, -⟩ := (Lj ⟨wr, Below.refl _ _⟩).2 0 hjp
          subst eaj
          have j0 : ∀ p : BelW wr.heap.size wr, p.w'.cell? ⟨b, off + j, none⟩ = some (.slice (some ⟨bj, oj, none⟩) (dzAt ls j).length cj) := fun p => (Lj p).1
          have j1 : ∀ p : BelW wr.heap.size wr, p.w'.cell? ⟨bj, oj, none⟩ = some (.int .i64 (slHd ls j).time) := fun p => by have := ((Lj p).2.cells hjp).1; rwa [Nat.zero_mul, Nat.add_zero] at this
          have j2 : ∀ p : BelW wr.heap.size wr, p.w'.cell? ⟨bj, oj + 1, none⟩ = some (.int .i64 (slHd ls j).id) := fun p => by have := ((Lj p).2.cells hjp).2; rwa [Nat.zero_mul, Nat.add_zero] at this
          have hjp' : (0 : Int) < ((dzAt ls j).length : Int) := by omega
          have eb : decide ((slHd ls k).lt (slHd ls j)) = bb := by
            rw [← Hbb.out, ea]
            exact decide_eq_decide.2 ⟨fun q => ⟨hsk', .inr (by simpa using q)⟩, fun q => by
              rcases q.2 with q | q
              · exact absurd q hj0
              · simpa using q⟩
          subst ea
          have A3 := fun w => specBefore (slHd ls k) (slHd ls j) w
          rw [eb] at A3
          clear Lk LK Lj hsk hz hsk' Hbb wn Wi eb hjs
          generalize (dzAt ls k).length = mk at k0 hlp hlp'
          generalize (dzAt ls j).length = mj at j0 hjp hjp'
          generalize slHd ls k = x at k1 k2 A3
          generalize slHd ls j = y at j1 j2 A3
          obtain ⟨x0, x1⟩ := x
          obtain ⟨y0, y1⟩ := y
          simp only [Du.val] at k1 k2 j1 j2 A3
          have A3' : Hid _ := A3
          clear A3
          refine region_below wr.heap.size (by kernel_rfl) (by kernel_rfl) ?_
          repeat (go_big_quiet_step ((go_at_call 47; with_reducible refine quiet_below (Nat.le_refl _) (A3'.out _))))
          refine wpQuiet_nil ?_
          intro wq hx
          have GQ : Hid (PoW w f (some ⟨b, off, none⟩) 8 c B G vx vc vs ls wq) := Go.out _ (BelW.out hx)
          clear hx
          go_wp2_with fail
          go_meet
          exact ⟨rfl, GQ.out⟩
      case rest =>
      obtain ⟨rfl, hP⟩ := hcut.out
      have H4 : Hid (PoW w f (some ⟨b, off, none⟩) 8 c B G vx vc vs ls wc) := hP
      clear hcut hP
      cases bb
      · have ew : wat ls (k + 1) = at' := by rw [wn.out, if_neg (of_decide_eq_false Hbb.out)]
        go_wp2
        go_roundw
        case rel => exact ⟨k + 1, by omega, by go_num, by rw [ew], H4⟩
        case measure => simp [intOf]; omega
      · have ew : wat ls (k + 1) = (k : Int) := by rw [wn.out, if_pos (of_decide_eq_true Hbb.out)]
        go_wp2
        go_roundw
        case rel => exact ⟨k + 1, by omega, by go_num, by rw [ew], H4⟩
        case measure => simp [intOf]; omega
    have hk8 : k = 8 := by omega
    have hnl : ¬ (k : Int) < 8 := by omega
    have Wk : wat ls k = wat ls 8 := by rw [hk8]
    rw [Wk]
    clear Wk hk8 hlt
    go_upto_region 10 with fail
    obtain ⟨w3, rfl⟩ : ∃ w3, w3 = wr := ⟨_, rfl⟩
    have X2 := HK
    clear HK
    have wi := wat_is ls 8
    have Wi : Hid _ := wi
    clear wi
    obtain ⟨row, hrow⟩ : ∃ row, wat ls 8 = row := ⟨_, rfl⟩
    rw [hrow] at Hb Hi Hp Wi ⊢
    clear hrow
    have K3 : Hid (DzAt w3 (some ⟨b, off, none⟩) ls) := K.out.below X2.out.bel
    have e1 : pb = decide (0 ≤ row) := by rw [Hb.out]; rfl
    rcases Wi.out with ⟨er, -⟩ | ⟨j, er, hjn, hjs, -⟩
    · subst er
      have e1' : pb = false := by rw [e1]; rfl
      clear e1
      subst e1'
      have e2 : pr = ⟨f, ls⟩ := by rw [Hp.out]; rfl
      have e3 : pi = ⟨0, 0⟩ := by rw [Hi.out]; rfl
      subst e2
      subst e3
      clear Wi Hb Hi Hp
      go_upto_region 11 with fail
      have r2 : Boxed (w3.setRow (w.heap.size + 1) #[.int .i64 f, .slice vx 8 vc]) (w.heap.size + 1 + 1) #[.int .i64 0, .int .i64 0] 33 := (setRow_other _ _ _ _ (by omega)).trans X2.out.item
      have D := X2.out.done Hn.out (wz := (w3.setRow (w.heap.size + 1) #[.int .i64 f, .slice vx 8 vc]).setRow (w.heap.size + 1 + 1) #[.int .i64 0, .int .i64 0]) (fun k h1 h2 => two_rows k h1 h2) (below_setRow (below_setRow (Below.refl _ _) (by omega) _) (by omega) _)
      go_wp2_with (first | (refine wpList_load_row rfl 29 (.tmp 5) rfl B rfl _ _ _ _ X2.out.out Tryz.underlying29 rfl (by kernel_rfl) ?_) | (refine wpList_store_row rfl 29 (.tmp 2) (.tmp 50) rfl (w.heap.size + 1) _ rfl rfl _ _ X2.out.res (by kernel_rfl) rfl (by simp [Value.oneCell']) ?_) | (refine wpList_store_row rfl 33 (.tmp 3) (.tmp 51) rfl (w.heap.size + 1 + 1) #[.int .i64 0, .int .i64 0] rfl rfl _ _ r2 (by kernel_rfl) rfl (by simp [Value.oneCell']) ?_))
      refine bodyPost_ret (results_two_tmp Tryz.results18 _ _ (w.heap.size + 1) (w.heap.size + 1 + 1) _ _ #[.int .i64 f, .slice vx 8 vc] #[.int .i64 0, .int .i64 0] _ _ _ _ (.bool false) rfl rfl rfl ((setRow_other _ _ _ _ (by omega)).trans (setRow_heap w3 (w.heap.size + 1) _ _ _ _ X2.out.res)) (setRow_heap _ (w.heap.size + 1 + 1) _ _ _ _ r2) Tryz.underlying29 rfl (by kernel_rfl) Tryz.underlying33 rfl (by kernel_rfl)) rfl ⟨⟨_, rfl, D.1⟩, D.2⟩
    · subst er
      have hj2 : (j : Int).toNat = j := by simp
      rw [hj2] at Hi Hp
      have hjl : j < ls.length := by rw [Hn.out]; exact hjn
      have h0' : ¬ (j : Int) < 0 := by omega
      have hj8' : (j : Int) < 8 := by omega
      have ed : decide ((0 : Int) ≤ (j : Int)) = true := decide_eq_true (by omega)
      rw [ed] at Hi Hp e1
      subst e1
      have e2 : pr = ⟨f, ls.set j ((dzAt ls j).drop 1)⟩ := by rw [Hp.out]; rfl
      have e3 : pi = slHd ls j := by rw [Hi.out]; rfl
      have hz : ¬ (dzAt ls j).length = 0 := by have := of_decide_eq_true hjs; omega
      subst e2
      subst e3
      clear Hp Hi Hb hj2 ed hjs Wi
      have c1 : w3.cell? ⟨w.heap.size, 1, none⟩ = some (.slice (some ⟨b, off, none⟩) 8 c) := X2.out.box.cell 1 rfl
      obtain ⟨g, eg⟩ : ∃ g, vx = some ⟨g, 0, none⟩ := by
        rcases X2.out.g.outer.2 with ⟨e, e0⟩ | ⟨g, cap, cur, e, _⟩
        · rw [Hn.out] at e0; omega
        · injection e with e1; exact ⟨g, e1⟩
      subst eg
      have hin := Hin.out j hjn
      have hg1 := World.ownsRow.lt X2.out.g.outer g rfl
      have hlo := X2.out.lo
      have hhi := X2.out.hi
      have hBs := X2.out.out.under
      have hout : w3.ownsRow G 24 1 (.slice (some ⟨g, 0, none⟩) 8 vc) 8 vs := by
        have h1 := X2.out.g.outer
        rw [Hn.out] at h1
        exact h1
      have hcell : w3.cell? ⟨g, j, none⟩ = some (dzV vs j) := by
        have hl := X2.out.g.len
        rw [hout.cellAt j (by omega)]
        unfold dzV
        rw [List.getElem?_eq_getElem (by omega)]
        rfl
      have hice := hout.frozenAt j
      have hgB : g ≠ B := by
        intro e
        subst e
        have h1 := X2.out.out
        rcases X2.out.g.outer.2 with ⟨e, _⟩ | ⟨g', cap, cur, e, _, hg', _⟩
        · cases e
        · injection e with e1
          cases e1
          unfold Boxed at h1
          rw [h1] at hg'
          simp only [Option.some.injEq, Obj.cells.injEq] at hg'
          exact absurd hg'.2.1 (by decide)
      have Set : Hid (∀ u w2, DuRow w3.heap.size w2 u ((dzAt ls j).drop 1) → Below w3.heap.size w3 w2 → PoW w f (some ⟨b, off, none⟩) 8 c B G (some ⟨g, 0, none⟩) vc (vs.set j u) (ls.set j ((dzAt ls j).drop 1)) (w2.setCell ⟨g, j, none⟩ u)) := fun u w2 q1 q2 => by
        have oth : ∀ y, y ≠ g → y < w3.heap.size → (w2.setCell ⟨g, j, none⟩ u).heap[y]? = w3.heap[y]? := fun y hy hl => (Below.heap_setCell _ _ _ _ hy).trans (q2.block y hl)
        have bel : Below w.heap.size w (w2.setCell ⟨g, j, none⟩ u) := (X2.out.bel.trans (q2.mono (by omega))).setCell (by show w.heap.size ≤ g; omega) _
        refine ⟨(oth _ (by omega) (by omega)).trans X2.out.box, (oth _ (by omega) (by omega)).trans X2.out.res, (oth _ (by omega) (by omega)).trans X2.out.item, (oth _ (fun e => hgB e.symm) hBs).trans X2.out.out, ?_, bel, hlo, hhi⟩
        exact X2.out.g.set hjl (q1.mono (by omega)) (fun k _ hk => q2.block k hk) (fun k hk => .inr (q1.lt k hk).1) (g := g) (cap := vc) (by rw [Hn.out])
      obtain ⟨b', off', ak, ck, ha, hb, hc, hr, hcap, hnil⟩ := K3.out j hjl
      cases ha
      obtain ⟨b2, off2, eak, -, -⟩ := hr 0 (by omega)
      subst eak
      obtain ⟨l, hl⟩ : ∃ l, dzAt ls j = l := ⟨_, rfl⟩
      rw [hl] at hin Set hc hr hcap hz
      have Hl : Hid (dzAt ls j = l) := hl
      have hT := hr.drop 1
      have HT : Hid (DusAt w3 (some ⟨b2, off2 + 2, none⟩) (l.drop 1)) := hT
      obtain ⟨e0, e1⟩ := hr.cells (k := 0) (by omega)
      have E0 : Hid (∀ w2, Below w3.heap.size w3 w2 → DusAt w2 (some ⟨b2, off2, none⟩) l ∧ w2.cell? ⟨b, off + j, none⟩ = some (.slice (some ⟨b2, off2, none⟩) l.length ck)) := fun w2 q => ⟨hr.below q, by rw [q.cell (p := ⟨b, off + j, none⟩) hb]; exact hc⟩
      obtain ⟨m, hml⟩ : ∃ m, l.length = m + 1 := ⟨l.length - 1, by omega⟩
      have Hm1 : Hid (l.length = m + 1) := hml
      have Hml : Hid ((l.drop 1).length = m) := by show (l.drop 1).length = m; rw [List.length_drop, hml]; rfl
      rw [hml] at hc hin hcap
      have hcl : w3.cell? ⟨B, 1, none⟩ = some (.slice (some ⟨g, 0, none⟩) 8 vc) := X2.out.out.cell 1 rfl
      have hgl : g < w3.heap.size := hg1.2
      have hsl : w.heap.size < w3.heap.size := by omega
      have Hcell : Hid _ := hcell
      clear hl hr hT hnil hg1 hlo hhi hz hml hout e0 e1
      go_wp2_with fail
      go_cut [] (fun wz => Hid (∃ u, PoW w f (some ⟨b, off, none⟩) 8 c B G (some ⟨g, 0, none⟩) vc (vs.set j u) (ls.set j (l.drop 1)) wz))
      case first =>
        have hm1 : (1 : Int) ≤ (m : Int) + 1 := by omega
        have hm2 : (0 : Int) ≤ (m : Int) := by omega
        by_cases hck : ck = 1
        · subst hck
          obtain rfl : m = 0 := by omega
          have HT0 : Hid (DusAt w3 (some ⟨b2, off2, none⟩) (l.drop 1)) := by
            show DusAt _ _ _
            rw [List.eq_nil_of_length_eq_zero Hml.out]
            exact DusAt.nil _ _
          go_region_law (refine du_step_app rfl (.tmp 55) (.tmp 61) rfl w3.heap.size (.slice (some ⟨w3.heap.size, 0, none⟩) 0 0) [] (some ⟨b2, off2, none⟩) 0 0 (l.drop 1) Hml.out rfl rfl (du_built _ _ (Nat.le_refl _)) (HT0.out.alloc _) (fun h => by cases h) (by rw [Hml.out]; simp) (by simp) ?_; intro u w2 q1 q2 q3 q4; have q5 : DuRow w3.heap.size w2 u (l.drop 1) := (by simpa using q1); obtain ⟨uy, ud, eu⟩ := q5.shape; rw [Hml.out] at eu; subst eu; have q6 : Below w3.heap.size w3 w2 := ((Below.refl _ w3).drew.alloc (Nat.le_refl _) _).trans q2; have R : Hid _ := Set.out _ w2 q5 q6; have f1 : ∃ y, w2.cell? ⟨g, j, none⟩ = some y := ⟨_, by rw [q6.cell (p := ⟨g, j, none⟩) hgl]; exact Hcell.out⟩; obtain ⟨y1, f1⟩ := f1; have f2 : w2.cell? ⟨B, 1, none⟩ = some (.slice (some ⟨g, 0, none⟩) 8 vc) := (by rw [q6.cell (p := ⟨B, 1, none⟩) hBs]; exact hcl); have f3 : w2.frozen? ⟨g, j, none⟩ = false := (by rw [ice_kept (q6.block g hgl)]; exact hice); have l2 : B < w2.heap.size := Nat.lt_of_lt_of_le hBs q6.size; have l3 : g < w2.heap.size := Nat.lt_of_lt_of_le hgl q6.size; clear q1 q2 q3 q4 q5 q6)
          all_goals (go_wp2_with fail; go_meet; exact ⟨_, R.out⟩)
        · have hck' : (ck = 1) = False := by simp [hck]
          go_region_law (refine du_step_app rfl (.tmp 55) (.tmp 61) rfl w3.heap.size (.slice (some ⟨w3.heap.size, 0, none⟩) 0 0) [] (some ⟨b2, off2 + 2, none⟩) m (ck - 1) (l.drop 1) Hml.out rfl rfl (du_built _ _ (Nat.le_refl _)) (HT.out.alloc _) (fun h => by cases h) (by rw [Hml.out]; simp; omega) (by simp) ?_; intro u w2 q1 q2 q3 q4; have q5 : DuRow w3.heap.size w2 u (l.drop 1) := (by simpa using q1); obtain ⟨uy, ud, eu⟩ := q5.shape; rw [Hml.out] at eu; subst eu; have q6 : Below w3.heap.size w3 w2 := ((Below.refl _ w3).drew.alloc (Nat.le_refl _) _).trans q2; have R : Hid _ := Set.out _ w2 q5 q6; have f1 : ∃ y, w2.cell? ⟨g, j, none⟩ = some y := ⟨_, by rw [q6.cell (p := ⟨g, j, none⟩) hgl]; exact Hcell.out⟩; obtain ⟨y1, f1⟩ := f1; have f2 : w2.cell? ⟨B, 1, none⟩ = some (.slice (some ⟨g, 0, none⟩) 8 vc) := (by rw [q6.cell (p := ⟨B, 1, none⟩) hBs]; exact hcl); have f3 : w2.frozen? ⟨g, j, none⟩ = false := (by rw [ice_kept (q6.block g hgl)]; exact hice); have l2 : B < w2.heap.size := Nat.lt_of_lt_of_le hBs q6.size; have l3 : g < w2.heap.size := Nat.lt_of_lt_of_le hgl q6.size; clear q1 q2 q3 q4 q5 q6)
          all_goals (go_wp2_with fail; go_meet; exact ⟨_, R.out⟩)
      case rest =>
      obtain ⟨u, hP⟩ := hcut.out
      obtain ⟨w4, rfl⟩ : ∃ w4, w4 = wc := ⟨_, rfl⟩
      have X4 : Hid (PoW w f (some ⟨b, off, none⟩) 8 c B G (some ⟨g, 0, none⟩) vc (vs.set j u) (ls.set j (l.drop 1)) w4) := hP
      clear hcut hP hcell Hcell hice hcl hc c1 X2 Set E0 HT K3
      obtain ⟨b', off', ak', ck', ha', hb', hc', hr', hcap', -⟩ := K.out j hjl
      cases ha'
      rw [Hl.out] at hc' hr' hcap'
      have hc' := (X4.out.bel.cell (p := ⟨b, off + j, none⟩) hb').trans hc'
      obtain ⟨b3, off3, ha3, hb3, e0, e1⟩ := hr' 0 (by have := Hm1.out; omega)
      subst ha3
      have e0 := (X4.out.bel.cell (p := ⟨b3, off3 + 0 * 2, none⟩) hb3).trans e0
      have e1 := (X4.out.bel.cell (p := ⟨b3, off3 + 0 * 2 + 1, none⟩) hb3).trans e1
      have n1 : ¬ b3 = w.heap.size + 1 := by omega
      have n2 : ¬ b3 = w.heap.size + 1 + 1 := by omega
      have n3 : ¬ b = w.heap.size + 1 := by omega
      have n4 : ¬ b = w.heap.size + 1 + 1 := by omega
      have hB3 := X4.out.hi
      have n5 : ¬ B = w.heap.size + 1 := by omega
      have n6 : ¬ B = w.heap.size + 1 + 1 := by omega
      have Hx : Hid (slHd ls j = duAt l 0) := by show duAt (dzAt ls j) 0 = duAt l 0; rw [Hl.out]
      generalize duAt l 0 = x at e0 e1 Hx
      obtain ⟨x0, x1⟩ := x
      simp only [Nat.zero_mul, Nat.add_zero] at e0 e1
      have hpos : (0 : Int) < (l.length : Int) := by have := Hm1.out; omega
      have hpos2 : 0 < l.length := by have := Hm1.out; omega
      generalize l.length = ml at hc' hpos hpos2
      have o0 : w4.cell? ⟨B, 0, none⟩ = some (.int .i64 f) := X4.out.out.cell 0 rfl
      have o1 : w4.cell? ⟨B, 1, none⟩ = some (.slice (some ⟨g, 0, none⟩) 8 vc) := X4.out.out.cell 1 rfl
      have s1 : w4.cell? ⟨w.heap.size, 1, none⟩ = some (.slice (some ⟨b, off, none⟩) 8 c) := X4.out.box.cell 1 rfl
      have t0 : w4.cell? ⟨w.heap.size + 1, 0, none⟩ = some (.int .i64 0) := X4.out.res.cell 0 rfl
      have t1 : w4.cell? ⟨w.heap.size + 1, 1, none⟩ = some (.slice none 0 0) := X4.out.res.cell 1 rfl
      have y0 : w4.cell? ⟨w.heap.size + 1 + 1, 0, none⟩ = some (.int .i64 0) := X4.out.item.cell 0 rfl
      have y1 : w4.cell? ⟨w.heap.size + 1 + 1, 1, none⟩ = some (.int .i64 0) := X4.out.item.cell 1 rfl
      have t2 := X4.out.res.ice 0
      have t3 := X4.out.res.ice 1
      have y3 := X4.out.item.ice 0
      have y4 := X4.out.item.ice 1
      clear hBs hgB hgl hsl hcap hin hcap'
      have P := take_fill (n := w.heap.size) (.int .i64 f) (.slice (some ⟨g, 0, none⟩) 8 vc) (.int .i64 x0) (.int .i64 x1) X4.out.res X4.out.item (by omega) (by omega) (by omega)
      have hln : (ls.set j (l.drop 1)).length = 8 := by rw [List.length_set]; exact Hn.out
      have Fin : Hid (∀ X : World, Boxed X (w.heap.size + 1) #[.int .i64 f, .slice (some ⟨g, 0, none⟩) 8 vc] 29 ∧ Boxed X (w.heap.size + 1 + 1) #[.int .i64 x0, .int .i64 x1] 33 ∧ (∀ k, k ≠ w.heap.size + 1 → k ≠ w.heap.size + 1 + 1 → X.heap[k]? = w4.heap[k]?) ∧ Below w.heap.size w4 X →
          ∀ z : Act, z.tmps.getD 2 undef = .pointer (some ⟨w.heap.size + 1, 0, none⟩) → z.tmps.getD 3 undef = .pointer (some ⟨w.heap.size + 1 + 1, 0, none⟩) → z.tmps.getD 4 undef = .bool true → z.defers = [] →
          bodyPost Tryz.prog Tryz.f18 (fun e w' => (∃ v', e = .returned (.tuple #[v', (slHd ls j).val, .bool true]) ∧ WhIn w.heap.size w'.heap.size w' v' ⟨f, ls.set j ((dzAt ls j).drop 1)⟩) ∧ Below w.heap.size w w') .ret z X) := by
        intro X hX z z4 z5 z6 zd
        have D := X4.out.done hln hX.2.2.1 hX.2.2.2
        exact bodyPost_ret (results_two_tmp Tryz.results18 _ _ (w.heap.size + 1) (w.heap.size + 1 + 1) _ _ _ _ _ _ _ _ (.bool true) z4 z5 z6 hX.1 hX.2.1 Tryz.underlying29 rfl (by kernel_rfl) Tryz.underlying33 rfl (by kernel_rfl)) zd ⟨⟨_, by rw [Hx.out]; rfl, by rw [Hl.out]; exact D.1⟩, D.2⟩
      have P1 : Hid (_ ∧ _ ∧ _ ∧ _) := P
      clear P hln
      go_wp2_with fail
      go_region
      all_goals (
        go_wp2
        generalize (((w4.setCell ⟨w.heap.size + 1, 0, none⟩ (.int .i64 f)).setCell ⟨w.heap.size + 1, 1, none⟩ (.slice (some ⟨g, 0, none⟩) 8 vc)).setCell ⟨w.heap.size + 1 + 1, 0, none⟩ (.int .i64 x0)).setCell ⟨w.heap.size + 1 + 1, 1, none⟩ (.int .i64 x1) = XX at P1 ⊢
        exact Fin.out XX.drew ⟨P1.out.1, P1.out.2.1, P1.out.2.2.1, P1.out.2.2.2.drew⟩ _ rfl rfl rfl rfl)
end Go.Proofs.YtkocbfikcjgigaaGreat
