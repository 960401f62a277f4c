/-
  The walk of the program's WheelOk. By the verifier.
-/
import Derived.Test.YtkocbfikcjgigaaGreatM24WhToI
import Derived.Deep.DeepCutAuto
namespace Go.Proofs.YtkocbfikcjgigaaGreat
open Go.RowKit Go.Shelf

/-- Is a slot right? -/
def slotGood (step : Int) (i : Nat) (l : List Du) : Bool := l.all Du.ok && (riseK l l.length && !l.any fun d => !decide (slot step d = (i : Int)))
theorem slotGood_is (step : Int) (i : Nat) (l : List Du) : slotGood step i l = (List.range l.length).all (whGood step i l) := by
  rw [Bool.eq_iff_iff]
  unfold slotGood
  simp only [Bool.and_eq_true, Bool.not_eq_true', List.any_eq_false, List.all_eq_true, List.mem_range, riseK_is, whGood_iff]
  constructor
  · rintro ⟨h1, h2, h3⟩ k hk
    have hm : duAt l k ∈ l := by rw [duAt_lt hk]; exact List.getElem_mem hk
    exact ⟨h1 _ hm, by simpa using h3 _ hm, fun k0 => h2 k k0 hk⟩
  · intro h
    refine ⟨fun x hx => ?_, fun k k0 hk => (h k hk).2.2 k0, fun x hx => ?_⟩
    · obtain ⟨k, hk, rfl⟩ := List.mem_iff_getElem.1 hx
      have := (h k hk).1
      rwa [duAt_lt hk] at this
    · obtain ⟨k, hk, rfl⟩ := List.mem_iff_getElem.1 hx
      have := (h k hk).2.1
      rw [duAt_lt hk] at this
      simpa using this
def slotsK (step : Int) (ls : List (List Du)) (k : Nat) : Bool := (List.range k).all fun i => slotGood step i (dzAt ls i)
theorem slotsK_succ (step : Int) (ls : List (List Du)) (k : Nat) : slotsK step ls (k + 1) = (slotsK step ls k && slotGood step k (dzAt ls k)) := by
  unfold slotsK
  rw [List.range_succ, List.all_append]
  simp
theorem slotsK_hit {step : Int} {ls : List (List Du)} {k n : Nat} (h : k < n) (g : slotGood step k (dzAt ls k) = false) : slotsK step ls n = false := by
  unfold slotsK
  rw [List.all_eq_false]
  exact ⟨k, List.mem_range.2 h, by rw [g]; exact Bool.false_ne_true⟩
theorem ok_prog (r : Wh) : r.ok = ((inB 1 1000 r.step && decide (r.slots.length = 8)) && (decide (dzSum r.slots 8 ≤ 60) && slotsK r.step r.slots 8)) := by
  unfold Wh.ok slotsK
  congr 2
  apply List.all_congr rfl
  intro i
  exact (slotGood_is _ _ _).symm

set_option maxHeartbeats 1600000 in
set_option maxRecDepth 100000 in
theorem implNotSlot (step : Int) (i : Nat) (d : Du) (B S : Nat) (v : Value) (W : World) (hs : 1 ≤ step ∧ step ≤ 1000) (hd : d.ok = true) (hB : Boxed W B #[.int .i64 step, v] 29) (hS : Boxed W S #[.int .i64 (i : Int)] 3) :
    Calls Tryz.prog 45 #[d.val, .pointer (some ⟨B, 0, none⟩), .pointer (some ⟨S, 0, none⟩)] W fun e w' => e = .returned (.bool (!decide (slot step d = (i : Int)))) ∧ Below W.heap.size W w' := by
  have C := fun w => implSlot step d w hs hd
  generalize slot step d = z at C ⊢
  obtain ⟨t, x⟩ := d
  simp only [Du.val] at C ⊢
  obtain ⟨w0, hw0⟩ : ∃ w0, w0 = W.alloc (.cells #[.int .i64 t, .int .i64 x] 33) := ⟨_, rfl⟩
  have b0 : Below W.heap.size W w0 := by rw [hw0]; exact (Below.refl _ _).alloc (Nat.le_refl _) _
  have n0 : Boxed w0 W.heap.size #[.int .i64 t, .int .i64 x] 33 := by rw [hw0]; exact Boxed.new _ _ _
  have B0 := hB.below hB.under b0
  have S0 := hS.below hS.under b0
  have HW0 : Hid (w0 = _) := hw0
  have C' : Hid _ := C
  have c0 := fun p : BelW w0.heap.size w0 => (B0.below B0.under p.h).cell 0 (v := .int .i64 step) rfl
  have c1 := fun p : BelW w0.heap.size w0 => (S0.below S0.under p.h).cell 0 (v := .int .i64 (i : Int)) rfl
  have c2 := fun p : BelW w0.heap.size w0 => (n0.below n0.under p.h).cell 0 (v := .int .i64 t) rfl
  have c3 := fun p : BelW w0.heap.size w0 => (n0.below n0.under p.h).cell 1 (v := .int .i64 x) rfl
  have Bb : Hid _ := b0
  have hz : Hid ((z != (i : Int)) = !decide (z = (i : Int))) := by
    show (z != (i : Int)) = !decide (z = (i : Int))
    rw [Bool.eq_iff_iff]
    simp
  haveI : Nonempty (BelW w0.heap.size w0) := ⟨⟨w0, Below.refl _ _⟩⟩
  clear C hw0 b0 n0 B0 S0 hB hS hs hd
  go_enter Tryz.func45, Tryz.ntmps45
  go_upto_region 1 with fail
  rw [← HW0.out]
  refine region_below w0.heap.size (by kernel_rfl) (by kernel_rfl) ?_
  repeat (go_big_quiet_step ((go_at_call 28; refine quiet_below (Nat.le_refl _) (C'.out _))))
  refine wpQuiet_nil ?_
  intro wq hx
  have hq : Hid (Below W.heap.size W wq) := Bb.out.trans ((BelW.out hx).mono Bb.out.size)
  clear hx c0 c1 c2 c3 C'
  go_wp2
  go_ret
  exact ⟨ret_bool (by first | exact hz.out | rfl | simp), hq.out⟩

set_option maxHeartbeats 6400000 in
set_option maxRecDepth 100000 in
theorem implWheelOk (r : Wh) (v : Value) (w : World) (hB : r.big ≤ 1048576) (h : Hid (WhAt w v r)) :
    Calls Tryz.prog 15 #[v] w fun e w' => e = .returned (.bool r.ok) ∧ Below w.heap.size w w' := by
  obtain ⟨a, c, rfl, k1⟩ := h.out
  clear h
  obtain ⟨hT, -, hin⟩ := Wh.small hB
  have Hok : Hid (r.ok = ((inB 1 1000 r.step && decide (r.slots.length = 8)) && (decide (dzSum r.slots 8 ≤ 60) && slotsK r.step r.slots 8))) := ok_prog r
  have A1 := fun B w hh => implFromOne 1000 r.step B w hh
  have A2 := fun (w : World) (hh : DzAt w a r.slots) => implCntWh r a c w hB hh
  have HS : Hid (inB 1 1000 r.step = true → 1 ≤ r.step ∧ r.step ≤ 1000) := fun e => inB_true.1 e
  generalize r.ok = ok at Hok ⊢
  obtain ⟨f, ls⟩ := r
  simp only [Wh.val] at Hok A1 A2 HS hT hin k1 ⊢
  have HI : Hid (∀ w', Below w.heap.size w w' → DzAt w' a ls) := fun w' g => k1.below g
  have Hin : Hid (∀ k, k < ls.length → (dzAt ls k).length ≤ 1048576) := hin
  obtain ⟨n, hn⟩ : ∃ n, ls.length = n := ⟨_, rfl⟩
  have Hn : Hid (ls.length = n) := hn
  obtain ⟨s, hs⟩ : ∃ s, s = dzSum ls n := ⟨_, rfl⟩
  rw [hn] at Hok A2 hT Hin ⊢
  rw [← hs] at A2
  have Hs : Hid (s = dzSum ls n) := hs
  generalize inB 1 1000 f = b1 at A1 Hok HS
  have A1' : Hid _ := A1
  have A2' : Hid _ := A2
  clear A1 A2 k1 hin hB hn hs
  obtain ⟨W, hW⟩ : ∃ W, W = w.alloc (.cells #[.int .i64 f, .slice a n c] 29) := ⟨_, rfl⟩
  have X : Hid (Boxed W w.heap.size #[.int .i64 f, .slice a n c] 29 ∧ Below w.heap.size w W) := by rw [hW]; exact ⟨Boxed.new _ _ _, (Below.refl _ _).alloc (Nat.le_refl _) _⟩
  have HWe : Hid (W = _) := hW
  clear hW
  have d0 : W.cell? ⟨w.heap.size, 0, none⟩ = some (.int .i64 f) := X.out.1.cell 0 rfl
  have dl : w.heap.size < W.heap.size := X.out.1.under
  go_enter Tryz.func15, Tryz.ntmps15
  go_upto_region 1 with fail
  rw [← HWe.out]
  clear HWe
  go_cut [20] (fun s wc => Hid (s = .bool (!((b1 && decide (n = 8)) && decide (dzSum ls 8 ≤ 60))) ∧ Boxed wc w.heap.size #[.int .i64 f, .slice a n c] 29 ∧ Below w.heap.size w wc))
  case first =>
    go_wp2_with fail
    refine (A1'.out _ _ (by simp)).mono ?_
    rintro e w1 ⟨rfl, rfl⟩
    have b0 : Below W.heap.size W (W.alloc (.cells #[.int .i64 f] 2)) := (Below.refl _ _).alloc (Nat.le_refl _) _
    have X1 : Hid (Boxed (W.alloc (.cells #[.int .i64 f] 2)) w.heap.size #[.int .i64 f, .slice a n c] 29 ∧ Below w.heap.size w (W.alloc (.cells #[.int .i64 f] 2))) := ⟨X.out.1.below X.out.1.under b0, X.out.2.trans (b0.mono X.out.2.size)⟩
    clear b0
    cases b1
    · go_wp2_with fail
      go_meet
      exact ⟨rfl, X1.out⟩
    have d1 : W.cell? ⟨w.heap.size, 1, none⟩ = some (.slice a n c) := X.out.1.cell 1 rfl
    by_cases h8 : n = 8
    · have H8 : Hid (n = 8) := h8
      have h8' : ((n : Int) != 8) = false := by simp [h8]
      clear h8
      go_wp2_with fail
      refine (A2'.out _ (HI.out _ X1.out.2)).mono ?_
      rintro e w2 ⟨rfl, q⟩
      have X2 : Hid (Boxed w2 w.heap.size #[.int .i64 f, .slice a n c] 29 ∧ Below w.heap.size w w2) := ⟨X1.out.1.below X1.out.1.under q, X1.out.2.trans (q.mono X1.out.2.size)⟩
      clear q X1 d0 d1 X
      have Hs8 : Hid (dzSum ls 8 = s) := by show dzSum ls 8 = s; rw [Hs.out, H8.out]
      by_cases h60 : s ≤ 60
      · have hg : ¬ (60 : Int) < (s : Int) := by omega
        have hg' : decide ((60 : Int) < (s : Int)) = false := decide_eq_false hg
        go_wp2_with fail
        go_meet
        exact ⟨by rw [H8.out, Hs8.out, decide_eq_true h60]; rfl, X2.out⟩
      · have hg : (60 : Int) < (s : Int) := by omega
        have hg' : decide ((60 : Int) < (s : Int)) = true := decide_eq_true hg
        go_wp2_with fail
        go_meet
        exact ⟨by rw [H8.out, Hs8.out, decide_eq_false h60]; rfl, X2.out⟩
    · have h8' : ((n : Int) != 8) = true := by
        rw [bne_iff_ne]
        omega
      have H8 : Hid (¬ n = 8) := h8
      clear h8
      go_wp2_with fail
      go_meet
      exact ⟨by rw [decide_eq_false H8.out]; rfl, X1.out⟩
  case rest =>
  obtain ⟨rfl, hP⟩ := hcut.out
  have X3 : Hid (Boxed wc w.heap.size #[.int .i64 f, .slice a n c] 29 ∧ Below w.heap.size w wc) := hP
  clear hcut hP X d0 dl A1' A2'
  by_cases hz : ((b1 && decide (n = 8)) && decide (dzSum ls 8 ≤ 60)) = true
  rotate_left
  · have hz' : ((b1 && decide (n = 8)) && decide (dzSum ls 8 ≤ 60)) = false := by simpa using hz
    have e : Hid (ok = false) := by
      show ok = false
      rw [Hok.out]
      revert hz'
      cases b1 <;> cases decide (n = 8) <;> cases decide (dzSum ls 8 ≤ 60) <;> simp
    rw [hz']
    clear hz hz'
    go_wp2
    go_ret
    exact ⟨ret_bool e.out.symm, X3.out.2⟩
  have hz3 : b1 = true ∧ n = 8 ∧ dzSum ls 8 ≤ 60 := by simpa [and_assoc] using hz
  have HSt : Hid (1 ≤ f ∧ f ≤ 1000) := HS.out hz3.1
  have H8 : Hid (n = 8) := hz3.2.1
  have Hok2 : Hid (ok = slotsK f ls 8) := by
    show ok = slotsK f ls 8
    rw [Hok.out, hz3.1, decide_eq_true hz3.2.1, decide_eq_true hz3.2.2]
    rfl
  rw [hz]
  have hn8 : n ≤ 8 := by omega
  have hn8' : 8 ≤ n := by omega
  clear hz hz3 Hok HS Hs
  have d1 : wc.cell? ⟨w.heap.size, 1, none⟩ = some (.slice a n c) := X3.out.1.cell 1 rfl
  go_wp2
  clear d1
  go_loopw [24] (fun i wr => ∃ k : Nat, k ≤ n ∧ i = .int .i64 k ∧ Hid (slotsK f ls k = true ∧ Boxed wr w.heap.size #[.int .i64 f, .slice a n c] 29 ∧ Below w.heap.size w wr)) (fun i _ => n - (intOf i).toNat)
  case atStart => exact ⟨0, Nat.zero_le _, rfl, rfl, X3.out⟩
  case round =>
    obtain ⟨k, hk, rfl, HK⟩ := hrel
    clear X3
    by_cases hlt : k < n
    · have hkl : k < ls.length := by rw [Hn.out]; exact hlt
      obtain ⟨b, off, ak, ck, ha, hb, hc, hr, -⟩ := (HI.out _ HK.out.2.2) k hkl
      subst ha
      have hlt' : (k : Int) < (n : Int) := by omega
      have hl := Hin.out k hlt
      have Suc : Hid (slotGood f k (dzAt ls k) = true → slotsK f ls (k + 1) = true) := fun e => by rw [slotsK_succ, HK.out.1, e]; rfl
      have Hit : Hid (slotGood f k (dzAt ls k) = false → ok = false) := fun e => by rw [Hok2.out]; exact slotsK_hit (by have := H8.out; omega) e
      have C1 := fun (w : World) (hh : DusAt w ak (dzAt ls k)) => implEachDu ak ck (dzAt ls k) w hl hh
      have C2 := fun (w : World) (hh : DusAt w ak (dzAt ls k)) => implRises ak ck (dzAt ls k) w hl hh
      have C3 : Hid ((dzAt ls k).all Du.ok = true → ∀ (S : Nat) (wx : World), Boxed wx w.heap.size #[.int .i64 f, .slice (some ⟨b, off, none⟩) n c] 29 → Boxed wx S #[.int .i64 (k : Int)] 3 → DusAt wx ak (dzAt ls k) → Calls Tryz.prog 44 #[.slice ak (dzAt ls k).length ck, .func (.func 45) #[] #[.pointer (some ⟨w.heap.size, 0, none⟩), .pointer (some ⟨S, 0, none⟩)]] wx fun e w' => e = .returned (.bool ((dzAt ls k).any fun d => !decide (slot f d = (k : Int)))) ∧ Below wx.heap.size wx w') := fun hall S wx bB bS hh =>
        implContainsD ak ck (dzAt ls k) 45 #[] #[.pointer (some ⟨w.heap.size, 0, none⟩), .pointer (some ⟨S, 0, none⟩)] (fun q => q = w.heap.size ∨ q = S) (fun d => d.ok = true) (fun d => !decide (slot f d = (k : Int))) wx hl hh (fun d hd => List.all_eq_true.1 hall d hd)
          ⟨enters_of Tryz.func45 (by kernel_rfl) rfl, fun q hq => by rcases hq with rfl | rfl; exact bB.under; exact bS.under, fun W2 d hd hW => implNotSlot f k d w.heap.size S _ W2 HSt.out hd (by unfold Boxed; rw [hW _ (.inl rfl)]; exact bB) (by unfold Boxed; rw [hW _ (.inr rfl)]; exact bS)⟩
      have Gd : Hid (slotGood f k (dzAt ls k) = ((dzAt ls k).all Du.ok && (riseK (dzAt ls k) (dzAt ls k).length && !(dzAt ls k).any fun d => !decide (slot f d = (k : Int))))) := rfl
      have HR : Hid (∀ w', Below wr.heap.size wr w' → DusAt w' ak (dzAt ls k)) := fun w' g => hr.below g
      generalize (dzAt ls k).all Du.ok = g1 at C1 C3 Gd
      generalize riseK (dzAt ls k) (dzAt ls k).length = g2 at C2 Gd
      generalize ((dzAt ls k).any fun d => !decide (slot f d = (k : Int))) = g3 at C3 Gd
      generalize slotGood f k (dzAt ls k) = gd at Suc Hit Gd
      generalize dzAt ls k = l at C1 C2 C3 HR hc
      generalize l.length = m at C1 C2 C3 hc
      have C1' : Hid _ := C1
      have C2' : Hid _ := C2
      have b0 : Below wr.heap.size wr (wr.alloc (.cells #[.int .i64 (k : Int)] 3)) := (Below.refl _ _).alloc (Nat.le_refl _) _
      have X1 : Hid (Boxed (wr.alloc (.cells #[.int .i64 (k : Int)] 3)) w.heap.size #[.int .i64 f, .slice (some ⟨b, off, none⟩) n c] 29 ∧ Boxed (wr.alloc (.cells #[.int .i64 (k : Int)] 3)) wr.heap.size #[.int .i64 (k : Int)] 3 ∧ Below wr.heap.size wr (wr.alloc (.cells #[.int .i64 (k : Int)] 3))) := ⟨HK.out.2.1.below HK.out.2.1.under b0, Boxed.new _ _ _, b0⟩
      have Bw : Hid (Below w.heap.size w wr) := HK.out.2.2
      clear C1 C2 hr HK b0
      go_wp2_with fail
      generalize wr.alloc (.cells #[.int .i64 (k : Int)] 3) = w1 at X1 ⊢
      refine (C1'.out _ (HR.out _ X1.out.2.2)).mono ?_
      rintro e w2 ⟨rfl, q⟩
      have X2 : Hid (Boxed w2 w.heap.size #[.int .i64 f, .slice (some ⟨b, off, none⟩) n c] 29 ∧ Boxed w2 wr.heap.size #[.int .i64 (k : Int)] 3 ∧ Below wr.heap.size wr w2) := ⟨X1.out.1.below X1.out.1.under q, X1.out.2.1.below X1.out.2.1.under q, X1.out.2.2.trans (q.mono X1.out.2.2.size)⟩
      clear q X1 hc C1'
      cases g1
      · have e : Hid (ok = false) := Hit.out (by rw [Gd.out]; rfl)
        go_wp2
        go_ret
        exact ⟨ret_bool e.out.symm, Bw.out.trans (X2.out.2.2.mono Bw.out.size)⟩
      go_wp2_with fail
      refine (C2'.out _ (HR.out _ X2.out.2.2)).mono ?_
      rintro e w3 ⟨rfl, q⟩
      have X3 : Hid (Boxed w3 w.heap.size #[.int .i64 f, .slice (some ⟨b, off, none⟩) n c] 29 ∧ Boxed w3 wr.heap.size #[.int .i64 (k : Int)] 3 ∧ Below wr.heap.size wr w3) := ⟨X2.out.1.below X2.out.1.under q, X2.out.2.1.below X2.out.2.1.under q, X2.out.2.2.trans (q.mono X2.out.2.2.size)⟩
      clear q X2 C2'
      cases g2
      · have e : Hid (ok = false) := Hit.out (by rw [Gd.out]; rfl)
        go_wp2
        go_ret
        exact ⟨ret_bool e.out.symm, Bw.out.trans (X3.out.2.2.mono Bw.out.size)⟩
      have C4 := fun (_ : Nat) => C3.out (by first | exact trivial | exact rfl) wr.heap.size w3 X3.out.1 X3.out.2.1 (HR.out _ X3.out.2.2)
      have C4' : Hid _ := C4
      clear C3 C4
      go_wp2_with fail
      refine (C4'.out 0).mono ?_
      rintro e w4 ⟨rfl, q⟩
      have X4 : Hid (Boxed w4 w.heap.size #[.int .i64 f, .slice (some ⟨b, off, none⟩) n c] 29 ∧ Below w.heap.size w w4) := ⟨X3.out.1.below X3.out.1.under q, Bw.out.trans ((X3.out.2.2.trans (q.mono X3.out.2.2.size)).mono Bw.out.size)⟩
      clear q X3 C4'
      cases g3
      · have e : Hid (slotsK f ls (k + 1) = true) := Suc.out (by rw [Gd.out]; rfl)
        go_wp2
        go_roundw
        case rel => exact ⟨_, _, _, _, _, _, _, _, _, _, _, _, _, _, _, _, _, _, _, _, _, _, ⟨k + 1, by omega, by go_num, e.out, X4.out⟩, rfl⟩
        case measure => simp [intOf]; omega
      · have e : Hid (ok = false) := Hit.out (by rw [Gd.out]; rfl)
        go_wp2
        go_ret
        exact ⟨ret_bool e.out.symm, X4.out.2⟩
    · obtain rfl : k = n := by omega
      have e : Hid (ok = true) := by
        show ok = true
        rw [Hok2.out, ← H8.out]
        exact HK.out.1
      go_wp2
      go_ret
      exact ⟨ret_bool e.out.symm, HK.out.2.2⟩
end Go.Proofs.YtkocbfikcjgigaaGreat
