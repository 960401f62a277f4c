/-
  The walk of the program's ToWheel, the whole. By the verifier.
-/
import Derived.Test.YtkocbfikcjgigaaGreatM24WhToI
import Derived.Test.YtkocbfikcjgigaaGreatM20HpMeth
namespace Go.Proofs.YtkocbfikcjgigaaGreat
open Go.RowKit Go.Shelf

set_option maxHeartbeats 6400000 in
set_option maxRecDepth 100000 in
theorem implToWheel (a : Option Addr) (c : Nat) (l : List Du) (step : Int) (w : World) (hT : l.length ≤ 1048576) (_hc : l.length ≤ c) (_hcn : a = none → c = 0) (h : Hid (DusAt w a l)) :
    Calls Tryz.prog 6 #[.slice a l.length c, .int .i64 step] w fun e w' => (∃ v', e = .returned (.tuple #[v', .bool (toWB l step)]) ∧ WhIn w.heap.size w'.heap.size w' v' (toW l step)) ∧ Below w.heap.size w w' := by
  have A1 := fun (w : World) (hh : Hid (DusAt w a l)) => implHeapOk l a c w hT hh
  have A2 := fun B w hh => implFromOne 1000 step B w hh
  have A3 := fun (w : World) (hh : Hid (DusAt w a l)) => implOrderly a c l w hT hh
  have Hb : Hid (toWB l step = (hok l && inB 1 1000 step)) := rfl
  have Hp : Hid (toW l step = if toWB l step = true then toWs step l else ⟨0, []⟩) := rfl
  have HS : Hid (hok l = true → inB 1 1000 step = true → (1 ≤ step ∧ step ≤ 1000) ∧ ∀ l' : List Du, l'.Perm l → Sorted l' → hok l' = true ∧ toWs step l' = toWs step l) := fun g1 g2 =>
    ⟨inB_true.1 g2, fun l' hp hs => ⟨sorted_hok g1 hp hs, toWs_sorted (inB_true.1 g2) g1 hp hs⟩⟩
  generalize toW l step = pr at Hp ⊢
  generalize toWB l step = pb at Hb Hp ⊢
  generalize hok l = ok at A1 Hb HS
  generalize inB 1 1000 step = sok at A2 Hb HS
  obtain ⟨n, hn⟩ : ∃ n, l.length = n := ⟨_, rfl⟩
  rw [hn] at A1 A3 hT ⊢
  have Hn : Hid (l.length = n) := hn
  have A1' : Hid _ := A1
  have A2' : Hid _ := A2
  have A3' : Hid _ := A3
  clear A1 A2 A3 hn
  have X : Hid (DusAt (w.alloc (.cells #[.int .i64 0, .slice none 0 0] 29)) a l ∧ Boxed (w.alloc (.cells #[.int .i64 0, .slice none 0 0] 29)) w.heap.size #[.int .i64 0, .slice none 0 0] 29 ∧ Below w.heap.size w (w.alloc (.cells #[.int .i64 0, .slice none 0 0] 29))) := ⟨h.out.alloc _, Boxed.new _ _ _, (Below.refl _ _).alloc (Nat.le_refl _) _⟩
  clear h
  go_enter Tryz.func6, Tryz.ntmps6
  go_wp2_with fail
  refine (A1'.out _ X.out.1).mono ?_
  rintro e w1 ⟨rfl, q⟩
  have X1 : Hid (Boxed w1 w.heap.size #[.int .i64 0, .slice none 0 0] 29 ∧ Below w.heap.size w w1 ∧ DusAt w1 a l) := ⟨X.out.2.1.below X.out.2.1.under q, X.out.2.2.trans (q.mono X.out.2.2.size), X.out.1.below q⟩
  clear q X A1'
  cases ok
  · have e1 : pb = false := by rw [Hb.out]; rfl
    subst e1
    have e2 : pr = ⟨0, []⟩ := by rw [Hp.out]; rfl
    subst e2
    go_wp2_with (refine wpList_store_row rfl 29 (.tmp 4) (.tmp 19) rfl w.heap.size #[.int .i64 0, .slice none 0 0] rfl rfl _ _ X1.out.1 (by kernel_rfl) rfl (by simp [Value.oneCell']) ?_)
    refine bodyPost_ret (results_row_tmp Tryz.results6 _ _ w.heap.size _ #[.int .i64 0, .slice none 0 0] _ _ (.bool false) rfl rfl (setRow_heap w1 w.heap.size _ _ _ _ X1.out.1) Tryz.underlying29 rfl (by kernel_rfl)) rfl ⟨⟨_, rfl, none, 0, rfl, [], (DzG.nil _ _).done⟩, below_setRow X1.out.2.1 (by omega) _⟩
  go_wp2_with fail
  refine (A2'.out _ _ rfl).mono ?_
  rintro e w2 ⟨rfl, hw2⟩
  have X2 : Hid (Boxed w2 w.heap.size #[.int .i64 0, .slice none 0 0] 29 ∧ Below w.heap.size w w2 ∧ DusAt w2 a l) := by
    have b0 : Below w1.heap.size w1 w2 := by rw [hw2]; exact (Below.refl _ _).alloc (Nat.le_refl _) _
    exact ⟨X1.out.1.below X1.out.1.under b0, X1.out.2.1.trans (b0.mono X1.out.2.1.size), X1.out.2.2.below b0⟩
  clear hw2 A2' X1
  cases sok
  · have e1 : pb = false := by rw [Hb.out]; rfl
    subst e1
    have e2 : pr = ⟨0, []⟩ := by rw [Hp.out]; rfl
    subst e2
    go_wp2_with (refine wpList_store_row rfl 29 (.tmp 4) (.tmp 19) rfl w.heap.size #[.int .i64 0, .slice none 0 0] rfl rfl _ _ X2.out.1 (by kernel_rfl) rfl (by simp [Value.oneCell']) ?_)
    refine bodyPost_ret (results_row_tmp Tryz.results6 _ _ w.heap.size _ #[.int .i64 0, .slice none 0 0] _ _ (.bool false) rfl rfl (setRow_heap w2 w.heap.size _ _ _ _ X2.out.1) Tryz.underlying29 rfl (by kernel_rfl)) rfl ⟨⟨_, rfl, none, 0, rfl, [], (DzG.nil _ _).done⟩, below_setRow X2.out.2.1 (by omega) _⟩
  have e1 : pb = true := by rw [Hb.out]; rfl
  subst e1
  have e2 : pr = toWs step l := by rw [Hp.out]; rfl
  subst e2
  obtain ⟨hs, hW⟩ := HS.out (by first | exact trivial | exact rfl) (by first | exact trivial | exact rfl)
  have HW : Hid (∀ l' : List Du, l'.Perm l → Sorted l' → hok l' = true ∧ toWs step l' = toWs step l) := hW
  clear hW HS Hb Hp
  have hmk := wvMake8
  have G0 : Hid (WvV (w.heap.size + 1) (w2.heap.size + 1) step w2.heap.size 8 (List.replicate 8 (.slice none 0 0)) (List.replicate 8 []) ((w2.alloc (.cells (madeCells #[.slice none 0 0] 8) 24)).alloc (.cells #[.int .i64 step, .slice (some ⟨w2.heap.size, 0, none⟩) 8 8] 29))) := by
    have hu := X2.out.1.under
    refine ⟨?_, (wvMadeG w2 (w.heap.size + 1) hu).below ((Below.refl _ _).alloc (Nat.le_refl _) _), by simp; omega, by simp⟩
    have := Boxed.new (w2.alloc (.cells (madeCells #[.slice none 0 0] 8) 24)) #[.int .i64 step, .slice (some ⟨w2.heap.size, 0, none⟩) 8 8] 29
    simpa using this
  have G1 : Hid (Boxed ((w2.alloc (.cells (madeCells #[.slice none 0 0] 8) 24)).alloc (.cells #[.int .i64 step, .slice (some ⟨w2.heap.size, 0, none⟩) 8 8] 29)) w.heap.size #[.int .i64 0, .slice none 0 0] 29 ∧ Below w.heap.size w ((w2.alloc (.cells (madeCells #[.slice none 0 0] 8) 24)).alloc (.cells #[.int .i64 step, .slice (some ⟨w2.heap.size, 0, none⟩) 8 8] 29)) ∧ DusAt ((w2.alloc (.cells (madeCells #[.slice none 0 0] 8) 24)).alloc (.cells #[.int .i64 step, .slice (some ⟨w2.heap.size, 0, none⟩) 8 8] 29)) a l) := by
    have hz := X2.out.2.1.size
    exact ⟨(X2.out.1.more _).more _, (X2.out.2.1.alloc hz _).alloc (by simp; omega) _, (X2.out.2.2.alloc _).alloc _⟩
  go_upto_region 4 with fail
  generalize (w2.alloc (.cells (madeCells #[.slice none 0 0] 8) 24)).alloc (.cells #[.int .i64 step, .slice (some ⟨w2.heap.size, 0, none⟩) 8 8] 29) = w3 at G0 G1 ⊢
  generalize w2.heap.size = g at G0 ⊢
  clear hmk X2
  go_wp2_with fail
  refine (A3'.out _ G1.out.2.2).mono ?_
  rintro e w4 ⟨gl, l', rfl, p1, p2, p3, p4⟩
  have L0 : Hid (ToL w.heap.size (g + 1) step g gl (List.replicate 8 (.slice none 0 0)) (toWs step (l'.take 0)).slots l' w w4) := by
    have hgl := (p3.lt gl rfl).1
    have hgw := G0.out.lt.2
    have hPw := G0.out.box.under
    refine ⟨G0.out.below p4, G1.out.1.below G1.out.1.under p4, p3.mono G1.out.2.1.size, ⟨by omega, by omega, fun i hi => ?_⟩, G1.out.2.1.trans (p4.mono G1.out.2.1.size)⟩
    have e : dzV (List.replicate 8 (.slice none 0 0)) i = .slice none 0 0 := by unfold dzV; rw [List.getElem?_replicate_of_lt hi]; rfl
    rw [e]
    intro q
    cases q
  have hok' := HW.out l' p1 p2
  have HP : Hid (toWs step l' = toWs step l ∧ (∀ k, k ≤ l'.length → (toWs step (l'.take k)).ok = true ∧ (toWs step (l'.take k)).step = step) ∧ (∀ k, k < l'.length → (duAt l' k).ok = true) ∧ (∀ k, k < l'.length → (toWs step (l'.take (k + 1))).slots = (toWs step (l'.take k)).slots.set (slot step (duAt l' k)).toNat (dzAt (toWs step (l'.take k)).slots (slot step (duAt l' k)).toNat ++ [duAt l' k]))) :=
    ⟨hok'.2, fun k hk => ⟨(toWs_is hs hok'.1 k hk).1, (toWs_is hs hok'.1 k hk).2.2⟩, fun k hk => (hok_is.1 hok'.1).2.1 _ (by rw [duAt_lt hk]; exact List.getElem_mem hk), fun k hk => toWs_behind hs hok'.1 p2 hk⟩
  have hn60 : l'.length ≤ 60 := (hok_is.1 hok'.1).1
  obtain ⟨m, hm⟩ : ∃ m, l'.length = m := ⟨_, rfl⟩
  have Hm : Hid (l'.length = m) := hm
  rw [hm] at hn60 HP ⊢
  obtain ⟨al, hal⟩ : ∃ al, al = some (⟨gl, 0, none⟩ : Addr) := ⟨_, rfl⟩
  rw [← hal]
  have Hal : Hid (al = some (⟨gl, 0, none⟩ : Addr)) := hal
  clear hok' HW A3' G0 G1 p1 p2 p3 p4 hm hal
  go_wp2_with fail
  go_loopw [26] (fun s wr => ∃ k : Nat, k ≤ m ∧ s = .int .i64 k ∧ Hid (∃ vs, ToL w.heap.size (g + 1) step g gl vs (toWs step (l'.take k)).slots l' w wr)) (fun s _ => m - (intOf s).toNat)
  case atStart => exact ⟨0, Nat.zero_le _, rfl, _, L0.out⟩
  case round =>
    obtain ⟨k, hk, rfl, HE⟩ := hrel
    obtain ⟨vs, HK⟩ : ∃ vs, Hid (ToL w.heap.size (g + 1) step g gl vs (toWs step (l'.take k)).slots l' w wr) := HE.out
    clear L0 HE
    obtain ⟨wo, rfl⟩ : ∃ wo, wo = wr := ⟨_, rfl⟩
    by_cases hlt : k < m
    case neg =>
      obtain rfl : k = m := by omega
      have e : l'.take k = l' := List.take_of_length_le (by rw [Hm.out]; exact Nat.le_refl _)
      have hst := (HP.out.2.1 k hk).2
      rw [e] at HK hst
      have Fin : Hid (WhIn w.heap.size (wo.setRow w.heap.size #[.int .i64 step, .slice (some ⟨g, 0, none⟩) 8 8]).heap.size (wo.setRow w.heap.size #[.int .i64 step, .slice (some ⟨g, 0, none⟩) 8 8]) (.agg #[.int .i64 step, .slice (some ⟨g, 0, none⟩) 8 8]) (toWs step l)) := by
        have := HK.out.done
        have et : toWs step l = ⟨step, (toWs step l').slots⟩ := by
          rw [← HP.out.1]
          have q : ∀ r : Wh, r.step = step → r = ⟨step, r.slots⟩ := by rintro ⟨s, ls⟩ rfl; rfl
          exact q _ hst
        rw [et]
        exact this
      clear e hst
      go_wp2_with (first | (refine wpList_load_row rfl 29 (.tmp 6) rfl (g + 1) rfl _ _ _ _ HK.out.wv.box Tryz.underlying29 rfl (by kernel_rfl) ?_) | (refine wpList_store_row rfl 29 (.tmp 4) (.tmp 45) rfl w.heap.size _ rfl rfl _ _ HK.out.res (by kernel_rfl) rfl (by simp [Value.oneCell']) ?_))
      refine bodyPost_ret (results_row_tmp Tryz.results6 _ _ w.heap.size _ #[.int .i64 step, .slice (some ⟨g, 0, none⟩) 8 8] _ _ (.bool true) rfl rfl (setRow_heap wo w.heap.size _ _ _ _ HK.out.res) Tryz.underlying29 rfl (by kernel_rfl)) rfl ⟨⟨_, rfl, Fin.out⟩, below_setRow HK.out.bel (Nat.le_refl _) _⟩
    have hkl : k < l'.length := by rw [Hm.out]; exact hlt
    have hlt' : (k : Int) < (m : Int) := by omega
    have hat : DusAt wo al l' := by rw [Hal.out]; exact HK.out.row.at
    obtain ⟨b1, o1, ha1, -, -⟩ := hat k hkl
    subst ha1
    obtain ⟨c0, c1⟩ := hat.cells hkl
    clear hat
    have Nx : Hid ((toWs step (l'.take (k + 1))).slots = (toWs step (l'.take k)).slots.set (slot step (duAt l' k)).toNat (dzAt (toWs step (l'.take k)).slots (slot step (duAt l' k)).toNat ++ [duAt l' k])) := HP.out.2.2.2 k hlt
    have A4 := fun w => implSlot step (duAt l' k) w hs (HP.out.2.2.1 k hlt)
    have hsl := slot_in step (duAt l' k)
    obtain ⟨j, hj⟩ : ∃ j, (slot step (duAt l' k)).toNat = j := ⟨_, rfl⟩
    have hjs : slot step (duAt l' k) = (j : Int) := by omega
    have hj8 : j < 8 := by omega
    have hj8' : (j : Int) < 8 := by omega
    rw [hj] at Nx
    rw [hjs] at A4
    have H60 : Hid ((dzAt (toWs step (l'.take k)).slots j).length ≤ 1048576) := by
      have hwk := (Wh.ok_iff.1 (HP.out.2.1 k hk).1)
      have h8 := HK.out.wv.eight
      have q := dzSum_one (ls := (toWs step (l'.take k)).slots) (i := j) (by omega)
      rw [h8] at q
      have := hwk.2.1
      show _ ≤ _
      omega
    clear hsl hj hjs
    obtain ⟨d, hd⟩ : ∃ d, duAt l' k = d := ⟨_, rfl⟩
    rw [hd] at c0 c1 A4 Nx
    unfold Du.val at A4
    have A4' : Hid _ := A4
    clear A4 hd
    have Y : Hid (ToL w.heap.size (g + 1) step g gl vs (toWs step (l'.take k)).slots l' w (wo.alloc (.cells #[.int .i64 d.time, .int .i64 d.id] 33)) ∧ Boxed (wo.alloc (.cells #[.int .i64 d.time, .int .i64 d.id] 33)) wo.heap.size #[.int .i64 d.time, .int .i64 d.id] 33) := ⟨HK.out.below ((Below.refl _ _).alloc (Nat.le_refl _) _), Boxed.new _ _ _⟩
    clear HK
    go_upto_region 7 with fail
    clear c0 c1
    generalize wo.alloc (.cells #[.int .i64 d.time, .int .i64 d.id] 33) = W at Y ⊢
    generalize wo.heap.size = D at Y ⊢
    haveI : Nonempty (BelW W.heap.size W) := ⟨⟨W, Below.refl _ _⟩⟩
    have c0 : ∀ p : BelW W.heap.size W, p.w'.cell? ⟨g + 1, 1, none⟩ = some (.slice (some ⟨g, 0, none⟩) 8 8) := fun p => (Y.out.1.wv.box.below Y.out.1.wv.box.under p.h).cell 1 rfl
    have c1 : ∀ p : BelW W.heap.size W, p.w'.cell? ⟨D, 0, none⟩ = some (.int .i64 d.time) := fun p => (Y.out.2.below Y.out.2.under p.h).cell 0 rfl
    have c2 : ∀ p : BelW W.heap.size W, p.w'.cell? ⟨D, 1, none⟩ = some (.int .i64 d.id) := fun p => (Y.out.2.below Y.out.2.under p.h).cell 1 rfl
    refine region_below W.heap.size (by kernel_rfl) (by kernel_rfl) ?_
    repeat (go_big_quiet_step ((go_at_call 28; with_reducible refine quiet_below (Nat.le_refl _) (A4'.out _))))
    refine wpQuiet_nil ?_
    intro w5 hx
    have b5 : Below W.heap.size W w5 := BelW.out hx
    have Z : Hid (ToL w.heap.size (g + 1) step g gl vs (toWs step (l'.take k)).slots l' w w5 ∧ Boxed w5 D #[.int .i64 d.time, .int .i64 d.id] 33) := ⟨Y.out.1.below b5, Y.out.2.below Y.out.2.under b5⟩
    clear hx b5 c0 c1 c2 Y A4'
    go_upto_region 8 with fail
    obtain ⟨ad, c9, r9⟩ : ∃ ad c9, dzV vs j = .slice ad (dzAt (toWs step (l'.take k)).slots j).length c9 := (Z.out.1.wv.row hj8).shape
    have Hr : Hid (dzV vs j = .slice ad (dzAt (toWs step (l'.take k)).slots j).length c9) := r9
    obtain ⟨L9, hL9⟩ : ∃ L9, dzAt (toWs step (l'.take k)).slots j = L9 := ⟨_, rfl⟩
    have HL9 : Hid (dzAt (toWs step (l'.take k)).slots j = L9) := hL9
    rw [hL9] at Hr H60 Nx
    obtain ⟨n9, hn9⟩ : ∃ n9, L9.length = n9 := ⟨_, rfl⟩
    have Hn9 : Hid (L9.length = n9) := hn9
    rw [hn9] at Hr
    have RW : Hid (∀ x, Below w5.heap.size w5 x → DuRow (w.heap.size + 1) x (.slice ad n9 c9) L9 ∧ x.cell? ⟨g, j, none⟩ = some (.slice ad n9 c9)) := fun x q => by
      have h1 := (Z.out.1.below q).wv
      have h2 := h1.row hj8
      have h3 := h1.cell hj8
      rw [HL9.out, Hr.out] at h2
      rw [Hr.out] at h3
      exact ⟨h2, h3⟩
    clear r9 hL9 hn9
    refine region_lists (G := Unit) (by kernel_rfl) (by kernel_rfl) (by kernel_rfl) (fun i => if i = 6 then 8 else 99) (fun (L : Nat → Bool) (_ : Unit) (x : World) => L 6 = false → x = if L 5 = true then w5.drew.alloc (.cells #[.int .i64 d.time, .int .i64 d.id] 33) else w5.drew) (fun i _ x _ x' => i ≠ 5 → i ≠ 6 → i ≠ 8 → x' = x) (fun kk y x u => ([fun _ _ u => u = .pointer (some ⟨g, j, none⟩), fun _ _ u => u = .pointer (some ⟨g, j, none⟩), fun _ _ u => u = .pointer (some ⟨g, j, none⟩), fun _ _ u => u = .slice ad n9 c9, fun _ _ u => u = .agg #[.int .i64 d.time, .int .i64 d.id], fun _ _ u => u = .slice (some ⟨w5.heap.size, 0, none⟩) 1 1, fun _ x u => ∃ a' c', u = .slice a' (n9 + 1) c' ∧ DuRow (w.heap.size + 1) x u (L9 ++ [d]) ∧ Below (w.heap.size + 1) w5 x ∧ (∀ k, (dzV vs j).ownBlock ≠ some k → k < w5.heap.size → x.heap[k]? = w5.heap[k]?) ∧ (∀ k, u.ownBlock = some k → (dzV vs j).ownBlock = some k ∨ w5.heap.size ≤ k), fun _ _ u => u = .pointer (some ⟨g, j, none⟩), fun _ x _ => ∃ vs', ToL w.heap.size (g + 1) step g gl vs' (toWs step (l'.take (k + 1))).slots l' w x] : List (Unit → World → Value → Prop)).getD kk (fun _ _ _ => True) y x u) ?hR () ?h0 ?step ?last
    case hR =>
      intro i' j' y y' x x' u hi1 hj1 hne hu h1 h2 hp hr
      have hj' : j' < 9 := hj1
      have hcases : j' = 0 ∨ j' = 1 ∨ j' = 2 ∨ j' = 3 ∨ j' = 4 ∨ j' = 5 ∨ j' = 6 ∨ j' = 7 ∨ j' = 8 := by omega
      rcases hcases with rfl | rfl | rfl | rfl | rfl | rfl | rfl | rfl | rfl
      case inr.inr.inr.inr.inr.inr.inl =>
        have e : x' = x := hr (by rintro rfl; exact absurd h1 (by decide +kernel)) hne (fun e => hu e.symm)
        subst e
        exact hp
      case inr.inr.inr.inr.inr.inr.inr.inr =>
        have e : x' = x := hr (by rintro rfl; exact absurd h1 (by decide +kernel)) (by rintro rfl; exact absurd h1 (by decide +kernel)) hne
        subst e
        exact hp
      all_goals exact hp
    case h0 => intro _; simp
    case step =>
      intro q o hq ho L a y x hLi hwt hre hkp hI hp
      have s9 : a.tmps.getD 9 undef = .pointer (some ⟨g, j, none⟩) := hkp.slot 9 (by kernel_rfl)
      have s8 : a.tmps.getD 8 undef = .pointer (some ⟨D, 0, none⟩) := hkp.slot 8 (by kernel_rfl)
      have hI' : ∀ k : Nat, k ≠ 5 → k ≠ 6 → (if (6 : Nat) = k then true else L 6) = false → x = if (if (5 : Nat) = k then true else L 5) = true then w5.drew.alloc (.cells #[.int .i64 d.time, .int .i64 d.id] 33) else w5.drew := by
        intro k n1 n2 z
        have e1 : (if (6 : Nat) = k then true else L 6) = L 6 := if_neg (fun e => n2 e.symm)
        have e2 : (if (5 : Nat) = k then true else L 5) = L 5 := if_neg (fun e => n1 e.symm)
        rw [e1] at z
        rw [e2]
        exact hI z
      have hbel : L 6 = false → Below w5.heap.size w5 x := by
        intro z
        rw [hI z]
        cases L 5
        · exact (Below.refl _ _).drew
        · exact (Below.refl _ _).drew.alloc (Nat.le_refl _) _
      have hq' : q < 9 := hq
      have hcases : q = 0 ∨ q = 1 ∨ q = 2 ∨ q = 3 ∨ q = 4 ∨ q = 5 ∨ q = 6 ∨ q = 7 ∨ q = 8 := by omega
      rcases hcases with rfl | rfl | rfl | rfl | rfl | rfl | rfl | rfl | rfl
      · cases ho
        refine ⟨wanted_none rfl, op_moveY 9 rfl ?_⟩
        rw [s9]
        exact ⟨_, (), rfl, fun _ _ _ => rfl, hI' 0 (by decide) (by decide), fun u hu => hu (fun h => by cases h)⟩
      · cases ho
        refine ⟨wanted_none rfl, op_moveY 9 rfl ?_⟩
        rw [s9]
        exact ⟨_, (), rfl, fun _ _ _ => rfl, hI' 1 (by decide) (by decide), fun u hu => hu (fun h => by cases h)⟩
      · cases ho
        have e1 : a.tmps.getD 37 undef = .pointer (some ⟨g, j, none⟩) := hp 1 (of_decide_eq_true (by kernel_rfl)) (.inr (by decide))
        exact ⟨wanted_none rfl, op_nilY 37 rfl e1 ⟨_, (), rfl, fun _ _ _ => rfl, hI' 2 (by decide) (by decide), fun u hu => hu (fun h => by cases h)⟩⟩
      · cases ho
        have e1 : a.tmps.getD 38 undef = .pointer (some ⟨g, j, none⟩) := hp 2 (of_decide_eq_true (by kernel_rfl)) (.inr (by decide))
        have z6 : L 6 = false := hre 6 (by kernel_rfl)
        exact ⟨wanted_none rfl, op_loadRowY 38 rfl e1 (RW.out _ (hbel z6)).2 ⟨_, (), rfl, fun _ _ _ => rfl, hI' 3 (by decide) (by decide), fun u hu => hu (fun h => by cases h)⟩⟩
      · cases ho
        have z6 : L 6 = false := hre 6 (by kernel_rfl)
        have hbx := Z.out.2.below Z.out.2.under (hbel z6)
        exact ⟨wanted_none rfl, op_loadDueY 8 rfl s8 (hbx.cell 0 rfl) (hbx.cell 1 rfl) ⟨_, (), rfl, fun _ _ _ => rfl, hI' 4 (by decide) (by decide), fun u hu => hu (fun h => by cases h)⟩⟩
      · cases ho
        have e1 : a.tmps.getD 40 undef = .agg #[.int .i64 d.time, .int .i64 d.id] := hp 4 (of_decide_eq_true (by kernel_rfl)) (.inr (by decide))
        have z6 : L 6 = false := hre 6 (by kernel_rfl)
        have hx : x = w5.drew := by rw [hI z6, hLi]; rfl
        subst hx
        exact ⟨wanted_none rfl, op_buildDuY 40 rfl e1 ⟨_, (), rfl, fun h => absurd rfl h, (fun _ => by simp), fun u hu => hu (fun h => by cases h)⟩⟩
      · cases ho
        have e3 : a.tmps.getD 39 undef = .slice ad n9 c9 := hp 3 (of_decide_eq_true (by kernel_rfl)) (.inr (by decide))
        have e5 : a.tmps.getD 41 undef = .slice (some ⟨w5.heap.size, 0, none⟩) 1 1 := hp 5 (of_decide_eq_true (by kernel_rfl)) (.inr (by decide))
        have z5 : L 5 = true := hwt 5 (of_decide_eq_true (by kernel_rfl))
        have hx : x = w5.drew.alloc (.cells #[.int .i64 d.time, .int .i64 d.id] 33) := by rw [hI hLi, z5]; rfl
        have bb := hbel hLi
        have hup := Z.out.1.wv.up
        have hn0 : Boxed x w5.heap.size #[.int .i64 d.time, .int .i64 d.id] 33 := by rw [hx]; exact Boxed.new w5.drew _ _
        refine ⟨wanted_none rfl, du_op_where (.tmp 39) (.tmp 41) rfl (w.heap.size + 1) _ L9 d e3 (RW.out _ bb).1 e5 hn0 H60.out (Nat.le_trans hup bb.size) ?_⟩
        intro v' w6 q1 q2 q3 q4
        obtain ⟨a', c', ev⟩ : ∃ a' c', v' = .slice a' (n9 + 1) c' := by
          obtain ⟨a', c', e⟩ := q1.shape
          rw [List.length_append, Hn9.out] at e
          exact ⟨a', c', e⟩
        refine ⟨_, (), rfl, fun _ h => absurd rfl h, (fun z => by simp at z), fun u hu => ?_⟩
        have eu := hu (fun h => by cases h)
        subst eu
        rw [← Hr.out] at q3 q4
        refine ⟨a', c', ev, q1, (bb.mono hup).trans q2, fun k k1 k3 => (q3 k k1 (Nat.lt_of_lt_of_le k3 bb.size)).trans (bb.block k k3), fun k hk => (q4 k hk).imp id fun e => Nat.le_trans bb.size e⟩
      · cases ho
        have e1 : a.tmps.getD 36 undef = .pointer (some ⟨g, j, none⟩) := hp 0 (of_decide_eq_true (by kernel_rfl)) (.inr (by decide))
        exact ⟨wanted_none rfl, op_nilY 36 rfl e1 ⟨_, (), rfl, fun _ _ _ => rfl, hI' 7 (by decide) (by decide), fun u hu => hu (fun h => by cases h)⟩⟩
      · cases ho
        have e7 : a.tmps.getD 43 undef = .pointer (some ⟨g, j, none⟩) := hp 7 (of_decide_eq_true (by kernel_rfl)) (.inr (by decide))
        obtain ⟨a', c', e6, p1, p2, p3, p4⟩ : ∃ a' c', a.tmps.getD 42 undef = .slice a' (n9 + 1) c' ∧ DuRow (w.heap.size + 1) x (a.tmps.getD 42 undef) (L9 ++ [d]) ∧ Below (w.heap.size + 1) w5 x ∧ (∀ k, (dzV vs j).ownBlock ≠ some k → k < w5.heap.size → x.heap[k]? = w5.heap[k]?) ∧ (∀ k, (a.tmps.getD 42 undef).ownBlock = some k → (dzV vs j).ownBlock = some k ∨ w5.heap.size ≤ k) := hp 6 (of_decide_eq_true (by kernel_rfl)) (.inl rfl)
        rw [e6] at p1 p4
        have z6 : L 6 = true := hwt 6 (of_decide_eq_true (by kernel_rfl))
        have ht := Z.out.1.put hj8 p1 p2 p3 p4
        have hgl := Z.out.1.wv.lt
        have hgx : x.heap[g]? = w5.heap[g]? := p3 g (rows_unlike Z.out.1.wv.mem.outer (Z.out.1.wv.row hj8) dzTypes g rfl) hgl.2
        have fc : x.cell? ⟨g, j, none⟩ = some (.slice ad n9 c9) := by
          have := (RW.out w5 (Below.refl _ _)).2
          rw [← this]
          exact World.cell?_of_block (w := w5) (a := ⟨g, j, none⟩) hgx
        have fi : x.frozen? ⟨g, j, none⟩ = false := by
          have := Z.out.1.wv.ice j
          rw [← this]
          exact World.frozen?_of_block (w := w5) (a := ⟨g, j, none⟩) hgx
        have hfin : ∃ vs', ToL w.heap.size (g + 1) step g gl vs' (toWs step (l'.take (k + 1))).slots l' w (x.setCell ⟨g, j, none⟩ (.slice a' (n9 + 1) c')) := ⟨_, by rw [Nx.out]; exact ht⟩
        exact ⟨wanted_none rfl, op_storeRowY 43 42 rfl e7 e6 fc fi ⟨undef, (), rfl, fun _ _ h => absurd rfl h, (fun z => by simp [z6] at z), fun _ _ => hfin⟩⟩
    case last =>
    intro L a y x hall hkp hI hp
    have F0 : ∃ vs', ToL w.heap.size (g + 1) step g gl vs' (toWs step (l'.take (k + 1))).slots l' w x := hp 8 (by decide) (by decide)
    have F : Hid (∃ vs', ToL w.heap.size (g + 1) step g gl vs' (toWs step (l'.take (k + 1))).slots l' w x) := F0
    clear F0
    have ha := hkp.pick [true, true, true, true, true, true, true, true, true, true, true, true, true, true, true, true, true, true, true, true, true, true, true, true, true, true, true, true, true, true, true, true, true, true, true, true, false, false, false, false, false, false, false, false, true, true] (by kernel_rfl)
    simp only [pickS] at ha
    clear hp hkp hI hall RW Z Nx
    generalize a.tmps.getD 36 undef = y36 at ha
    generalize a.tmps.getD 37 undef = y37 at ha
    generalize a.tmps.getD 38 undef = y38 at ha
    generalize a.tmps.getD 39 undef = y39 at ha
    generalize a.tmps.getD 40 undef = y40 at ha
    generalize a.tmps.getD 41 undef = y41 at ha
    generalize a.tmps.getD 42 undef = y42 at ha
    generalize a.tmps.getD 43 undef = y43 at ha
    rw [ha]
    clear ha
    go_wp2
    go_roundw
    case rel => exact ⟨k + 1, by omega, by go_num, F.out⟩
    case measure => simp [intOf]; omega
end Go.Proofs.YtkocbfikcjgigaaGreat
