/-
  The walk of the model's WheelPut. By the verifier, by program.
-/
import Derived.Test.YtkocbfikcjgigaaGreatM6WhCopyS
import Derived.Test.YtkocbfikcjgigaaGreatWhInto
import Derived.Test.YtkocbfikcjgigaaGreatWhPu
import Derived.BigQuiet
import Derived.Deep.DeepCutAuto
namespace Go.Proofs.YtkocbfikcjgigaaGreat
open Go.RowKit

set_option maxHeartbeats 12800000 in
set_option maxRecDepth 100000 in
theorem specWheelPut (r : Wh) (v : Value) (i : Du) (w : World) (hB : r.big ≤ 1048576) (h : Hid (WhAt w v r)) :
    Calls Tryz.prog 17 #[v, i.val] w fun e w' => (∃ v', e = .returned (.tuple #[v', .bool (r.putB i)]) ∧ WhIn w.heap.size w'.heap.size w' v' (r.put i)) ∧ Below w.heap.size w w' := by
  obtain ⟨a, c, rfl, k⟩ := h.out
  obtain ⟨hT, -, hin⟩ := Wh.small hB
  have A1 := fun w h => specWheelOk r a c w hB h
  have A2 := fun w h => specWhCopy r a c w hB h
  have A3 := fun w => specDue i w
  have A5 := fun w h => specWhCnt r a c w hB h
  have Hb : Hid (r.putB i = (r.ok && r.mayPut i)) := rfl
  have Hp : Hid (r.put i = if r.ok = true then (if r.mayPut i = true then ⟨r.step, r.slots.set (slot r.step i).toNat (ins (dzAt r.slots (slot r.step i).toNat) i)⟩ else r) else ⟨0, []⟩) := rfl
  have Hm : Hid (r.mayPut i = (i.ok && (!duHas (dzAt r.slots (slot r.step i).toNat) i && !decide ((dzSum r.slots r.slots.length : Int) = 60)))) := by
    show r.mayPut i = _
    unfold Wh.mayPut
    have e : decide (dzSum r.slots r.slots.length = 60) = decide ((dzSum r.slots r.slots.length : Int) = 60) := decide_eq_decide.2 (by omega)
    rw [e]
  have Hok : Hid (r.ok = true → (1 ≤ r.step ∧ r.step ≤ 1000) ∧ r.slots.length = 8 ∧ ∀ i, i < 8 → (dzAt r.slots i).length ≤ 60) := fun g => by
    obtain ⟨⟨g1, g2⟩, g3, -⟩ := Wh.ok_iff.1 g
    refine ⟨g1, g2, fun y hy => ?_⟩
    have := dzSum_one (ls := r.slots) (i := y) (by omega)
    rw [g2] at this
    omega
  have Hin : Hid (∀ k, k < r.slots.length → (dzAt r.slots k).length ≤ 1048576) := hin
  have Hsl := slot_in r.step i
  have Sl : slot r.step i = i.time / r.step % 8 := rfl
  have Iok : i.ok = true → 0 ≤ i.time ∧ i.time ≤ 1099511627776 := fun hd => by
    unfold Du.ok at hd
    simp only [Bool.and_eq_true, inB_true] at hd
    exact hd.1
  have AI := fun base P g cap vs w h8 h60 hd h => fun hf => specInto base P r.step g cap vs r.slots i w hf h8 h60 hd h
  obtain ⟨j, hj⟩ : ∃ j, (slot r.step i).toNat = j := ⟨_, rfl⟩
  rw [hj] at Hp Hm AI
  have Hj : Hid (slot r.step i = (j : Int) ∧ j < 8) := ⟨by omega, by omega⟩
  rw [Hj.out.1] at Sl
  clear Hsl hj
  generalize r.putB i = pb at Hb ⊢
  generalize r.put i = pr at Hp ⊢
  generalize r.mayPut i = mp at Hb Hp Hm
  generalize r.ok = ok at A1 Hb Hp Hok
  have Hioke : Hid (i.ok = true → 0 ≤ i.time ∧ i.time ≤ 1099511627776) := Iok
  have A4 := fun a' c' w hT h => specDuHas a' c' (dzAt r.slots j) i w hT h
  have hj8 : j < 8 := Hj.out.2
  clear Hj Iok
  generalize i.ok = iok at A3 Hm Hioke AI
  generalize duHas (dzAt r.slots j) i = has at A4 Hm
  generalize (dzSum r.slots r.slots.length : Int) = cnt at A5 Hm
  obtain ⟨f, ls⟩ := r
  simp only [Wh.val, Du.val] at A1 A2 A3 A4 A5 Hp Hm Hin Hok k hT Sl AI ⊢
  obtain ⟨n, hn⟩ : ∃ n, ls.length = n := ⟨_, rfl⟩
  rw [hn] at A1 A2 A5 Hin Hok hT ⊢
  have Hn : Hid (ls.length = n) := hn
  have A1' : Hid _ := A1
  have A2' : Hid _ := A2
  have A3' : Hid _ := A3
  have A4' : Hid _ := A4
  have A5' : Hid _ := A5
  have AI' : Hid _ := AI
  have K : Hid (DzAt w a ls) := k
  have HSl : Hid ((j : Int) = i.time / f % 8) := Sl
  clear A1 A2 A3 A4 A5 AI h k hB hin hn Sl
  obtain ⟨W, hW⟩ : ∃ W, W = ((w.alloc (.cells #[.int .i64 f, .slice a n c] 29)).alloc (.cells #[.int .i64 i.time, .int .i64 i.id] 33)).alloc (.cells #[.int .i64 0, .slice none 0 0] 29) := ⟨_, rfl⟩
  have X : Hid (DzAt W a ls ∧ Boxed W w.heap.size #[.int .i64 f, .slice a n c] 29 ∧ Boxed W (w.heap.size + 1) #[.int .i64 i.time, .int .i64 i.id] 33 ∧ Boxed W (w.heap.size + 1 + 1) #[.int .i64 0, .slice none 0 0] 29 ∧ Below w.heap.size w W) := by
    rw [hW]
    refine ⟨((K.out.alloc _).alloc _).alloc _, ((Boxed.new w _ _).more _).more _, ?_, ?_, (((Below.refl _ _).alloc (Nat.le_refl _) _).alloc (by simp) _).alloc (by simp; omega) _⟩
    · have := (Boxed.new (w.alloc (.cells #[.int .i64 f, .slice a n c] 29)) #[.int .i64 i.time, .int .i64 i.id] 33).more (.cells #[.int .i64 0, .slice none 0 0] 29)
      simpa using this
    · have := Boxed.new ((w.alloc (.cells #[.int .i64 f, .slice a n c] 29)).alloc (.cells #[.int .i64 i.time, .int .i64 i.id] 33)) #[.int .i64 0, .slice none 0 0] 29
      simpa using this
  have HW : Hid (W = _) := hW
  clear hW
  go_enter Tryz.func17, Tryz.ntmps17
  go_wp2_with fail
  rw [← HW.out]
  refine (A1'.out _ X.out.1).mono ?_
  rintro e w1 ⟨rfl, q⟩
  have X1 : Hid (DzAt w1 a ls ∧ Boxed w1 w.heap.size #[.int .i64 f, .slice a n c] 29 ∧ Boxed w1 (w.heap.size + 1) #[.int .i64 i.time, .int .i64 i.id] 33 ∧ Boxed w1 (w.heap.size + 1 + 1) #[.int .i64 0, .slice none 0 0] 29 ∧ Below w.heap.size w w1) :=
    ⟨X.out.1.below q, X.out.2.1.below X.out.2.1.under q, X.out.2.2.1.below X.out.2.2.1.under q, X.out.2.2.2.1.below X.out.2.2.2.1.under q, X.out.2.2.2.2.trans (q.mono X.out.2.2.2.2.size)⟩
  clear q X A1' HW
  cases ok
  · have e1 : pb = false := by rw [Hb.out]; rfl
    have e2 : pr = ⟨0, []⟩ := by rw [Hp.out]; rfl
    subst e1
    subst e2
    go_wp2_with (refine wpList_store_row rfl 29 (.tmp 4) (.tmp 10) rfl (w.heap.size + 1 + 1) #[.int .i64 0, .slice none 0 0] rfl rfl _ _ X1.out.2.2.2.1 (by kernel_rfl) rfl (by simp [Value.oneCell']) ?_)
    refine bodyPost_ret (results_row_tmp Tryz.results17 _ _ (w.heap.size + 1 + 1) _ #[.int .i64 0, .slice none 0 0] _ _ (.bool false) rfl rfl (setRow_heap w1 (w.heap.size + 1 + 1) _ _ _ _ X1.out.2.2.2.1) Tryz.underlying29 rfl (by kernel_rfl)) rfl ⟨⟨_, rfl, none, 0, rfl, dzIn_nil _ _ _⟩, below_setRow X1.out.2.2.2.2 (by omega) _⟩
  have c0 : w1.cell? ⟨w.heap.size, 0, none⟩ = some (.int .i64 f) := X1.out.2.1.cell 0 rfl
  have c1 : w1.cell? ⟨w.heap.size, 1, none⟩ = some (.slice a n c) := X1.out.2.1.cell 1 rfl
  go_wp2_with fail
  refine (A2'.out _ X1.out.1).mono ?_
  rintro e w2 ⟨⟨v2, vs, rfl, g2⟩, q⟩
  obtain ⟨vx, vc, ev⟩ := rows_shape g2.outer
  rw [Hn.out] at ev
  subst ev
  have X2 : Hid (PuW w f a n c i w2.heap.size (w1.heap.size + 3) vx vc vs ls (w2.alloc (.cells #[.int .i64 f, .slice vx n vc] 29))) := by
    have s1 := X1.out.2.2.2.1.under
    have s2 := q.size
    refine ⟨(X1.out.2.1.below X1.out.2.1.under q).more _, (X1.out.2.2.1.below X1.out.2.2.1.under q).more _, (X1.out.2.2.2.1.below X1.out.2.2.2.1.under q).more _, Boxed.new _ _ _, g2.below ((Below.refl _ _).alloc (Nat.le_refl _) _), ?_, by omega, by omega⟩
    have b := X1.out.2.2.2.2.trans (q.mono X1.out.2.2.2.2.size)
    exact b.alloc b.size _
  clear q g2 X1 c0 c1 A2'
  go_upto_region 4 with fail
  generalize w2.alloc (.cells #[.int .i64 f, .slice vx n vc] 29) = w3 at X2 ⊢
  generalize w2.heap.size = B at X2 ⊢
  generalize w1.heap.size + 3 = G at X2
  have e1 : pb = mp := by rw [Hb.out]; rfl
  subst e1
  obtain ⟨⟨f1, f2⟩, e8, H60⟩ := Hok.out (by first | exact trivial | exact rfl)
  subst e8
  have hjl : j < ls.length := by rw [Hn.out]; exact hj8
  obtain ⟨b, off, al, cl, ha, hb, hc, hrow, -, -⟩ := (K.out.below X2.out.bel) j hjl
  subst ha
  have hm60 := H60 j hj8
  go_cut [34] (fun s wc => Hid (s = .bool (!pb) ∧ PuW w f (some ⟨b, off, none⟩) 8 c i B G vx vc vs ls wc))
  case first =>
    have Go : Hid (∀ wq, Below w3.heap.size w3 wq → PuW w f (some ⟨b, off, none⟩) 8 c i B G vx vc vs ls wq) := fun wq q => X2.out.below q
    haveI : Nonempty (BelW w3.heap.size w3) := ⟨⟨w3, Below.refl _ _⟩⟩
    have c0 : ∀ p : BelW w3.heap.size w3, p.w'.cell? ⟨w.heap.size, 0, none⟩ = some (.int .i64 f) := fun p => (Go.out _ p.h).box.cell 0 rfl
    have c1 : ∀ p : BelW w3.heap.size w3, p.w'.cell? ⟨w.heap.size, 1, none⟩ = some (.slice (some ⟨b, off, none⟩) 8 c) := fun p => (Go.out _ p.h).box.cell 1 rfl
    have d0 : ∀ p : BelW w3.heap.size w3, p.w'.cell? ⟨w.heap.size + 1, 0, none⟩ = some (.int .i64 i.time) := fun p => (Go.out _ p.h).item.cell 0 rfl
    have d1 : ∀ p : BelW w3.heap.size w3, p.w'.cell? ⟨w.heap.size + 1, 1, none⟩ = some (.int .i64 i.id) := fun p => (Go.out _ p.h).item.cell 1 rfl
    have g0 : ∀ p : BelW w3.heap.size w3, p.w'.cell? ⟨b, off + j, none⟩ = some (.slice al (dzAt ls j).length cl) := fun p => by rw [p.h.cell (p := ⟨b, off + j, none⟩) hb]; exact hc
    have At : Hid (∀ p : BelW w3.heap.size w3, Hid (DzAt p.w' (some ⟨b, off, none⟩) ls)) := fun p => K.out.below (Go.out _ p.h).bel
    have At2 : Hid (∀ p : BelW w3.heap.size w3, Hid (DusAt p.w' al (dzAt ls j))) := fun p => hrow.below p.h
    have A6' : Hid _ := fun w h => A4'.out al cl w (by omega) h
    clear X2 hrow hc A4'
    generalize (dzAt ls j).length = m at g0 A6' hm60
    have fz : ¬ f = 0 := by omega
    cases iok
    · have ep : pb = false := by rw [Hm.out]; rfl
      subst ep
      go_wp2_with fail
      refine region_below w3.heap.size (by kernel_rfl) (by kernel_rfl) ?_
      repeat (go_big_quiet_step ((first | (go_at_call 46; with_reducible refine quiet_below (Nat.le_refl _) (A3'.out _)) | (go_at_call 49; with_reducible refine quiet_below (Nat.le_refl _) (A6'.out _ (At2.out _))) | (go_at_call 50; with_reducible refine quiet_below (Nat.le_refl _) (A5'.out _ (At.out _))))))
      refine wpQuiet_nil ?_
      intro wq hx
      have GQ : Hid (PuW w f (some ⟨b, off, none⟩) 8 c i B G vx vc vs ls wq) := Go.out _ (BelW.out hx)
      clear hx
      go_wp2_with fail
      go_meet
      exact ⟨rfl, GQ.out⟩
    obtain ⟨xt0, xt1⟩ := Hioke.out (by first | exact trivial | exact rfl)
    obtain ⟨qd, hqd⟩ : ∃ qd, i.time / f = qd := ⟨_, rfl⟩
    have Sl2 := HSl.out
    rw [hqd] at Sl2
    have qd0 : 0 ≤ qd := by rw [← hqd]; exact Int.ediv_nonneg xt0 (by omega)
    have qd1 : qd ≤ i.time := by rw [← hqd]; exact Int.ediv_le_self _ xt0
    have t1 : Int.tdiv i.time f = qd := by rw [Int.tdiv_eq_ediv_of_nonneg xt0]; exact hqd
    have t2 : IntKind.i64.wrap qd = qd := by rw [IntKind.wrap_i64]; omega
    have t3 : Int.tmod qd 8 = (j : Int) := by rw [Int.tmod_eq_emod_of_nonneg qd0]; exact Sl2.symm
    have t4 : IntKind.i64.wrap (j : Int) = (j : Int) := by rw [IntKind.wrap_i64]; omega
    have hj8' : (j : Int) < 8 := by omega
    clear Sl2 hqd qd0 qd1 xt0 xt1
    cases has
    case true =>
      have ep : pb = false := by rw [Hm.out]; rfl
      subst ep
      go_wp2_with fail
      refine region_below w3.heap.size (by kernel_rfl) (by kernel_rfl) ?_
      repeat (go_big_quiet_step ((first | (go_at_call 46; with_reducible refine quiet_below (Nat.le_refl _) (A3'.out _)) | (go_at_call 49; with_reducible refine quiet_below (Nat.le_refl _) (A6'.out _ (At2.out _))) | (go_at_call 50; with_reducible refine quiet_below (Nat.le_refl _) (A5'.out _ (At.out _))))))
      refine wpQuiet_nil ?_
      intro wq hx
      have GQ : Hid (PuW w f (some ⟨b, off, none⟩) 8 c i B G vx vc vs ls wq) := Go.out _ (BelW.out hx)
      clear hx
      go_wp2_with fail
      go_meet
      exact ⟨rfl, GQ.out⟩
    by_cases h2 : cnt = 60
    · have ep : pb = false := by rw [Hm.out, decide_eq_true h2]; rfl
      subst ep
      subst h2
      go_wp2_with fail
      refine region_below w3.heap.size (by kernel_rfl) (by kernel_rfl) ?_
      repeat (go_big_quiet_step ((first | (go_at_call 46; with_reducible refine quiet_below (Nat.le_refl _) (A3'.out _)) | (go_at_call 49; with_reducible refine quiet_below (Nat.le_refl _) (A6'.out _ (At2.out _))) | (go_at_call 50; with_reducible refine quiet_below (Nat.le_refl _) (A5'.out _ (At.out _))))))
      refine wpQuiet_nil ?_
      intro wq hx
      have GQ : Hid (PuW w f (some ⟨b, off, none⟩) 8 c i B G vx vc vs ls wq) := Go.out _ (BelW.out hx)
      clear hx
      go_wp2_with fail
      go_meet
      exact ⟨rfl, GQ.out⟩
    · have ep : pb = true := by rw [Hm.out, decide_eq_false h2]; rfl
      subst ep
      have h2' : (cnt == 60) = false := by simpa using h2
      go_wp2_with fail
      refine region_below w3.heap.size (by kernel_rfl) (by kernel_rfl) ?_
      repeat (go_big_quiet_step ((first | (go_at_call 46; with_reducible refine quiet_below (Nat.le_refl _) (A3'.out _)) | (go_at_call 49; with_reducible refine quiet_below (Nat.le_refl _) (A6'.out _ (At2.out _))) | (go_at_call 50; with_reducible refine quiet_below (Nat.le_refl _) (A5'.out _ (At.out _))))))
      refine wpQuiet_nil ?_
      intro wq hx
      have GQ : Hid (PuW w f (some ⟨b, off, none⟩) 8 c i B G vx vc vs ls wq) := Go.out _ (BelW.out hx)
      clear hx
      go_wp2_with fail
      go_meet
      exact ⟨rfl, GQ.out⟩
  case rest =>
  obtain ⟨rfl, hP⟩ := hcut.out
  have X3 : Hid (PuW w f (some ⟨b, off, none⟩) 8 c i B G vx vc vs ls wc) := hP
  clear hcut hP X2 A3' A4' A5' hrow hc
  cases pb
  · have e2 : pr = ⟨f, ls⟩ := by rw [Hp.out]; rfl
    subst e2
    go_wp2_with (first | (refine wpList_load_row rfl 29 (.tmp 6) rfl B rfl _ _ _ _ X3.out.out Tryz.underlying29 rfl (by kernel_rfl) ?_) | (refine wpList_store_row rfl 29 (.tmp 4) (.tmp 35) rfl (w.heap.size + 1 + 1) _ rfl rfl _ _ X3.out.res (by kernel_rfl) rfl (by simp [Value.oneCell']) ?_))
    refine bodyPost_ret (results_row_tmp Tryz.results17 _ _ (w.heap.size + 1 + 1) _ #[.int .i64 f, .slice vx 8 vc] _ _ (.bool false) rfl rfl (setRow_heap wc (w.heap.size + 1 + 1) _ _ _ _ X3.out.res) Tryz.underlying29 rfl (by kernel_rfl)) rfl ⟨⟨_, rfl, (X3.out.done Hn.out).1⟩, (X3.out.done Hn.out).2⟩
  have hio : iok = true := by
    have := Hm.out.symm
    simp only [Bool.and_eq_true] at this
    exact this.1
  have e2 : pr = ⟨f, ls.set j (ins (dzAt ls j) i)⟩ := by rw [Hp.out]; rfl
  subst e2
  clear Hm Hp Hb
  obtain ⟨g, eg⟩ : ∃ g, vx = some ⟨g, 0, none⟩ := by
    rcases X3.out.g.outer.2 with ⟨e, e0⟩ | ⟨g, cap, cur, e, _⟩
    · rw [Hn.out] at e0; omega
    · injection e with e1; exact ⟨g, e1⟩
  subst eg
  have i0 : wc.cell? ⟨w.heap.size + 1, 0, none⟩ = some (.int .i64 i.time) := X3.out.item.cell 0 rfl
  have i1 : wc.cell? ⟨w.heap.size + 1, 1, none⟩ = some (.int .i64 i.id) := X3.out.item.cell 1 rfl
  have PW : Hid (WhV G B f g vc vs ls wc) := ⟨X3.out.out, X3.out.g, by have := X3.out.g.outer; have := World.ownsRow.lt this g rfl; omega⟩
  go_wp2_with fail
  refine (AI'.out G B g vc vs wc Hn.out H60 hio PW.out ⟨f1, f2⟩).mono ?_
  rintro e w6 ⟨rfl, vs', hv, q⟩
  have X6 : Hid (PuW w f (some ⟨b, off, none⟩) 8 c i B G (some ⟨g, 0, none⟩) vc vs' (ls.set j (ins (dzAt ls j) i)) w6) := by
    have lo := X3.out.lo
    exact ⟨X3.out.box.below (by omega) q, X3.out.item.below (by omega) q, X3.out.res.below (by omega) q, hv.box, hv.mem, X3.out.bel.trans (q.mono (by omega)), lo, X3.out.hi⟩
  clear hv q X3 AI' PW i0 i1
  have hl6 : (ls.set j (ins (dzAt ls j) i)).length = 8 := by rw [List.length_set]; exact Hn.out
  go_wp2_with (first | (refine wpList_load_row rfl 29 (.tmp 6) rfl B rfl _ _ _ _ X6.out.out Tryz.underlying29 rfl (by kernel_rfl) ?_) | (refine wpList_store_row rfl 29 (.tmp 4) (.tmp 38) rfl (w.heap.size + 1 + 1) _ rfl rfl _ _ X6.out.res (by kernel_rfl) rfl (by simp [Value.oneCell']) ?_))
  refine bodyPost_ret (results_row_tmp Tryz.results17 _ _ (w.heap.size + 1 + 1) _ #[.int .i64 f, .slice (some ⟨g, 0, none⟩) 8 vc] _ _ (.bool true) rfl rfl (setRow_heap w6 (w.heap.size + 1 + 1) _ _ _ _ X6.out.res) Tryz.underlying29 rfl (by kernel_rfl)) rfl ⟨⟨_, rfl, (X6.out.done hl6).1⟩, (X6.out.done hl6).2⟩
end Go.Proofs.YtkocbfikcjgigaaGreat
