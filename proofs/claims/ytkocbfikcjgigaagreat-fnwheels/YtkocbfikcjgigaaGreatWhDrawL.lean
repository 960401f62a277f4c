/-
  The model's drawing of a wheel. By the verifier, by program.
-/
import Derived.Test.YtkocbfikcjgigaaGreatM10WhDr
import Derived.Test.YtkocbfikcjgigaaGreatM11LikeWh
import Derived.Test.YtkocbfikcjgigaaGreatDuDrawL
import Derived.Test.YtkocbfikcjgigaaGreatDuWhere
import Derived.BigQuiet
import Derived.Deep.RegionLaw
namespace Go.Proofs.YtkocbfikcjgigaaGreat
open Go.RowKit

theorem sum_set {xs : List Nat} {j : Nat} (hj : j < xs.length) (v : Nat) : (xs.set j v).sum + xs[j] = xs.sum + v := by
  induction xs generalizing j with
  | nil => simp at hj
  | cons x xs ih =>
    cases j with
    | zero => simp; omega
    | succ j =>
      have := ih (j := j) (by simpa using hj)
      simp at this ⊢
      omega
theorem dzSum_all (ls : List (List Du)) : dzSum ls ls.length = (ls.map List.length).sum := by unfold dzSum; rw [List.take_length]
theorem dzSum_set {ls : List (List Du)} {j : Nat} (hj : j < ls.length) (x : Du) : dzSum (ls.set j (dzAt ls j ++ [x])) (ls.set j (dzAt ls j ++ [x])).length = dzSum ls ls.length + 1 := by
  rw [dzSum_all, dzSum_all, List.map_set]
  have := sum_set (xs := ls.map List.length) (j := j) (by simpa using hj) (dzAt ls j ++ [x]).length
  rw [List.getElem_map, List.length_append, List.length_singleton, dzAt_lt hj] at this
  rw [dzAt_lt hj, List.length_append, List.length_singleton]
  omega
theorem dzSum_made (n : Nat) : dzSum (List.replicate n ([] : List Du)) (List.replicate n ([] : List Du)).length = 0 := by
  rw [dzSum_all, List.map_replicate]
  simp
theorem dzMakeN (n : Nat) (hn : n ≤ 1000) (wx : World) : (Instr.makeSlice 27 (.int .i64 (n : Int)) (.int .i64 (n : Int))).run Tryz.prog wx = .ok (.slice (some ⟨wx.heap.size, 0, none⟩) n n) (wx.alloc (.cells (madeCells #[.slice none 0 0] (n * 1)) 24)) := by
  obtain ⟨i0, hi, hz0, hz1, hz2⟩ := info_parts dzInfo
  have := run_make (P := Tryz.prog) wx 27 24 i0 (.slice none 0 0) Tryz.underlying27 hi hz0 .i64 .i64 n n (by omega) (by omega) (by rw [hz2]; omega) (by omega)
  rw [this, hz1]; simp [Value.cells]


theorem toW_small (l : List Du) (step : Int) : dzSum (toW l step).slots (toW l step).slots.length ≤ 60 ∧ (toW l step).slots.length ≤ 8 := by
  unfold toW
  by_cases hb : toWB l step = true
  · rw [if_pos hb]
    unfold toWB at hb
    rw [Bool.and_eq_true] at hb
    have := (toWs_is (inB_true.1 hb.2) hb.1 l.length (Nat.le_refl _)).1
    rw [List.take_length] at this
    have h2 := Wh.ok_iff.1 this
    rw [h2.1.2]
    exact ⟨h2.2.1, Nat.le_refl _⟩
  · rw [if_neg hb]
    simp [dzSum]

set_option maxHeartbeats 12800000 in
set_option maxRecDepth 100000 in
theorem drawWheel {W : World} {bc : Nat} {a : Option Addr} {len cap : Nat} (hc : Hid (Code W a len)) (w : World) (cur : Hid (Cur W bc a len cap w)) :
    Calls Tryz.prog 29 #[.pointer (some ⟨bc, 0, none⟩)] w fun e w' => (∃ v r, e = .returned v ∧ WhIn w.heap.size w'.heap.size w' v r ∧ r.big ≤ 100) ∧ Cur W bc a len cap w' ∧ Keep bc w w' := by
  have hbc := cur.out.lt
  go_enter Tryz.func29, Tryz.ntmps29
  go_wp2_with fail
  refine (drawDues hc _ (cur.out.alloc _)).mono ?_
  rintro e w1 ⟨⟨v, l, rfl, r1, hl⟩, c1, k1⟩
  obtain ⟨oa, oc, ev⟩ := r1.shape
  subst ev
  have H1 : Hid (DuRow (w.alloc (.cells #[.int .i64 0, .slice none 0 0] 29)).heap.size w1 (.slice oa l.length oc) l ∧ Cur W bc a len cap w1 ∧ Keep bc (w.alloc (.cells #[.int .i64 0, .slice none 0 0] 29)) w1) := ⟨r1, c1, k1⟩
  clear r1 c1 k1
  go_wp2_with fail
  refine (drawBelow hc 6 (by omega) _ H1.out.2.1).mono ?_
  rintro e w2 ⟨⟨x, rfl, x0, x1⟩, c2, k2⟩
  have r2 : DuRow (w.alloc (.cells #[.int .i64 0, .slice none 0 0] 29)).heap.size w2 (.slice oa l.length oc) l := H1.out.1.carry fun k hk hlt => k2.block k (by have := (H1.out.1.lt k hk).1; simp at this; omega) hlt
  have H2 : Hid ((DusAt w2 oa l ∧ l.length ≤ oc) ∧ Cur W bc a len cap w2 ∧ Keep bc (w.alloc (.cells #[.int .i64 0, .slice none 0 0] 29)) w2) := ⟨⟨r2.at, r2.cap⟩, c2, H1.out.2.2.trans k2⟩
  clear r2 c2 k2 H1
  have CT := fun w h => specToWheelG oa oc l (1 + x) w (by omega) H2.out.1.2 h
  have Hsm : Hid _ := toW_small l (1 + x)
  generalize toW l (1 + x) = r at CT Hsm
  generalize toWB l (1 + x) = rb at CT
  obtain ⟨lm, hlm⟩ : ∃ m, l.length = m := ⟨_, rfl⟩
  rw [hlm] at CT ⊢
  have CT' : Hid _ := CT
  clear CT hl hlm
  have hs : w.heap.size < w2.heap.size := by have := H2.out.2.2.size; simp at *; omega
  go_wp2_with fail
  refine (CT'.out _ H2.out.1.1).mono ?_
  rintro e w3 ⟨⟨v', rfl, hG⟩, q⟩
  obtain ⟨vx, vc, vs, rfl, hG⟩ := hG
  obtain ⟨f, ls⟩ := r
  simp only [Wh.val] at hG Hsm ⊢
  obtain ⟨n, hn⟩ : ∃ n, ls.length = n := ⟨_, rfl⟩
  have X : Hid (DrH W bc a len cap w w3.heap.size f n vx vc vs ls (w3.alloc (.cells #[.int .i64 f, .slice vx n vc] 29)) ∧ (dzSum ls ls.length ≤ 60 ∧ n ≤ 8)) := by
    have b4 : Below w2.heap.size w2 (w3.alloc (.cells #[.int .i64 f, .slice vx n vc] 29)) := q.alloc q.size _
    have kk := H2.out.2.2
    have hg3 : DzG (w2.heap.size + 1) (.slice vx n vc) vs ls (w3.alloc (.cells #[.int .i64 f, .slice vx n vc] 29)) := by
      have := hG.below ((Below.refl w3.heap.size w3).alloc (Nat.le_refl _) (.cells #[.int .i64 f, .slice vx n vc] 29))
      rw [hn] at this
      exact this
    refine ⟨⟨H2.out.2.1.below H2.out.2.1.lt b4, ?_, ?_, Boxed.new _ _ _, ?_, hn, by have := q.size; omega, hbc⟩, Hsm.out.1, by have := Hsm.out.2; omega⟩
    · have k4 : Keep bc w w2 := ((Keep.refl _ w).alloc _).trans kk
      exact ⟨Nat.le_trans k4.size b4.size, fun k k1 k2 => (b4.block k (Nat.lt_of_lt_of_le k2 k4.size)).trans (k4.block k k1 k2)⟩
    · exact ((Boxed.new w #[.int .i64 0, .slice none 0 0] 29).keep (by omega) kk).below hs b4
    · refine ⟨⟨hg3.outer.1, hg3.outer.2.imp id ?_⟩, hg3.len, fun i hi => (hg3.row i hi).mono (by omega), hg3.apart⟩
      rintro ⟨g0, c0, cur0, e1, e2, e3⟩
      exact ⟨g0, c0, cur0, e1, by omega, e3⟩
  rw [hn]
  clear hn hG q H2 CT' Hsm hs x0 x1
  go_wp2_with fail
  generalize w3.alloc (.cells #[.int .i64 f, .slice vx n vc] 29) = w4 at X ⊢
  generalize w3.heap.size = B at X ⊢
  refine (drawOnce hc 14 (by omega) _ X.out.1.cur).mono ?_
  rintro e w9 ⟨⟨bo, rfl⟩, c9, k9⟩
  have X9 : Hid (DrH W bc a len cap w B f n vx vc vs ls w9 ∧ (dzSum ls ls.length ≤ 60 ∧ n ≤ 8)) := ⟨X.out.1.draw c9 k9, X.out.2⟩
  clear c9 k9 X
  cases bo
  · go_wp2_with (first | (refine wpList_load_row rfl 29 (.tmp 3) rfl B rfl _ _ _ _ X9.out.1.out Tryz.underlying29 rfl (by kernel_rfl) ?_) | (refine wpList_store_row rfl 29 (.tmp 2) (.tmp 53) rfl w.heap.size _ rfl rfl _ _ X9.out.1.res (by kernel_rfl) rfl (by simp [Value.oneCell']) ?_))
    exact bodyPost_ret (results_cell_row Tryz.results29 _ _ w.heap.size _ _ _ _ rfl (setRow_heap _ w.heap.size _ _ _ _ X9.out.1.res) Tryz.underlying29 rfl (by kernel_rfl)) rfl ⟨⟨_, _, rfl, X9.out.1.done.1, by unfold Wh.big; have := X9.out.1.hn; have := X9.out.2; simp only; omega⟩, X9.out.1.done.2⟩
  go_wp2_with fail
  refine (drawBelow hc 3 (by omega) _ X9.out.1.cur).mono ?_
  rintro e wa ⟨⟨q, rfl, qq0, qq1⟩, ca, ka⟩
  have XA : Hid (DrH W bc a len cap w B f n vx vc vs ls wa ∧ (dzSum ls ls.length ≤ 60 ∧ n ≤ 8)) := ⟨X9.out.1.draw ca ka, X9.out.2⟩
  clear ca ka X9
  have hq : q = 0 ∨ q = 1 ∨ q = 2 := by omega
  clear qq0 qq1
  rcases hq with rfl | rfl | rfl
  · go_upto_region 5 with fail
    go_wp2_with fail
    refine region_lists (G := Unit) (by kernel_rfl) (by kernel_rfl) (by kernel_rfl) (fun i => if i = 3 then 6 else if i = 6 then 7 else 99) (fun (L : Nat → Bool) (_ : Unit) (x : World) => L 9 = false → DrH W bc a len cap w B f n vx vc vs ls x) (fun i _ x _ x' => i ≠ 9 → Keep bc x x') (fun i y x u => ([fun _ _ u => u = (.pointer (some ⟨B, 0, none⟩)), fun _ _ u => u = .int .i64 f, fun _ _ u => ∃ z : Int, u = .int .i64 z, fun _ x u => ∃ g, u = .slice (some ⟨g, 0, none⟩) 4 4 ∧ g ≠ bc ∧ TabAt x g 4, fun _ _ u => u = (.pointer (some ⟨bc, 0, none⟩)), fun _ _ u => ∃ k : Nat, u = .int .i64 (k : Int) ∧ k < 4, fun _ x u => ∃ g k, u = .pointer (some ⟨g, k, none⟩) ∧ k < 4 ∧ g ≠ bc ∧ TabAt x g 4, fun _ _ u => ∃ z : Int, u = .int .i64 z, fun _ _ u => u = (.pointer (some ⟨B, 0, none⟩)), fun _ x _ => ∃ z : Int, DrH W bc a len cap w B z n vx vc vs ls x] : List (Unit → World → Value → Prop)).getD i (fun _ _ _ => True) y x u) ?hR () ?h0 ?step ?last
    case hR =>
      intro i j y y' x x' u hi hj hne hu h1 h2 hp hr
      have hi' : i < 10 := hi
      have hj' : j < 10 := hj
      have hcases : j = 0 ∨ j = 1 ∨ j = 2 ∨ j = 3 ∨ j = 4 ∨ j = 5 ∨ j = 6 ∨ j = 7 ∨ j = 8 ∨ j = 9 := by omega
      rcases hcases with rfl | rfl | rfl | rfl | rfl | rfl | rfl | rfl | rfl | rfl
      · exact hp
      · exact hp
      · exact hp
      · obtain ⟨g, e, hg, ht⟩ := hp
        have n9 : i ≠ 9 := by rintro rfl; exact absurd h2 (by decide +kernel)
        exact ⟨g, e, hg, ht.keep hg (hr n9)⟩
      · exact hp
      · exact hp
      · obtain ⟨g, k, e, hk, hg, ht⟩ := hp
        have n9 : i ≠ 9 := by rintro rfl; exact absurd h2 (by decide +kernel)
        exact ⟨g, k, e, hk, hg, ht.keep hg (hr n9)⟩
      · exact hp
      · exact hp
      · exfalso
        have hcase : i = 0 ∨ i = 1 ∨ i = 2 ∨ i = 3 ∨ i = 4 ∨ i = 5 ∨ i = 6 ∨ i = 7 ∨ i = 8 := by omega
        rcases hcase with rfl | rfl | rfl | rfl | rfl | rfl | rfl | rfl | rfl
        all_goals exact absurd h1 (by decide +kernel)
    case h0 => exact fun _ => XA.out.1.below (Below.refl _ _).drew
    case step =>
      intro i o hi ho L a' y x hLi hwt hre hkp hI hp
      have s0 : a'.tmps[0]?.getD undef = (.pointer (some ⟨bc, 0, none⟩)) := by have h2 : a'.tmps.getD 0 undef = (.pointer (some ⟨bc, 0, none⟩)) := hkp.slot 0 (by kernel_rfl); simpa using h2
      have s3 : a'.tmps[3]?.getD undef = (.pointer (some ⟨B, 0, none⟩)) := by have h2 : a'.tmps.getD 3 undef = (.pointer (some ⟨B, 0, none⟩)) := hkp.slot 3 (by kernel_rfl); simpa using h2
      have hi' : i < 10 := hi
      have hcases : i = 0 ∨ i = 1 ∨ i = 2 ∨ i = 3 ∨ i = 4 ∨ i = 5 ∨ i = 6 ∨ i = 7 ∨ i = 8 ∨ i = 9 := by omega
      rcases hcases with rfl | rfl | rfl | rfl | rfl | rfl | rfl | rfl | rfl | rfl
      · cases ho
        refine ⟨wanted_none rfl, Oper.wp_mono (K := fun a'' w'' => a'' = a'.put (some 20) (.pointer (some ⟨B, 0, none⟩)) ∧ w'' = x) ?_ ?_⟩
        · rintro _ _ ⟨rfl, rfl⟩
          exact ⟨_, (), rfl, fun _ => Keep.refl _ _, fun h => hI (by have h' : (if (9 : Nat) = 0 then true else L 9) = false := h; simpa using h'), fun u hu => hu (fun h => by cases h)⟩
        · unfold Oper.wp
          simp [go_sem, s3]
      · cases ho
        have hB := hI (hre 9 (by decide +kernel))
        have e0 := hp 0 (of_decide_eq_true (by kernel_rfl)) (.inr (by decide))
        have q0 : a'.tmps[20]?.getD undef = (.pointer (some ⟨B, 0, none⟩)) := by have h2 : a'.tmps.getD 20 undef = (.pointer (some ⟨B, 0, none⟩)) := e0; simpa using h2
        have fc : x.cell? ⟨B, 0, none⟩ = some (.int .i64 f) := hB.out.cell 0 rfl
        refine ⟨wanted_none rfl, Oper.wp_mono (K := fun a'' w'' => a'' = a'.put (some 21) (.int .i64 f) ∧ w'' = x) ?_ ?_⟩
        · rintro _ _ ⟨rfl, rfl⟩
          exact ⟨_, (), rfl, fun _ => Keep.refl _ _, fun h => hI (by have h' : (if (9 : Nat) = 1 then true else L 9) = false := h; simpa using h'), fun u hu => hu (fun h => by cases h)⟩
        · unfold Oper.wp
          simp [go_sem, q0, fc]
      · cases ho
        have e1 := hp 1 (of_decide_eq_true (by kernel_rfl)) (.inr (by decide))
        have q1 : a'.tmps[21]?.getD undef = (.int .i64 f) := by have h2 : a'.tmps.getD 21 undef = (.int .i64 f) := e1; simpa using h2
        refine ⟨wanted_none rfl, Oper.wp_mono (K := fun a'' w'' => a'' = a'.put (some 22) (.int .i64 (IntKind.i64.wrap (f + 1))) ∧ w'' = x) ?_ ?_⟩
        · rintro _ _ ⟨rfl, rfl⟩
          exact ⟨_, (), rfl, fun _ => Keep.refl _ _, fun h => hI (by have h' : (if (9 : Nat) = 2 then true else L 9) = false := h; simpa using h'), fun u hu => ⟨_, hu (fun h => by cases h)⟩⟩
        · unfold Oper.wp
          simp [go_sem, q1]
      · cases ho
        have hB := hI (hre 9 (by decide +kernel))
        obtain ⟨z, e2⟩ := hp 2 (of_decide_eq_true (by kernel_rfl)) (.inr (by decide))
        have q2 : a'.tmps[22]?.getD undef = .int .i64 z := by have h2 : a'.tmps.getD 22 undef = .int .i64 z := e2; simpa using h2
        refine ⟨wanted_none rfl, Oper.wp_mono (K := fun a'' w'' => a'' = a'.put (some 23) (.slice (some ⟨x.heap.size, 0, none⟩) 4 4) ∧ w'' = x.alloc (.cells #[.int .i64 0, .int .i64 1000, .int .i64 1001, .int .i64 z] 2)) ?_ ?_⟩
        · rintro _ _ ⟨rfl, rfl⟩
          exact ⟨_, (), rfl, fun _ => (Keep.refl _ _).alloc _, fun _ => hB.below ((Below.refl _ _).alloc (Nat.le_refl _) _), fun u hu => ⟨x.heap.size, hu (fun h => by cases h), hB.cur.ne, TabAt.new x [0, 1000, 1001, z] 2⟩⟩
        · unfold Oper.wp
          simp [go_sem, q2]
      · cases ho
        refine ⟨wanted_none rfl, Oper.wp_mono (K := fun a'' w'' => a'' = a'.put (some 24) (.pointer (some ⟨bc, 0, none⟩)) ∧ w'' = x) ?_ ?_⟩
        · rintro _ _ ⟨rfl, rfl⟩
          exact ⟨_, (), rfl, fun _ => Keep.refl _ _, fun h => hI (by have h' : (if (9 : Nat) = 4 then true else L 9) = false := h; simpa using h'), fun u hu => hu (fun h => by cases h)⟩
        · unfold Oper.wp
          simp [go_sem, s0]
      · cases ho
        have hB := hI (hre 9 (by decide +kernel))
        have e4 := hp 4 (of_decide_eq_true (by kernel_rfl)) (.inr (by decide))
        have q4 : a'.tmps[24]?.getD undef = (.pointer (some ⟨bc, 0, none⟩)) := by have h2 : a'.tmps.getD 24 undef = (.pointer (some ⟨bc, 0, none⟩)) := e4; simpa using h2
        refine ⟨wanted_none rfl, op_callR (by simp [execOp, resolve, Deferred.ofValue, invoke, Act.eval, q4]) (drawBelow hc 4 (by omega) x hB.cur) ?_⟩
        rintro e z ⟨⟨v, rfl, v0, v1⟩, ci, ki⟩
        obtain ⟨k, rfl⟩ := Int.eq_ofNat_of_zero_le v0
        exact ⟨_, rfl, _, (), rfl, fun _ => ki, fun _ => hB.draw ci ki, fun u hu => ⟨k, hu (fun h => by cases h), by omega⟩⟩
      · cases ho
        obtain ⟨g, e3, hg, ht⟩ := hp 3 (of_decide_eq_true (by kernel_rfl)) (.inl rfl)
        obtain ⟨k, e5, hk⟩ := hp 5 (of_decide_eq_true (by kernel_rfl)) (.inr (by decide))
        have q3 : a'.tmps[23]?.getD undef = .slice (some ⟨g, 0, none⟩) 4 4 := by have h2 : a'.tmps.getD 23 undef = .slice (some ⟨g, 0, none⟩) 4 4 := e3; simpa using h2
        have q5 : a'.tmps[25]?.getD undef = .int .i64 (k : Int) := by have h2 : a'.tmps.getD 25 undef = .int .i64 (k : Int) := e5; simpa using h2
        refine ⟨wanted_none rfl, Oper.wp_mono (K := fun a'' w'' => a'' = a'.put (some 26) (.pointer (some ⟨g, k, none⟩)) ∧ w'' = x) ?_ ?_⟩
        · rintro _ _ ⟨rfl, rfl⟩
          exact ⟨_, (), rfl, fun _ => Keep.refl _ _, fun h => hI (by have h' : (if (9 : Nat) = 6 then true else L 9) = false := h; simpa using h'), fun u hu => ⟨g, k, hu (fun h => by cases h), hk, hg, ht⟩⟩
        · unfold Oper.wp
          simp [go_sem, q3, q5, show (k : Int) < 4 by omega]
      · cases ho
        obtain ⟨g, k, e6, hk, hg, ht⟩ := hp 6 (of_decide_eq_true (by kernel_rfl)) (.inl rfl)
        have q6 : a'.tmps[26]?.getD undef = .pointer (some ⟨g, k, none⟩) := by have h2 : a'.tmps.getD 26 undef = .pointer (some ⟨g, k, none⟩) := e6; simpa using h2
        obtain ⟨z, fc⟩ := ht.2 k hk
        refine ⟨wanted_none rfl, Oper.wp_mono (K := fun a'' w'' => a'' = a'.put (some 27) (.int .i64 z) ∧ w'' = x) ?_ ?_⟩
        · rintro _ _ ⟨rfl, rfl⟩
          exact ⟨_, (), rfl, fun _ => Keep.refl _ _, fun h => hI (by have h' : (if (9 : Nat) = 7 then true else L 9) = false := h; simpa using h'), fun u hu => ⟨z, hu (fun h => by cases h)⟩⟩
        · unfold Oper.wp
          simp [go_sem, q6, fc]
      · cases ho
        refine ⟨wanted_none rfl, Oper.wp_mono (K := fun a'' w'' => a'' = a'.put (some 28) (.pointer (some ⟨B, 0, none⟩)) ∧ w'' = x) ?_ ?_⟩
        · rintro _ _ ⟨rfl, rfl⟩
          exact ⟨_, (), rfl, fun _ => Keep.refl _ _, fun h => hI (by have h' : (if (9 : Nat) = 8 then true else L 9) = false := h; simpa using h'), fun u hu => hu (fun h => by cases h)⟩
        · unfold Oper.wp
          simp [go_sem, s3]
      · cases ho
        have hB := hI hLi
        obtain ⟨z, e7⟩ := hp 7 (of_decide_eq_true (by kernel_rfl)) (.inr (by decide))
        have e8 := hp 8 (of_decide_eq_true (by kernel_rfl)) (.inr (by decide))
        have q7 : a'.tmps[27]?.getD undef = .int .i64 z := by have h2 : a'.tmps.getD 27 undef = .int .i64 z := e7; simpa using h2
        have q8 : a'.tmps[28]?.getD undef = (.pointer (some ⟨B, 0, none⟩)) := by have h2 : a'.tmps.getD 28 undef = (.pointer (some ⟨B, 0, none⟩)) := e8; simpa using h2
        have fc : x.cell? ⟨B, 0, none⟩ = some (.int .i64 f) := hB.out.cell 0 rfl
        have fi := hB.out.ice 0
        refine ⟨wanted_none rfl, Oper.wp_mono (K := fun a'' w'' => a'' = a' ∧ w'' = x.setCell ⟨B, 0, none⟩ (.int .i64 z)) ?_ ?_⟩
        · rintro _ _ ⟨rfl, rfl⟩
          exact ⟨undef, (), rfl, fun h => absurd rfl h, (fun h => by simp at h), fun _ _ => ⟨z, hB.step⟩⟩
        · unfold Oper.wp
          simp [go_sem, q7, q8, fc, fi]
    case last =>
    intro L a' y x hall hkp hI hp
    obtain ⟨z, R3⟩ := hp 9 (by decide) (by decide)
    have HF : Hid (DrH W bc a len cap w B z n vx vc vs ls x ∧ (dzSum ls ls.length ≤ 60 ∧ n ≤ 8)) := ⟨R3, XA.out.2⟩
    have ha := hkp.pick [true, true, true, true, true, true, true, true, true, true, true, true, true, true, true, true, true, true, true, true, false, false, false, false, false, false, false, false, false, true, true, true, true, true, true, true, true, true, true, true, true, true, true, true, true, true, true, true, true, true, true, true, true, true] (by kernel_rfl)
    simp only [pickS] at ha
    clear hp hkp hI hall R3 XA
    generalize a'.tmps.getD 20 undef = y20 at ha
    generalize a'.tmps.getD 21 undef = y21 at ha
    generalize a'.tmps.getD 22 undef = y22 at ha
    generalize a'.tmps.getD 23 undef = y23 at ha
    generalize a'.tmps.getD 24 undef = y24 at ha
    generalize a'.tmps.getD 25 undef = y25 at ha
    generalize a'.tmps.getD 26 undef = y26 at ha
    generalize a'.tmps.getD 27 undef = y27 at ha
    generalize a'.tmps.getD 28 undef = y28 at ha
    rw [ha]
    clear ha
    go_wp2_with (first | (refine wpList_load_row rfl 29 (.tmp 3) rfl B rfl _ _ _ _ HF.out.1.out Tryz.underlying29 rfl (by kernel_rfl) ?_) | (refine wpList_store_row rfl 29 (.tmp 2) (.tmp 53) rfl w.heap.size _ rfl rfl _ _ HF.out.1.res (by kernel_rfl) rfl (by simp [Value.oneCell']) ?_))
    exact bodyPost_ret (results_cell_row Tryz.results29 _ _ w.heap.size _ _ _ _ rfl (setRow_heap _ w.heap.size _ _ _ _ HF.out.1.res) Tryz.underlying29 rfl (by kernel_rfl)) rfl ⟨⟨_, _, rfl, HF.out.1.done.1, by unfold Wh.big; have := HF.out.1.hn; have := HF.out.2; simp only; omega⟩, HF.out.1.done.2⟩
  · by_cases hn0 : n = 0
    · subst hn0
      have c1 : wa.cell? ⟨B, 1, none⟩ = some (.slice vx 0 vc) := XA.out.1.out.cell 1 rfl
      go_upto_region 11 with fail
      clear c1
      go_wp2_with (first | (refine wpList_load_row rfl 29 (.tmp 3) rfl B rfl _ _ _ _ XA.out.1.out Tryz.underlying29 rfl (by kernel_rfl) ?_) | (refine wpList_store_row rfl 29 (.tmp 2) (.tmp 53) rfl w.heap.size _ rfl rfl _ _ XA.out.1.res (by kernel_rfl) rfl (by simp [Value.oneCell']) ?_))
      exact bodyPost_ret (results_cell_row Tryz.results29 _ _ w.heap.size _ _ _ _ rfl (setRow_heap _ w.heap.size _ _ _ _ XA.out.1.res) Tryz.underlying29 rfl (by kernel_rfl)) rfl ⟨⟨_, _, rfl, XA.out.1.done.1, by unfold Wh.big; have := XA.out.1.hn; have := XA.out.2; simp only; omega⟩, XA.out.1.done.2⟩
    have hl0 : 0 < ls.length := by rw [XA.out.1.hn]; omega
    have hn1 : (0 : Int) < (n : Int) := by omega
    obtain ⟨g, ev⟩ : ∃ g, vx = some ⟨g, 0, none⟩ := by
      rcases XA.out.1.g.outer.2 with ⟨e, _⟩ | ⟨g, cap', cur', e, _⟩
      · have h1 := XA.out.1.hn
        injection e with e1 e2 e3
        omega
      · injection e with e1 e2 e3
        exact ⟨g, e1⟩
    subst ev
    have c1 : wa.cell? ⟨B, 1, none⟩ = some (.slice (some ⟨g, 0, none⟩) n vc) := XA.out.1.out.cell 1 rfl
    go_upto_region 8 with fail
    clear c1
    obtain ⟨ux, uc, eu⟩ := (XA.out.1.g.row 0 hl0).shape
    have Prep : Hid (∀ w8, DrH W bc a len cap w B f n (some ⟨g, 0, none⟩) vc vs ls w8 → DuRow (w.heap.size + 1) w8 (dzV vs 0) (dzAt ls 0) ∧ w8.cell? ⟨g, 0, none⟩ = some (dzV vs 0) ∧ w8.frozen? ⟨g, 0, none⟩ = false ∧ w8.cell? ⟨B, 1, none⟩ = some (.slice (some ⟨g, 0, none⟩) n vc) ∧ g < w8.heap.size ∧ B < w8.heap.size ∧ w.heap.size + 1 ≤ w8.heap.size ∧ ∀ i u w2, DuRow (w.heap.size + 1) w2 u (dzAt ls 0 ++ [i]) → Below (w.heap.size + 1) w8 w2 → (∀ k, (dzV vs 0).ownBlock ≠ some k → k < w8.heap.size → w2.heap[k]? = w8.heap[k]?) → (∀ k, u.ownBlock = some k → (dzV vs 0).ownBlock = some k ∨ w8.heap.size ≤ k) → (∃ vs' ls', DrH W bc a len cap w B f n (some ⟨g, 0, none⟩) vc vs' ls' (w2.setCell ⟨g, 0, none⟩ u) ∧ (dzSum ls' ls'.length ≤ 61 ∧ n ≤ 8)) ∧ w2.heap[g]? = w8.heap[g]? ∧ w2.heap[B]? = w8.heap[B]?) := fun w8 h8 => by
      have hout : w8.ownsRow (w.heap.size + 1) 24 1 (.slice (some ⟨g, 0, none⟩) n vc) n vs := by
        have h1 := h8.g.outer
        rw [h8.hn] at h1
        exact h1
      have hgl := (World.ownsRow.lt h8.g.outer g rfl).2
      have hrow := h8.g.row 0 hl0
      have hBl := h8.out.under
      have hlt := h8.lt
      refine ⟨hrow, ?_, hout.frozenAt 0, h8.out.cell 1 rfl, hgl, hBl, by omega, fun i u w2 q1 q2 q3 q4 => ⟨⟨_, _, h8.set hl0 q1 q2 q3 q4, by rw [dzSum_set hl0]; have := XA.out.2; omega, XA.out.2.2⟩, q3 g (fun e => rows_unlike h8.g.outer hrow dzTypes g rfl e) hgl, q3 B (h8.apart.2 0 hl0) hBl⟩⟩
      have hl := h8.g.len
      rw [hout.cellAt 0 (by omega)]
      unfold dzV
      rw [List.getElem?_eq_getElem (by omega)]
      rfl
    have hl9 : (dzAt ls 0).length ≤ 1048576 := by
      have h1 := dzSum_one hl0
      have h2 := XA.out.2.1
      omega
    rw [eu] at Prep
    generalize dzAt ls 0 = l at Prep hl9
    obtain ⟨m, hml⟩ : ∃ m, l.length = m := ⟨_, rfl⟩
    rw [hml] at Prep hl9
    have Hml : Hid (l.length = m) := hml
    have DrA : Hid (DrH W bc a len cap w B f n (some ⟨g, 0, none⟩) vc vs ls wa) := XA.out.1
    clear eu hml hl0 XA
    have hn1 : (0 : Int) < (n : Int) := by omega
    have hn2 : 0 < n := by omega
    have Rd : ∀ (L : Nat → Bool) (y : Value) (x : World), (fun (L : Nat → Bool) (y : Value) (x : World) => (L 11 = true → ∃ vs' ls', DrH W bc a len cap w B f n (some ⟨g, 0, none⟩) vc vs' ls' x ∧ (dzSum ls' ls'.length ≤ 61 ∧ n ≤ 8)) ∧ (L 9 = true → L 11 = false → ∃ i x0, DrH W bc a len cap w B f n (some ⟨g, 0, none⟩) vc vs ls x0 ∧ DuRow (w.heap.size + 1) x y (l ++ [i]) ∧ Below (w.heap.size + 1) x0 x ∧ (∀ k, (Value.slice ux m uc).ownBlock ≠ some k → k < x0.heap.size → x.heap[k]? = x0.heap[k]?) ∧ (∀ k, y.ownBlock = some k → (Value.slice ux m uc).ownBlock = some k ∨ x0.heap.size ≤ k)) ∧ (L 9 = false → DrH W bc a len cap w B f n (some ⟨g, 0, none⟩) vc vs ls x)) L y x → L 11 = false → x.cell? ⟨B, 1, none⟩ = some (.slice (some ⟨g, 0, none⟩) n vc) := by
      intro L y x hI h11
      cases h9 : L 9 with
      | false => exact (Prep.out _ (hI.2.2 h9)).2.2.2.1
      | true =>
        obtain ⟨i, x0, h0, h1, h2, h3, h4⟩ := hI.2.1 h9 h11
        have q := Prep.out _ h0
        have q2 := (q.2.2.2.2.2.2.2 i y x h1 h2 h3 h4).2.2
        rw [cell_kept q2]
        exact q.2.2.2.1
    go_wp2_with fail
    refine region_lists (G := Value) (by kernel_rfl) (by kernel_rfl) (by kernel_rfl) (fun j => if j = 8 then 9 else 99) (fun (L : Nat → Bool) (y : Value) (x : World) => (L 11 = true → ∃ vs' ls', DrH W bc a len cap w B f n (some ⟨g, 0, none⟩) vc vs' ls' x ∧ (dzSum ls' ls'.length ≤ 61 ∧ n ≤ 8)) ∧ (L 9 = true → L 11 = false → ∃ i x0, DrH W bc a len cap w B f n (some ⟨g, 0, none⟩) vc vs ls x0 ∧ DuRow (w.heap.size + 1) x y (l ++ [i]) ∧ Below (w.heap.size + 1) x0 x ∧ (∀ k, (Value.slice ux m uc).ownBlock ≠ some k → k < x0.heap.size → x.heap[k]? = x0.heap[k]?) ∧ (∀ k, y.ownBlock = some k → (Value.slice ux m uc).ownBlock = some k ∨ x0.heap.size ≤ k)) ∧ (L 9 = false → DrH W bc a len cap w B f n (some ⟨g, 0, none⟩) vc vs ls x)) (fun i y x y' x' => (i ≠ 7 → i ≠ 9 → i ≠ 11 → Below x.heap.size x x') ∧ (i ≠ 9 → y' = y)) (fun i y x v => ([fun _ _ v => v = .pointer (some ⟨B, 1, none⟩), fun _ _ v => v = .slice (some ⟨g, 0, none⟩) n vc, fun _ _ v => v = .pointer (some ⟨B, 1, none⟩), fun _ _ v => v = .slice (some ⟨g, 0, none⟩) n vc, fun _ _ v => v = .pointer (some ⟨g, 0, none⟩), fun _ _ v => v = .slice ux m uc, fun _ _ v => v = .pointer (some ⟨bc, 0, none⟩), fun _ _ v => ∃ i : Du, v = i.val, fun _ x v => ∃ (n8 : Nat) (i : Du), v = .slice (some ⟨n8, 0, none⟩) 1 1 ∧ Boxed x n8 #[.int .i64 i.time, .int .i64 i.id] 33, fun y _ v => v = y ∧ ∃ uy ud, y = .slice uy (m + 1) ud, fun _ _ v => v = .pointer (some ⟨g, 0, none⟩), fun _ _ _ => True] : List (Value → World → Value → Prop)).getD i (fun _ _ _ => True) y x v) ?hR undef ?h0 ?step ?last
    case hR =>
      intro i j y y' x x' v hi hj hne hu h1 h2 hp hr
      have hj' : j < 12 := hj
      have hcases : j = 0 ∨ j = 1 ∨ j = 2 ∨ j = 3 ∨ j = 4 ∨ j = 5 ∨ j = 6 ∨ j = 7 ∨ j = 8 ∨ j = 9 ∨ j = 10 ∨ j = 11 := by omega
      rcases hcases with rfl | rfl | rfl | rfl | rfl | rfl | rfl | rfl | rfl | rfl | rfl | rfl
      · exact hp
      · exact hp
      · exact hp
      · exact hp
      · exact hp
      · exact hp
      · exact hp
      · exact hp
      · obtain ⟨n8, i8, e, hb8⟩ := hp
        have n7 : i ≠ 7 := by rintro rfl; exact absurd (Eq.trans (by kernel_rfl) h1 : true = false) (by decide)
        have n9 : i ≠ 9 := fun e => hu e.symm
        have n11 : i ≠ 11 := by rintro rfl; exact absurd (Eq.trans (by kernel_rfl) h2 : true = false) (by decide)
        exact ⟨n8, i8, e, hb8.below hb8.under (hr.1 n7 n9 n11)⟩
      · have e := hr.2 (fun e => hne e)
        show v = y' ∧ _
        rw [e]
        exact hp
      · exact hp
      · exact hp
    case h0 => exact ⟨(fun h => by cases h), (fun h => by cases h), fun _ => DrA.out.below (Below.refl _ _).drew⟩
    case step =>
      intro i o hi ho L a' y x hLi hwt hre hkp hI hp
      have s0 : a'.tmps.getD 0 undef = .pointer (some ⟨bc, 0, none⟩) := hkp.slot 0 (by kernel_rfl)
      have s3 : a'.tmps[3]?.getD undef = .pointer (some ⟨B, 0, none⟩) := by have h2 : a'.tmps.getD 3 undef = .pointer (some ⟨B, 0, none⟩) := hkp.slot 3 (by kernel_rfl); simpa using h2
      have hi' : i < 12 := hi
      have hcases : i = 0 ∨ i = 1 ∨ i = 2 ∨ i = 3 ∨ i = 4 ∨ i = 5 ∨ i = 6 ∨ i = 7 ∨ i = 8 ∨ i = 9 ∨ i = 10 ∨ i = 11 := by omega
      rcases hcases with rfl | rfl | rfl | rfl | rfl | rfl | rfl | rfl | rfl | rfl | rfl | rfl
      · cases ho
        refine ⟨wanted_none rfl, Oper.wp_mono (K := fun a'' w'' => a'' = a'.put (some 35) (.pointer (some ⟨B, 1, none⟩)) ∧ w'' = x) ?_ ?_⟩
        · rintro _ _ ⟨rfl, rfl⟩
          exact ⟨_, y, rfl, ⟨fun _ _ _ => Below.refl _ _, fun _ => rfl⟩, hI, fun u hu => hu (fun h => by cases h)⟩
        · unfold Oper.wp
          simp [go_sem, s3]
      · cases ho
        have q0 : a'.tmps[35]?.getD undef = .pointer (some ⟨B, 1, none⟩) := by have h := hp 0 (of_decide_eq_true (by kernel_rfl)) (.inr (by decide)); have h2 : a'.tmps.getD 35 undef = .pointer (some ⟨B, 1, none⟩) := h; simpa using h2
        have hrd : x.cell? ⟨B, 1, none⟩ = some (.slice (some ⟨g, 0, none⟩) n vc) := Rd L y x hI (hre 11 (by kernel_rfl))
        refine ⟨wanted_none rfl, Oper.wp_mono (K := fun a'' w'' => a'' = a'.put (some 36) (.slice (some ⟨g, 0, none⟩) n vc) ∧ w'' = x) ?_ ?_⟩
        · rintro _ _ ⟨rfl, rfl⟩
          exact ⟨_, y, rfl, ⟨fun _ _ _ => Below.refl _ _, fun _ => rfl⟩, hI, fun u hu => hu (fun h => by cases h)⟩
        · unfold Oper.wp
          simp [go_sem, q0, hrd]
      · cases ho
        refine ⟨wanted_none rfl, Oper.wp_mono (K := fun a'' w'' => a'' = a'.put (some 37) (.pointer (some ⟨B, 1, none⟩)) ∧ w'' = x) ?_ ?_⟩
        · rintro _ _ ⟨rfl, rfl⟩
          exact ⟨_, y, rfl, ⟨fun _ _ _ => Below.refl _ _, fun _ => rfl⟩, hI, fun u hu => hu (fun h => by cases h)⟩
        · unfold Oper.wp
          simp [go_sem, s3]
      · cases ho
        have q0 : a'.tmps[37]?.getD undef = .pointer (some ⟨B, 1, none⟩) := by have h := hp 2 (of_decide_eq_true (by kernel_rfl)) (.inr (by decide)); have h2 : a'.tmps.getD 37 undef = .pointer (some ⟨B, 1, none⟩) := h; simpa using h2
        have hrd : x.cell? ⟨B, 1, none⟩ = some (.slice (some ⟨g, 0, none⟩) n vc) := Rd L y x hI (hre 11 (by kernel_rfl))
        refine ⟨wanted_none rfl, Oper.wp_mono (K := fun a'' w'' => a'' = a'.put (some 38) (.slice (some ⟨g, 0, none⟩) n vc) ∧ w'' = x) ?_ ?_⟩
        · rintro _ _ ⟨rfl, rfl⟩
          exact ⟨_, y, rfl, ⟨fun _ _ _ => Below.refl _ _, fun _ => rfl⟩, hI, fun u hu => hu (fun h => by cases h)⟩
        · unfold Oper.wp
          simp [go_sem, q0, hrd]
      · cases ho
        have q0 : a'.tmps[38]?.getD undef = .slice (some ⟨g, 0, none⟩) n vc := by have h := hp 3 (of_decide_eq_true (by kernel_rfl)) (.inr (by decide)); have h2 : a'.tmps.getD 38 undef = .slice (some ⟨g, 0, none⟩) n vc := h; simpa using h2
        refine ⟨wanted_none rfl, Oper.wp_mono (K := fun a'' w'' => a'' = a'.put (some 39) (.pointer (some ⟨g, 0, none⟩)) ∧ w'' = x) ?_ ?_⟩
        · rintro _ _ ⟨rfl, rfl⟩
          exact ⟨_, y, rfl, ⟨fun _ _ _ => Below.refl _ _, fun _ => rfl⟩, hI, fun u hu => hu (fun h => by cases h)⟩
        · unfold Oper.wp
          simp [go_sem, q0, hn2]
      · cases ho
        have q0 : a'.tmps[39]?.getD undef = .pointer (some ⟨g, 0, none⟩) := by have h := hp 4 (of_decide_eq_true (by kernel_rfl)) (.inr (by decide)); have h2 : a'.tmps.getD 39 undef = .pointer (some ⟨g, 0, none⟩) := h; simpa using h2
        have hc5 : x.cell? ⟨g, 0, none⟩ = some (.slice ux m uc) := (Prep.out _ (hI.2.2 (hre 9 (by kernel_rfl)))).2.1
        refine ⟨wanted_none rfl, Oper.wp_mono (K := fun a'' w'' => a'' = a'.put (some 40) (.slice ux m uc) ∧ w'' = x) ?_ ?_⟩
        · rintro _ _ ⟨rfl, rfl⟩
          exact ⟨_, y, rfl, ⟨fun _ _ _ => Below.refl _ _, fun _ => rfl⟩, hI, fun u hu => hu (fun h => by cases h)⟩
        · unfold Oper.wp
          simp [go_sem, q0, hc5]
      · cases ho
        exact ⟨wanted_none rfl, op_move 0 rfl ⟨_, y, rfl, ⟨fun _ _ _ => Below.refl _ _, fun _ => rfl⟩, hI, fun u hu => (hu (fun h => by cases h)).trans s0⟩⟩
      · cases ho
        have q0 : a'.tmps[41]?.getD undef = .pointer (some ⟨bc, 0, none⟩) := by have h := hp 6 (of_decide_eq_true (by kernel_rfl)) (.inr (by decide)); have h2 : a'.tmps.getD 41 undef = .pointer (some ⟨bc, 0, none⟩) := h; simpa using h2
        have hD := hI.2.2 (hre 9 (by kernel_rfl))
        have n9 := hre 9 (by kernel_rfl)
        have n11 := hre 11 (by kernel_rfl)
        refine ⟨wanted_none rfl, op_callB (by simp [execOp, resolve, Deferred.ofValue, invoke, Act.eval, q0]) (drawDue hc x hD.cur) ?_⟩
        rintro e z ⟨⟨v, rfl, i, rfl⟩, ci, ki⟩
        exact ⟨_, rfl, _, y, rfl, ⟨fun h => absurd rfl h, fun _ => rfl⟩, ⟨fun h => absurd (h.symm.trans n11) (by decide), fun h => absurd (h.symm.trans n9) (by decide), fun _ => hD.draw ci ki⟩, fun u hu => ⟨i, hu (fun h => by cases h)⟩⟩
      · cases ho
        obtain ⟨it, e7⟩ := hp 7 (of_decide_eq_true (by kernel_rfl)) (.inr (by decide))
        obtain ⟨i0, i1⟩ := it
        have q0 : a'.tmps[42]?.getD undef = .agg #[.int .i64 i0, .int .i64 i1] := by have h2 : a'.tmps.getD 42 undef = .agg #[.int .i64 i0, .int .i64 i1] := e7; simpa using h2
        have hD := hI.2.2 (hre 9 (by kernel_rfl))
        have n9 := hre 9 (by kernel_rfl)
        have n11 := hre 11 (by kernel_rfl)
        refine ⟨wanted_none rfl, Oper.wp_mono (K := fun a'' w'' => a'' = a'.put (some 43) (.slice (some ⟨x.heap.size, 0, none⟩) 1 1) ∧ w'' = x.alloc (.cells #[.int .i64 i0, .int .i64 i1] 33)) ?_ ?_⟩
        · rintro _ _ ⟨rfl, rfl⟩
          exact ⟨_, y, rfl, ⟨fun _ _ _ => (Below.refl _ _).alloc (Nat.le_refl _) _, fun _ => rfl⟩, ⟨fun h => absurd (h.symm.trans n11) (by decide), fun h => absurd (h.symm.trans n9) (by decide), fun _ => hD.below ((Below.refl _ _).alloc (Nat.le_refl _) _)⟩, fun u hu => ⟨x.heap.size, ⟨i0, i1⟩, hu (fun h => by cases h), Boxed.new _ _ _⟩⟩
        · unfold Oper.wp
          simp [go_sem, q0]
      · cases ho
        have e5 : a'.tmps.getD 40 undef = .slice ux m uc := hp 5 (of_decide_eq_true (by kernel_rfl)) (.inr (by decide))
        obtain ⟨n8, it, e8, hb8⟩ := hp 8 (of_decide_eq_true (by kernel_rfl)) (.inl rfl)
        have e8 : a'.tmps.getD 43 undef = .slice (some ⟨n8, 0, none⟩) 1 1 := e8
        have hD := hI.2.2 hLi
        have n11 := hre 11 (by kernel_rfl)
        have q := Prep.out _ hD
        refine ⟨wanted_none rfl, du_op_where (.tmp 40) (.tmp 43) rfl (w.heap.size + 1) (.slice ux m uc) l it (by simpa [Act.eval] using e5) q.1 (by simpa [Act.eval] using e8) hb8 (by rw [Hml.out]; exact hl9) q.2.2.2.2.2.2.1 ?_⟩
        intro v' z q1 q2 q3 q4
        obtain ⟨uy, ud, eu⟩ := q1.shape
        rw [List.length_append, Hml.out] at eu
        exact ⟨_, v', rfl, ⟨fun _ h => absurd rfl h, fun h => absurd rfl h⟩, ⟨fun h => absurd (h.symm.trans n11) (by decide), fun _ _ => ⟨it, x, hD, q1, q2, q3, q4⟩, fun h => by cases h⟩, fun u hu => ⟨hu (fun h => by cases h), uy, ud, eu⟩⟩
      · cases ho
        have q0 : a'.tmps[36]?.getD undef = .slice (some ⟨g, 0, none⟩) n vc := by have h := hp 1 (of_decide_eq_true (by kernel_rfl)) (.inr (by decide)); have h2 : a'.tmps.getD 36 undef = .slice (some ⟨g, 0, none⟩) n vc := h; simpa using h2
        refine ⟨wanted_none rfl, Oper.wp_mono (K := fun a'' w'' => a'' = a'.put (some 45) (.pointer (some ⟨g, 0, none⟩)) ∧ w'' = x) ?_ ?_⟩
        · rintro _ _ ⟨rfl, rfl⟩
          exact ⟨_, y, rfl, ⟨fun _ _ _ => Below.refl _ _, fun _ => rfl⟩, hI, fun u hu => hu (fun h => by cases h)⟩
        · unfold Oper.wp
          simp [go_sem, q0, hn2]
      · cases ho
        obtain ⟨e9, uy, ud, ey⟩ := hp 9 (of_decide_eq_true (by kernel_rfl)) (.inr (by decide))
        have e9 : a'.tmps.getD 44 undef = y := e9
        subst ey
        have q9 : a'.tmps[44]?.getD undef = .slice uy (m + 1) ud := by simpa using e9
        have q0 : a'.tmps[45]?.getD undef = .pointer (some ⟨g, 0, none⟩) := by have h := hp 10 (of_decide_eq_true (by kernel_rfl)) (.inr (by decide)); have h2 : a'.tmps.getD 45 undef = .pointer (some ⟨g, 0, none⟩) := h; simpa using h2
        have h9 : L 9 = true := hwt 9 (of_decide_eq_true (by kernel_rfl))
        obtain ⟨it, x0, h0, h1, h2, h3, h4⟩ := hI.2.1 h9 hLi
        have qq := Prep.out _ h0
        have RS := qq.2.2.2.2.2.2.2 it _ x h1 h2 h3 h4
        have f1 : x.cell? ⟨g, 0, none⟩ = some (.slice ux m uc) := by rw [cell_kept RS.2.1]; exact qq.2.1
        have f3 : x.frozen? ⟨g, 0, none⟩ = false := by rw [ice_kept RS.2.1]; exact qq.2.2.1
        refine ⟨wanted_none rfl, Oper.wp_mono (K := fun a'' w'' => a'' = a' ∧ w'' = x.setCell ⟨g, 0, none⟩ (.slice uy (m + 1) ud)) ?_ ?_⟩
        · rintro _ _ ⟨rfl, rfl⟩
          exact ⟨undef, _, rfl, ⟨fun _ _ h => absurd rfl h, fun _ => rfl⟩, ⟨fun _ => RS.1, (fun _ h => by cases h), fun h => absurd (h9.symm.trans h) (by decide)⟩, fun u _ => trivial⟩
        · unfold Oper.wp
          simp [go_sem, q9, q0, f1, f3]
    case last =>
    intro L a' y x hall hkp hI hp
    obtain ⟨vs2, ls2, hR⟩ := hI.1 (hall 11 (by decide))
    have ha := hkp.pick [true, true, true, true, true, true, true, true, true, true, true, true, true, true, true, true, true, true, true, true, true, true, true, true, true, true, true, true, true, true, true, true, true, true, true, false, false, false, false, false, false, false, false, false, false, false, true, true, true, true, true, true, true, true] (by kernel_rfl)
    simp only [pickS] at ha
    clear hp hkp hI hall
    generalize a'.tmps.getD 35 undef = y70 at ha
    generalize a'.tmps.getD 36 undef = y71 at ha
    generalize a'.tmps.getD 37 undef = y72 at ha
    generalize a'.tmps.getD 38 undef = y73 at ha
    generalize a'.tmps.getD 39 undef = y74 at ha
    generalize a'.tmps.getD 40 undef = y75 at ha
    generalize a'.tmps.getD 41 undef = y76 at ha
    generalize a'.tmps.getD 42 undef = y77 at ha
    generalize a'.tmps.getD 43 undef = y78 at ha
    generalize a'.tmps.getD 44 undef = y79 at ha
    generalize a'.tmps.getD 45 undef = y80 at ha
    rw [ha]
    clear ha
    have HF : Hid (DrH W bc a len cap w B f n (some ⟨g, 0, none⟩) vc vs2 ls2 x ∧ (dzSum ls2 ls2.length ≤ 61 ∧ n ≤ 8)) := hR
    clear hR Rd Prep DrA
    go_wp2_with (first | (refine wpList_load_row rfl 29 (.tmp 3) rfl B rfl _ _ _ _ HF.out.1.out Tryz.underlying29 rfl (by kernel_rfl) ?_) | (refine wpList_store_row rfl 29 (.tmp 2) (.tmp 53) rfl w.heap.size _ rfl rfl _ _ HF.out.1.res (by kernel_rfl) rfl (by simp [Value.oneCell']) ?_))
    exact bodyPost_ret (results_cell_row Tryz.results29 _ _ w.heap.size _ _ _ _ rfl (setRow_heap _ w.heap.size _ _ _ _ HF.out.1.res) Tryz.underlying29 rfl (by kernel_rfl)) rfl ⟨⟨_, _, rfl, HF.out.1.done.1, by unfold Wh.big; have := HF.out.1.hn; have := HF.out.2; simp only; omega⟩, HF.out.1.done.2⟩
  · go_wp2_with fail
    refine (drawBelow hc 2 (by omega) _ XA.out.1.cur).mono ?_
    rintro e wt ⟨⟨y8, rfl, yy0, yy1⟩, ct, kt⟩
    obtain ⟨jt, rfl⟩ := Int.eq_ofNat_of_zero_le yy0
    have HT : Hid (DrH W bc a len cap w B f n vx vc vs ls wt ∧ (dzSum ls ls.length ≤ 60 ∧ n ≤ 8)) := ⟨XA.out.1.draw ct kt, XA.out.2⟩
    clear ct kt XA
    obtain ⟨nz, hnz⟩ : ∃ nz, nz = 7 + jt := ⟨_, rfl⟩
    have hnz2 : nz ≤ 8 := by omega
    have hcast : (7 : Int) + (jt : Int) = (nz : Int) := by omega
    have hmk := dzMakeN nz (by omega)
    rw [Nat.mul_one] at hmk
    have c1 : wt.cell? ⟨B, 1, none⟩ = some (.slice vx n vc) := HT.out.1.out.cell 1 rfl
    have i1 := HT.out.1.out.ice 1
    have hBt : B < wt.heap.size := HT.out.1.out.under
    clear hnz yy0 yy1
    go_upto_region 11 with fail
    clear c1 i1 hmk
    have d1 := HT.out.1.slots (wd := wt.alloc (.cells (madeCells #[.slice none 0 0] nz) 24)) (g' := wt.heap.size) (n' := nz) (vc' := nz) ((Below.refl _ _).alloc (Nat.le_refl _) _) (by have := dzG_made wt nz (by omega) wt.heap.size (Nat.le_refl _); rw [Nat.mul_one] at this; exact this) (by simp)
    have ew : (wt.alloc (.cells (madeCells #[.slice none 0 0] nz) 24)).setCell ⟨B, 1, none⟩ (.slice (some ⟨wt.heap.size, 0, none⟩) nz nz) = (wt.setCell ⟨B, 1, none⟩ (.slice (some ⟨wt.heap.size, 0, none⟩) nz nz)).alloc (.cells (madeCells #[.slice none 0 0] nz) 24) := by first | exact World.setCell_alloc_past _ _ _ _ _ hBt | exact World.setCell_alloc_past _ _ _ _ hBt | simp [go_sem, hBt]
    rw [ew] at d1
    clear ew
    generalize (wt.setCell ⟨B, 1, none⟩ (.slice (some ⟨wt.heap.size, 0, none⟩) nz nz)).alloc (.cells (madeCells #[.slice none 0 0] nz) 24) = wu at d1 ⊢
    generalize wt.heap.size = g2 at d1 ⊢
    have HF : Hid (DrH W bc a len cap w B f nz (some ⟨g2, 0, none⟩) nz (List.replicate nz (.slice none 0 0)) (List.replicate nz []) wu ∧ (dzSum (List.replicate nz ([] : List Du)) (List.replicate nz ([] : List Du)).length ≤ 60 ∧ nz ≤ 8)) := ⟨d1, by rw [dzSum_made]; omega, hnz2⟩
    clear d1 HT
    go_wp2_with (first | (refine wpList_load_row rfl 29 (.tmp 3) rfl B rfl _ _ _ _ HF.out.1.out Tryz.underlying29 rfl (by kernel_rfl) ?_) | (refine wpList_store_row rfl 29 (.tmp 2) (.tmp 53) rfl w.heap.size _ rfl rfl _ _ HF.out.1.res (by kernel_rfl) rfl (by simp [Value.oneCell']) ?_))
    exact bodyPost_ret (results_cell_row Tryz.results29 _ _ w.heap.size _ _ _ _ rfl (setRow_heap _ w.heap.size _ _ _ _ HF.out.1.res) Tryz.underlying29 rfl (by kernel_rfl)) rfl ⟨⟨_, _, rfl, HF.out.1.done.1, by unfold Wh.big; have := HF.out.1.hn; have := HF.out.2; simp only; omega⟩, HF.out.1.done.2⟩
end Go.Proofs.YtkocbfikcjgigaaGreat
