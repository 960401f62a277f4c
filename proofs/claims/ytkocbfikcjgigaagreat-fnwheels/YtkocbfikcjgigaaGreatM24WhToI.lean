import Derived.Test.YtkocbfikcjgigaaGreatM11LikeWh
import Derived.Test.YtkocbfikcjgigaaGreatM18DuIns
import Derived.Test.YtkocbfikcjgigaaGreatM23DzAll
import Derived.Test.YtkocbfikcjgigaaGreatM5WhFn
import Derived.Test.YtkocbfikcjgigaaGreatM9RegList
import Derived.Test.YtkocbfikcjgigaaGreatOpStep
import Derived.Test.YtkocbfikcjgigaaGreatM21DuSearch
import Derived.Test.YtkocbfikcjgigaaGreatM19WhCut
import Derived.Test.YtkocbfikcjgigaaGreatM22DzCat
import Derived.BigQuiet
import Derived.Deep.DeepCutAuto
import Derived.Laws.ResultCell
/-
  A heap's dues, in order, laid into a wheel one behind another. By the verifier.
-/
namespace Go.Proofs.YtkocbfikcjgigaaGreat
open Go.RowKit

theorem sorted_heap {l : List Du} (h : Sorted l) : HpO l := fun j h0 hj => h _ _ (by omega) hj
theorem sorted_hok {l l' : List Du} (hk : hok l = true) (hp : l'.Perm l) (hs : Sorted l') : hok l' = true := by
  obtain ⟨h1, h2, h3, -⟩ := hok_is.1 hk
  exact hok_is.2 ⟨by rw [hp.length_eq]; exact h1, fun x hx => h2 x (hp.subset hx), hp.nodup_iff.2 h3, sorted_heap hs⟩
theorem toWs_sorted {step : Int} {l l' : List Du} (hs : 1 ≤ step ∧ step ≤ 1000) (hk : hok l = true) (hp : l'.Perm l) (hsr : Sorted l') : toWs step l' = toWs step l := by
  have a := toWs_is hs (sorted_hok hk hp hsr) l'.length (Nat.le_refl _)
  have b := toWs_is hs hk l.length (Nat.le_refl _)
  rw [List.take_length] at a b
  have e1 := (Wh.ok_is.1 a.1).2.1
  have e2 := (Wh.ok_is.1 b.1).2.1
  rw [a.2.2] at e1
  rw [b.2.2] at e2
  have e := e1.one e2 (a.2.1.trans (hp.trans b.2.1.symm))
  have q : ∀ r1 r2 : Wh, r1.step = r2.step → r1.slots = r2.slots → r1 = r2 := by rintro ⟨s, ls⟩ ⟨s2, ls2⟩ rfl rfl; rfl
  exact q _ _ (a.2.2.trans b.2.2.symm) e
/-- The next one, in order, goes behind its slot's list. -/
theorem toWs_behind {step : Int} {l : List Du} (hs : 1 ≤ step ∧ step ≤ 1000) (hk : hok l = true) (hsr : Sorted l) {k : Nat} (h : k < l.length) : (toWs step (l.take (k + 1))).slots = (toWs step (l.take k)).slots.set (slot step (duAt l k)).toNat (dzAt (toWs step (l.take k)).slots (slot step (duAt l k)).toNat ++ [duAt l k]) := by
  obtain ⟨g1, g2, g3⟩ := toWs_is hs hk k (by omega)
  rw [toWs_next h]
  unfold Wh.into
  rw [g3]
  show List.set _ _ (ins _ _) = _
  have e8 : (toWs step (l.take k)).slots.length = 8 := (Wh.ok_is.1 g1).2.1.len
  have hj := slot_in step (duAt l k)
  generalize hL : dzAt (toWs step (l.take k)).slots (slot step (duAt l k)).toNat = L
  have hall : ∀ x ∈ L, x.lt (duAt l k) := fun x hx => by
    have hm : x ∈ (toWs step (l.take k)).slots.flatten := mem_flat.2 ⟨(slot step (duAt l k)).toNat, by omega, by rw [hL]; exact hx⟩
    have hm := g2.subset hm
    obtain ⟨i, hi, e⟩ := List.mem_iff_getElem.1 hm
    rw [List.length_take] at hi
    rw [List.getElem_take] at e
    have hil : i < l.length := by omega
    have h1 := hsr i k (by omega) h
    rw [duAt_lt hil, e] at h1
    apply Classical.byContradiction
    intro n
    have e2 := Du.eq_of n h1
    have hnd := (hok_is.1 hk).2.2.1
    rw [duAt_lt h, ← e] at e2
    have := (List.getElem_inj hnd).1 e2
    omega
  have ha : ahead L (duAt l k) = L.length := ahead_eq (Nat.le_refl _) (fun j hj => hall _ (by rw [duAt_lt hj]; exact List.getElem_mem hj)) (fun q => absurd q (Nat.lt_irrefl _))
  unfold ins
  rw [ha]
  simp
end Go.Proofs.YtkocbfikcjgigaaGreat

/-
  The walks of the program's count and of its copy of a Wheel. By the verifier, by program.
-/
namespace Go.Proofs.YtkocbfikcjgigaaGreat
open Go.RowKit

set_option maxHeartbeats 1600000 in
theorem implCntWh (r : Wh) (a : Option Addr) (c : Nat) (w : World) (hB : r.big ≤ 1048576) (h : Hid (DzAt w a r.slots)) :
    Calls Tryz.prog 33 #[r.val a c] w fun e w' => e = .returned (.int .i64 (dzSum r.slots r.slots.length)) ∧ Below w.heap.size w w' := by
  obtain ⟨hT, hS, -⟩ := Wh.small hB
  obtain ⟨f, ls⟩ := r
  simp only [Wh.val] at h hT hS ⊢
  have b0 : Below w.heap.size w (w.alloc (.cells #[.int .i64 f, .slice a ls.length c] 29)) := (Below.refl _ _).alloc (Nat.le_refl _) _
  have C := fun (_ : Nat) => implInAllDu ls a c _ hT hS (h.out.below b0)
  generalize dzSum ls ls.length = s at C ⊢
  generalize ls.length = n at C b0 ⊢
  have C' : Hid _ := C
  have B0 : Hid _ := b0
  clear C b0 h hB hT hS
  go_enter Tryz.func33, Tryz.ntmps33
  go_wp2_with fail
  refine (C'.out 0).mono ?_
  rintro e w' ⟨rfl, rfl⟩
  go_wp2
  go_ret
  exact ⟨rfl, B0.out⟩

set_option maxHeartbeats 6400000 in
set_option maxRecDepth 100000 in
theorem implCpyWh (r : Wh) (a : Option Addr) (c : Nat) (w : World) (hB : r.big ≤ 1048576) (h : Hid (DzAt w a r.slots)) :
    Calls Tryz.prog 31 #[r.val a c] w fun e w' => (∃ v vs, e = .returned (.agg #[.int .i64 r.step, v]) ∧ DzG (w.heap.size + 2) v vs r.slots w' ∧ Tight vs) ∧ Below w.heap.size w w' := by
  obtain ⟨hT, -, hin⟩ := Wh.small hB
  obtain ⟨f, ls⟩ := r
  simp only [Wh.val] at h hT hin ⊢
  clear hB
  have C := fun (w : World) (hh : DzAt w a ls) => implOwnDu ls a c w hT hin hh
  obtain ⟨n, hn⟩ : ∃ n, ls.length = n := ⟨_, rfl⟩
  rw [hn] at C ⊢
  have C' : Hid _ := C
  have Hn : Hid (ls.length = n) := hn
  clear C hT hin hn
  obtain ⟨W, hW⟩ : ∃ W, W = (w.alloc (.cells #[.int .i64 f, .slice a n c] 29)).alloc (.cells #[.int .i64 0, .slice none 0 0] 29) := ⟨_, rfl⟩
  have X : Hid (W.heap.size = w.heap.size + 2 ∧ Boxed W w.heap.size #[.int .i64 f, .slice a n c] 29 ∧ Boxed W (w.heap.size + 1) #[.int .i64 0, .slice none 0 0] 29 ∧ Below w.heap.size w W) := by
    rw [hW]
    refine ⟨by simp, (Boxed.new w _ _).more _, ?_, ((Below.refl _ _).alloc (Nat.le_refl _) _).alloc (by simp) _⟩
    have := Boxed.new (w.alloc (.cells #[.int .i64 f, .slice a n c] 29)) #[.int .i64 0, .slice none 0 0] 29
    simpa using this
  have HK : Hid (DzAt w a ls) := h
  have HWe : Hid (W = _) := hW
  clear hW h
  go_enter Tryz.func31, Tryz.ntmps31
  go_upto_region 1 with fail
  rw [← HWe.out]
  clear HWe
  refine region_lists (G := Nat) (by kernel_rfl) (by kernel_rfl) (by kernel_rfl) (fun i => if i = 4 then 5 else if i = 5 then 6 else 99) (fun (L : Nat → Bool) (_ : Nat) (x : World) => L 6 = false → Below W.heap.size W x) (fun i _ x _ x' => i ≠ 4 → i ≠ 6 → x' = x) (fun k y x u => ([fun _ _ u => u = .pointer (some ⟨w.heap.size, 0, none⟩), fun _ _ u => u = .int .i64 f, fun _ _ u => u = .pointer (some ⟨w.heap.size, 1, none⟩), fun _ _ u => u = .slice a n c, fun _ x u => ∃ g vs, u = .slice (some ⟨g, 0, none⟩) n n ∧ DzG (w.heap.size + 2) u vs ls x ∧ Tight vs ∧ Below W.heap.size W x, fun _ x u => ∃ g vs, u = .agg #[.int .i64 f, .slice (some ⟨g, 0, none⟩) n n] ∧ DzG (w.heap.size + 2) (.slice (some ⟨g, 0, none⟩) n n) vs ls x ∧ Tight vs ∧ Below W.heap.size W x, fun _ x _ => ∃ g vs, Boxed x (w.heap.size + 1) #[.int .i64 f, .slice (some ⟨g, 0, none⟩) n n] 29 ∧ DzG (w.heap.size + 2) (.slice (some ⟨g, 0, none⟩) n n) vs ls x ∧ Tight vs ∧ Below w.heap.size w x] : List (Nat → World → Value → Prop)).getD k (fun _ _ _ => True) y x u) ?hR 0 ?h0 ?step ?last
  case hR =>
    intro i' j' y y' x x' u hi1 hj1 hne hu h1 h2 hp hr
    have hj' : j' < 7 := hj1
    have hi' : i' < 7 := hi1
    have hcases : j' = 0 ∨ j' = 1 ∨ j' = 2 ∨ j' = 3 ∨ j' = 4 ∨ j' = 5 ∨ j' = 6 := by omega
    rcases hcases with rfl | rfl | rfl | rfl | rfl | rfl | rfl
    · exact hp
    · exact hp
    · exact hp
    · exact hp
    · have e : x' = x := hr hne (by rintro rfl; exact absurd h2 (by decide +kernel))
      subst e
      exact hp
    · have e : x' = x := hr (by rintro rfl; exact absurd h1 (by decide +kernel)) (fun e => hu e.symm)
      subst e
      exact hp
    · have e : x' = x := hr (by rintro rfl; exact absurd h1 (by decide +kernel)) hne
      subst e
      exact hp
  case h0 => exact fun _ => (Below.refl _ _).drew
  case step =>
    intro q o hq ho L a' y x hLi hwt hre hkp hI hp
    have s1 : a'.tmps[1]?.getD undef = .pointer (some ⟨w.heap.size, 0, none⟩) := by have h2 : a'.tmps.getD 1 undef = .pointer (some ⟨w.heap.size, 0, none⟩) := hkp.slot 1 (by kernel_rfl); simpa using h2
    have s2 : a'.tmps.getD 2 undef = .pointer (some ⟨w.heap.size + 1, 0, none⟩) := hkp.slot 2 (by kernel_rfl)
    have hI' : ∀ k : Nat, k ≠ 6 → (if (6 : Nat) = k then true else L 6) = false → Below W.heap.size W x := by
      intro k n1 z
      have e1 : (if (6 : Nat) = k then true else L 6) = L 6 := if_neg (fun e => n1 e.symm)
      rw [e1] at z
      exact hI z
    have hbx : L 6 = false → x.cell? ⟨w.heap.size, 0, none⟩ = some (.int .i64 f) ∧ x.cell? ⟨w.heap.size, 1, none⟩ = some (.slice a n c) := fun z => by
      have b := X.out.2.1.below X.out.2.1.under (hI z)
      exact ⟨b.cell 0 rfl, b.cell 1 rfl⟩
    have hq' : q < 7 := hq
    have hcases : q = 0 ∨ q = 1 ∨ q = 2 ∨ q = 3 ∨ q = 4 ∨ q = 5 ∨ q = 6 := by omega
    rcases hcases with rfl | rfl | rfl | rfl | rfl | rfl | rfl
    · cases ho
      refine ⟨wanted_none rfl, Oper.wp_mono (K := fun z x' => z = a'.put (some 3) (.pointer (some ⟨w.heap.size, 0, none⟩)) ∧ x' = x) ?_ ?_⟩
      · rintro z x' ⟨rfl, rfl⟩
        exact ⟨_, y, rfl, fun _ _ => rfl, hI' 0 (by decide), fun u hu => hu (fun h => by cases h)⟩
      · unfold Oper.wp
        simp [go_sem, s1]
    · cases ho
      have e0 : a'.tmps.getD 3 undef = .pointer (some ⟨w.heap.size, 0, none⟩) := hp 0 (of_decide_eq_true (by kernel_rfl)) (.inr (by decide))
      have e0' : a'.tmps[3]?.getD undef = .pointer (some ⟨w.heap.size, 0, none⟩) := by simpa using e0
      have z6 : L 6 = false := hre 6 (by kernel_rfl)
      obtain ⟨c0, c1⟩ := hbx z6
      refine ⟨wanted_none rfl, Oper.wp_mono (K := fun z x' => z = a'.put (some 4) (.int .i64 f) ∧ x' = x) ?_ ?_⟩
      · rintro z x' ⟨rfl, rfl⟩
        exact ⟨_, y, rfl, fun _ _ => rfl, hI' 1 (by decide), fun u hu => hu (fun h => by cases h)⟩
      · unfold Oper.wp
        simp [go_sem, e0', c0]
    · cases ho
      refine ⟨wanted_none rfl, Oper.wp_mono (K := fun z x' => z = a'.put (some 5) (.pointer (some ⟨w.heap.size, 1, none⟩)) ∧ x' = x) ?_ ?_⟩
      · rintro z x' ⟨rfl, rfl⟩
        exact ⟨_, y, rfl, fun _ _ => rfl, hI' 2 (by decide), fun u hu => hu (fun h => by cases h)⟩
      · unfold Oper.wp
        simp [go_sem, s1]
    · cases ho
      have e0 : a'.tmps.getD 5 undef = .pointer (some ⟨w.heap.size, 1, none⟩) := hp 2 (of_decide_eq_true (by kernel_rfl)) (.inr (by decide))
      have e0' : a'.tmps[5]?.getD undef = .pointer (some ⟨w.heap.size, 1, none⟩) := by simpa using e0
      have z6 : L 6 = false := hre 6 (by kernel_rfl)
      obtain ⟨c0, c1⟩ := hbx z6
      refine ⟨wanted_none rfl, Oper.wp_mono (K := fun z x' => z = a'.put (some 6) (.slice a n c) ∧ x' = x) ?_ ?_⟩
      · rintro z x' ⟨rfl, rfl⟩
        exact ⟨_, y, rfl, fun _ _ => rfl, hI' 3 (by decide), fun u hu => hu (fun h => by cases h)⟩
      · unfold Oper.wp
        simp [go_sem, e0', c1]
    · cases ho
      have e3 : a'.tmps.getD 6 undef = .slice a n c := hp 3 (of_decide_eq_true (by kernel_rfl)) (.inr (by decide))
      have e3' : a'.tmps[6]?.getD undef = .slice a n c := by simpa using e3
      have z6 : L 6 = false := hre 6 (by kernel_rfl)
      have hb := hI z6
      have hbw : Below w.heap.size w x := X.out.2.2.2.trans (hb.mono X.out.2.2.2.size)
      refine ⟨wanted_none rfl, op_callR (f := 60) (args := #[.slice a n c]) (by simp [execOp, resolve, Deferred.ofValue, invoke, Act.eval, e3']) (C'.out x (HK.out.below hbw)) ?_⟩
      rintro e x1 ⟨⟨vs, rfl, hG, hTi⟩, q⟩
      have hs := hb.size
      have hsW := X.out.1
      have hb1 : Below W.heap.size W x1 := hb.trans (q.mono hs)
      have hG' : DzG (w.heap.size + 2) (.slice (some ⟨x.heap.size, 0, none⟩) n n) vs ls x1 :=
        ⟨⟨hG.outer.1, hG.outer.2.imp id fun ⟨g, cap, cur, h1, h2, h3⟩ => ⟨g, cap, cur, h1, Nat.le_trans (by omega) h2, h3⟩⟩, hG.len, fun i hi => (hG.row i hi).mono (by omega), hG.apart⟩
      exact ⟨_, rfl, _, y, rfl, fun h => absurd rfl h, (fun _ => hb1), fun u hu => ⟨x.heap.size, vs, hu (fun h => by cases h), by rw [hu (fun h => by cases h)]; exact hG', hTi, hb1⟩⟩
    · cases ho
      have e1 : a'.tmps.getD 4 undef = .int .i64 f := hp 1 (of_decide_eq_true (by kernel_rfl)) (.inr (by decide))
      obtain ⟨g, vs, e4, hG, hTi, hb⟩ : ∃ g vs, a'.tmps.getD 7 undef = .slice (some ⟨g, 0, none⟩) n n ∧ DzG (w.heap.size + 2) (a'.tmps.getD 7 undef) vs ls x ∧ Tight vs ∧ Below W.heap.size W x := hp 4 (of_decide_eq_true (by kernel_rfl)) (.inl rfl)
      have e1' : a'.tmps[4]?.getD undef = .int .i64 f := by simpa using e1
      have e4' : a'.tmps[7]?.getD undef = .slice (some ⟨g, 0, none⟩) n n := by simpa using e4
      rw [e4] at hG
      refine ⟨wanted_none rfl, Oper.wp_mono (K := fun z x' => z = a'.put (some 8) (.agg #[.int .i64 f, .slice (some ⟨g, 0, none⟩) n n]) ∧ x' = x) ?_ ?_⟩
      · rintro z x' ⟨rfl, rfl⟩
        exact ⟨_, y, rfl, fun _ _ => rfl, hI' 5 (by decide), fun u hu => ⟨g, vs, hu (fun h => by cases h), hG, hTi, hb⟩⟩
      · unfold Oper.wp
        simp [go_sem, e1', e4']
    · cases ho
      obtain ⟨g, vs, e5, hG, hTi, hb⟩ : ∃ g vs, a'.tmps.getD 8 undef = .agg #[.int .i64 f, .slice (some ⟨g, 0, none⟩) n n] ∧ DzG (w.heap.size + 2) (.slice (some ⟨g, 0, none⟩) n n) vs ls x ∧ Tight vs ∧ Below W.heap.size W x := hp 5 (of_decide_eq_true (by kernel_rfl)) (.inl rfl)
      have b2 : Boxed x (w.heap.size + 1) #[.int .i64 0, .slice none 0 0] 29 := X.out.2.2.1.below X.out.2.2.1.under hb
      have bw : Below w.heap.size w x := X.out.2.2.2.trans (hb.mono X.out.2.2.2.size)
      exact ⟨wanted_none rfl, wp_store_row 29 (.tmp 2) (.tmp 8) rfl (w.heap.size + 1) #[.int .i64 f, .slice (some ⟨g, 0, none⟩) n n] s2 e5 _ _ b2 (by kernel_rfl) rfl (by simp [Value.oneCell']) ⟨undef, y, rfl, fun _ h => absurd rfl h, (fun z => by simp at z), fun _ _ => ⟨g, vs, setRow_heap _ _ _ _ _ _ b2, hG.other fun k hk _ => setRow_other _ _ _ _ (by omega), hTi, below_setRow bw (by omega) _⟩⟩⟩
  case last =>
    intro L a' y x hall hkp hI hp
    obtain ⟨g, vs, b, hG, hTi, hb⟩ : ∃ g vs, Boxed x (w.heap.size + 1) #[.int .i64 f, .slice (some ⟨g, 0, none⟩) n n] 29 ∧ DzG (w.heap.size + 2) (.slice (some ⟨g, 0, none⟩) n n) vs ls x ∧ Tight vs ∧ Below w.heap.size w x := hp 6 (by decide) (by decide)
    have s2 : a'.tmps.getD 2 undef = .pointer (some ⟨w.heap.size + 1, 0, none⟩) := hkp.slot 2 (by kernel_rfl)
    have kd := hkp.defers
    clear hp hI
    go_wp2
    exact bodyPost_ret (results_cell_row Tryz.results31 _ _ (w.heap.size + 1) _ _ _ _ s2 b Tryz.underlying29 rfl (by kernel_rfl)) kd (by first | exact ⟨⟨_, rfl, vs, hG, hTi⟩, hb⟩ | exact ⟨⟨_, vs, rfl, hG, hTi⟩, hb⟩)
end Go.Proofs.YtkocbfikcjgigaaGreat

/-
  The walks of the program's slotOf and WheelOk. By the verifier.
-/
namespace Go.Proofs.YtkocbfikcjgigaaGreat
open Go.RowKit Go.Shelf

set_option maxHeartbeats 1600000 in
theorem implSlot (step : Int) (d : Du) (w : World) (hs : 1 ≤ step ∧ step ≤ 1000) (hd : d.ok = true) :
    Calls Tryz.prog 28 #[.int .i64 step, d.val] w fun e w' => e = .returned (.int .i64 (slot step d)) ∧ Below w.heap.size w w' := by
  obtain ⟨t, i⟩ := d
  have ht : 0 ≤ t ∧ t ≤ 1099511627776 := by
    unfold Du.ok at hd
    rw [Bool.and_eq_true, inB_true] at hd
    exact hd.1
  simp only [Du.val]
  obtain ⟨q, hq⟩ : ∃ q, q = t / step := ⟨_, rfl⟩
  have hq0 : 0 ≤ q := by rw [hq]; exact Int.ediv_nonneg ht.1 (by omega)
  have hq1 : q ≤ 1099511627776 := by rw [hq]; exact Int.le_trans (Int.ediv_le_self _ ht.1) ht.2
  have e1 : t.tdiv step = q := by rw [hq]; exact Int.tdiv_eq_ediv_of_nonneg ht.1
  have e2 : q.tmod 8 = q % 8 := Int.tmod_eq_emod_of_nonneg hq0
  have e3 : ¬ step = 0 := by omega
  have e4 : (step == 0) = false := by simpa using e3
  have e5 : ¬ step = -1 := by omega
  have hr : Hid (slot step ⟨t, i⟩ = q % 8) := by show (t / step) % 8 = q % 8; rw [hq]
  have hm : 0 ≤ q % 8 ∧ q % 8 < 8 := ⟨Int.emod_nonneg _ (by decide), Int.emod_lt_of_pos _ (by decide)⟩
  rw [hr.out]
  generalize q % 8 = m at e2 hm
  have B : Hid (Below w.heap.size w (w.alloc (.cells #[.int .i64 t, .int .i64 i] 33))) := (Below.refl _ _).alloc (Nat.le_refl _) _
  clear hq hr hd
  go_enter Tryz.func28, Tryz.ntmps28
  go_wp2
  go_ret
  exact ⟨rfl, B.out⟩
end Go.Proofs.YtkocbfikcjgigaaGreat

/-
  The walk of the program's ToWheel. By the verifier.
-/
namespace Go.Proofs.YtkocbfikcjgigaaGreat
open Go.RowKit Go.Shelf

theorem wvMake8 (wx : World) : (Instr.makeSlice 27 (.int .i64 8) (.int .i64 8)).run Tryz.prog wx = .ok (.slice (some ⟨wx.heap.size, 0, none⟩) 8 8) (wx.alloc (.cells (madeCells #[.slice none 0 0] 8) 24)) := by
  obtain ⟨i0, hi, hz0, hz1, hz2⟩ := info_parts dzInfo
  have := run_make (P := Tryz.prog) wx 27 24 i0 (.slice none 0 0) Tryz.underlying27 hi hz0 .i64 .i64 8 8 (by omega) (by omega) (by rw [hz2]; omega) (by omega)
  rw [hz1] at this
  exact this
theorem wvMadeG (w : World) (base : Nat) (hb : base ≤ w.heap.size) : DzG base (.slice (some ⟨w.heap.size, 0, none⟩) 8 8) (List.replicate 8 (.slice none 0 0)) (List.replicate 8 []) (w.alloc (.cells (madeCells #[.slice none 0 0] 8) 24)) := by
  have e : ∀ i, dzV (List.replicate 8 (.slice none 0 0)) i = .slice none 0 0 := fun i => by
    unfold dzV
    by_cases h : i < 8
    · rw [List.getElem?_replicate_of_lt h]; rfl
    · rw [List.getElem?_eq_none (by simp; omega)]; rfl
  refine ⟨?_, by simp, fun i hi => ?_, fun i j k hi hj hne h1 => ?_⟩
  · have e2 : (madeCells #[Value.slice none 0 0] 8).toList = List.replicate 8 (Value.slice none 0 0) := by kernel_rfl
    have := World.ownsRow_lit (size := 1) (e := 24) w (madeCells #[.slice none 0 0] 8) 8 hb (by unfold maxLen; omega) (by kernel_rfl)
    rw [e2] at this
    rw [List.length_replicate]
    exact this
  · rw [e, dzAt_empty]
    exact World.ownsRow_nil _ base _ 2
  · rw [e] at h1
    cases h1
/-- What lies in the loop: the wheel in its variable, the dues in order, the result's variable. -/
structure ToL (S P : Nat) (step : Int) (g gl : Nat) (vs : List Value) (ls : List (List Du)) (l : List Du) (w0 w : World) : Prop where
  wv : WvV (S + 1) P step g 8 vs ls w
  res : Boxed w S #[.int .i64 0, .slice none 0 0] 29
  row : DuRow S w (.slice (some ⟨gl, 0, none⟩) l.length l.length) l
  far : gl ≠ g ∧ gl ≠ P ∧ ∀ i, i < 8 → (dzV vs i).ownBlock ≠ some gl
  bel : Below S w0 w
theorem ToL.below {S P : Nat} {step : Int} {g gl : Nat} {vs : List Value} {ls : List (List Du)} {l : List Du} {w0 w w' : World} (h : ToL S P step g gl vs ls l w0 w) (q : Below w.heap.size w w') : ToL S P step g gl vs ls l w0 w' := by
  have h1 := h.res.under
  exact ⟨h.wv.below q, h.res.below h.res.under q, h.row.below (fun k hk => (h.row.lt k hk).2) q, h.far, h.bel.trans (q.mono (by omega))⟩
/-- One list of the wheel's put. -/
theorem ToL.put {S P : Nat} {step : Int} {g gl : Nat} {vs : List Value} {ls : List (List Du)} {l : List Du} {w0 w wx : World} (h : ToL S P step g gl vs ls l w0 w) {j : Nat} (hj : j < 8) {u : Value} {m : List Du} (hu : DuRow (S + 1) wx u m) (hs : Below (S + 1) w wx)
    (g2 : ∀ k, (dzV vs j).ownBlock ≠ some k → k < w.heap.size → wx.heap[k]? = w.heap[k]?) (hw : ∀ k, u.ownBlock = some k → (dzV vs j).ownBlock = some k ∨ w.heap.size ≤ k) :
    ToL S P step g gl (vs.set j u) (ls.set j m) l w0 (wx.setCell ⟨g, j, none⟩ u) := by
  have hg := h.wv.lt
  have hb : Below (S + 1) w (wx.setCell ⟨g, j, none⟩ u) := hs.setCell hg.1 u
  have hgl : gl < w.heap.size := (h.row.lt gl rfl).2
  refine ⟨h.wv.put hj hu hs.size g2 hw, h.res.below (Nat.lt_succ_self _) hb, ?_, ⟨h.far.1, h.far.2.1, fun i hi => ?_⟩, h.bel.trans (hb.mono (Nat.le_succ _))⟩
  · exact h.row.carry fun k hk _ => by
      have e : k = gl := by cases hk; rfl
      subst e
      rw [Below.heap_setCell _ _ _ _ h.far.1]
      exact g2 k (h.far.2.2 j hj) hgl
  · have hlen := h.wv.mem.len
    have h8 := h.wv.eight
    by_cases e : i = j
    · subst e
      have e2 : dzV (vs.set i u) i = u := by unfold dzV; rw [List.getElem?_set_self (by omega)]; rfl
      rw [e2]
      intro q
      rcases hw gl q with q | q
      · exact h.far.2.2 i hi q
      · omega
    · have e2 : dzV (vs.set j u) i = dzV vs i := by unfold dzV; rw [List.getElem?_set_ne (fun q => e q.symm)]
      rw [e2]
      exact h.far.2.2 i hi
theorem ToL.done {S P : Nat} {step : Int} {g gl : Nat} {vs : List Value} {ls : List (List Du)} {l : List Du} {w0 w : World} (h : ToL S P step g gl vs ls l w0 w) : WhIn S (w.setRow S #[.int .i64 step, .slice (some ⟨g, 0, none⟩) 8 8]).heap.size (w.setRow S #[.int .i64 step, .slice (some ⟨g, 0, none⟩) 8 8]) (.agg #[.int .i64 step, .slice (some ⟨g, 0, none⟩) 8 8]) ⟨step, ls⟩ := by
  have hg : DzG (S + 1) (.slice (some ⟨g, 0, none⟩) 8 8) vs ls (w.setRow S #[.int .i64 step, .slice (some ⟨g, 0, none⟩) 8 8]) := h.wv.mem.other fun k hk _ => setRow_other _ _ _ _ (by omega)
  have e : (.agg #[.int .i64 step, .slice (some ⟨g, 0, none⟩) 8 8] : Value) = (⟨step, ls⟩ : Wh).val (some ⟨g, 0, none⟩) 8 := by unfold Wh.val; simp [h.wv.eight]
  have hd := hg.done
  have q : WhIn (S + 1) (w.setRow S #[.int .i64 step, .slice (some ⟨g, 0, none⟩) 8 8]).heap.size (w.setRow S #[.int .i64 step, .slice (some ⟨g, 0, none⟩) 8 8]) (.agg #[.int .i64 step, .slice (some ⟨g, 0, none⟩) 8 8]) ⟨step, ls⟩ := ⟨some ⟨g, 0, none⟩, 8, e, vs, by show DzV _ _ _ (.slice _ ls.length _) _ _; rw [h.wv.eight]; exact hd⟩
  exact q.wide (by omega) (Nat.le_refl _) (Nat.le_refl _)
end Go.Proofs.YtkocbfikcjgigaaGreat
