/-
  The walk of the model's laying of a due into a wheel of the call's own. By the verifier.
-/
import Derived.Test.YtkocbfikcjgigaaGreatWhCntS
import Derived.Test.YtkocbfikcjgigaaGreatM4DzGrow
import Derived.Test.YtkocbfikcjgigaaGreatDuWhere
import Derived.Test.YtkocbfikcjgigaaGreatM6WhCopyS
import Derived.Test.YtkocbfikcjgigaaGreatM9RegList
import Derived.Test.YtkocbfikcjgigaaGreatM8RegGuard
import Derived.Test.YtkocbfikcjgigaaGreatOpAsg
import Derived.Test.YtkocbfikcjgigaaGreatM1DuFn
import Derived.Test.YtkocbfikcjgigaaGreatBoxed
import Derived.BigQuiet
import Derived.Deep.DeepCutAuto
namespace Go.Proofs.YtkocbfikcjgigaaGreat
open Go.RowKit

theorem DusAt.drop {w : World} {b off : Nat} {l : List Du} (h : DusAt w (some ⟨b, off, none⟩) l) (n : Nat) : DusAt w (some ⟨b, off + n * 2, none⟩) (l.drop n) := by
  intro k hk
  rw [List.length_drop] at hk
  obtain ⟨b', off', e, hb, c0, c1⟩ := h (n + k) (by omega)
  cases e
  have e2 : duAt (l.drop n) k = duAt l (n + k) := by unfold duAt; rw [List.getElem?_drop]
  refine ⟨b, off + n * 2, rfl, hb, ?_, ?_⟩
  · rw [e2, ← c0]; congr 2; omega
  · rw [e2, ← c1]; congr 2; omega
/-- A wheel of the call's own in a variable. -/
structure WhV (base P : Nat) (f : Int) (g cap : Nat) (vs : List Value) (ls : List (List Du)) (w : World) : Prop where
  box : Boxed w P #[.int .i64 f, .slice (some ⟨g, 0, none⟩) 8 cap] 29
  mem : DzG base (.slice (some ⟨g, 0, none⟩) 8 cap) vs ls w
  up : base ≤ w.heap.size
section
variable {base P : Nat} {f : Int} {g cap : Nat} {vs : List Value} {ls : List (List Du)} {w w' : World}
theorem WhV.below (h : WhV base P f g cap vs ls w) (q : Below w.heap.size w w') : WhV base P f g cap vs ls w' := ⟨h.box.below h.box.under q, h.mem.below q, Nat.le_trans h.up q.size⟩
/-- The variable does not lie where the headers lie. -/
theorem WhV.ne (h : WhV base P f g cap vs ls w) : P ≠ g := by
  intro e
  subst e
  have h1 := h.box
  rcases h.mem.outer.2 with ⟨e, _⟩ | ⟨g', cap, cur, e, _, hg', _⟩
  · cases e
  · injection e with e1
    cases e1
    unfold Boxed at h1
    rw [h1] at hg'
    simp only [Option.some.injEq, Obj.cells.injEq] at hg'
    exact absurd hg'.2.1 (by decide)
end

set_option maxHeartbeats 6400000 in
set_option maxRecDepth 100000 in
theorem specInto (base P : Nat) (f : Int) (g cap : Nat) (vs : List Value) (ls : List (List Du)) (d : Du) (w : World) (hf : 1 ≤ f ∧ f ≤ 1000) (h8 : ls.length = 8) (h60 : ∀ i, i < 8 → (dzAt ls i).length ≤ 60) (hd : d.ok = true) (h : Hid (WhV base P f g cap vs ls w)) :
    Calls Tryz.prog 41 #[.pointer (some ⟨P, 0, none⟩), d.val] w fun e w' => e = .returned (.tuple #[]) ∧ ∃ vs', WhV base P f g cap vs' (ls.set (slot f d).toNat (ins (dzAt ls (slot f d).toNat) d)) w' ∧ Below base w w' := by
  have hs := slot_in f d
  obtain ⟨j, hj⟩ : ∃ j, (slot f d).toNat = j := ⟨_, rfl⟩
  have hjs : slot f d = (j : Int) := by omega
  have hj8 : j < 8 := by omega
  rw [hj]
  have hm := h60 j hj8
  have Sl : slot f d = d.time / f % 8 := rfl
  have hdt : 0 ≤ d.time ∧ d.time ≤ 1099511627776 := by
    unfold Du.ok at hd
    simp only [Bool.and_eq_true, inB_true] at hd
    exact hd.1
  obtain ⟨qd, hqd⟩ : ∃ qd, d.time / f = qd := ⟨_, rfl⟩
  rw [hqd, hjs] at Sl
  have qd0 : 0 ≤ qd := by rw [← hqd]; exact Int.ediv_nonneg hdt.1 (by omega)
  have qd1 : qd ≤ d.time := by rw [← hqd]; exact Int.ediv_le_self _ hdt.1
  have d1 : Int.tdiv d.time f = qd := by rw [Int.tdiv_eq_ediv_of_nonneg hdt.1]; exact hqd
  have d2 : IntKind.i64.wrap qd = qd := by rw [IntKind.wrap_i64]; omega
  have d3 : Int.tmod qd 8 = (j : Int) := by rw [Int.tmod_eq_emod_of_nonneg qd0]; exact Sl.symm
  have d4 : IntKind.i64.wrap (j : Int) = (j : Int) := by rw [IntKind.wrap_i64]; omega
  have fz : ¬ f = 0 := by omega
  have hj8' : (j : Int) < 8 := by omega
  clear hqd qd0 qd1 Sl hs hj hdt
  have hj8l : j < ls.length := by rw [h8]; exact hj8
  have A3 := fun i w => specBefore (duAt (dzAt ls j) i) d w
  have X : Hid (WhV base P f g cap vs ls (w.alloc (.cells #[.int .i64 d.time, .int .i64 d.id] 33)) ∧ Boxed (w.alloc (.cells #[.int .i64 d.time, .int .i64 d.id] 33)) w.heap.size #[.int .i64 d.time, .int .i64 d.id] 33 ∧ Below w.heap.size w (w.alloc (.cells #[.int .i64 d.time, .int .i64 d.id] 33))) :=
    ⟨h.out.below ((Below.refl _ _).alloc (Nat.le_refl _) _), Boxed.new _ _ _, (Below.refl _ _).alloc (Nat.le_refl _) _⟩
  have Hbw : Hid (base ≤ w.heap.size) := h.out.up
  clear h
  generalize hl : dzAt ls j = l at hm A3
  have Hl : Hid (dzAt ls j = l) := hl
  obtain ⟨m, hml⟩ : ∃ m, l.length = m := ⟨_, rfl⟩
  rw [hml] at hm
  have Hm : Hid (l.length = m) := hml
  unfold Du.val at A3 ⊢
  obtain ⟨dt, hdt⟩ : ∃ x, d.time = x := ⟨_, rfl⟩
  obtain ⟨di, hdi⟩ : ∃ x, d.id = x := ⟨_, rfl⟩
  have hde : d = ⟨dt, di⟩ := by rw [← hdt, ← hdi]
  subst hde
  simp only [] at A3 X d1 ⊢
  have A3' : Hid _ := A3
  clear A3 hdt hdi hd hjs hl hml
  go_enter Tryz.func41, Tryz.ntmps41
  go_upto_region 1 with fail
  generalize w.alloc (.cells #[.int .i64 dt, .int .i64 di] 33) = W at X ⊢
  obtain ⟨al, cl, hc, hrow, hcap, hnil, hal⟩ : ∃ al cl, W.cell? ⟨g, j, none⟩ = some (.slice al m cl) ∧ DusAt W al l ∧ m ≤ cl ∧ (al = none → cl = 0) ∧ (al = none ∨ ∃ gl ol, al = some ⟨gl, ol, none⟩) := by
    have hv := X.out.1.mem.row j hj8l
    have hcell : W.cell? ⟨g, j, none⟩ = some (dzV vs j) := by
      have q := X.out.1.mem.outer.cells (g := g) rfl j (dzV vs j) (by have := X.out.1.mem.len; unfold dzV; rw [List.getElem?_eq_getElem (by omega)]; rfl)
      rwa [show (⟨g, 0, none⟩ : Addr).add j = ⟨g, j, none⟩ by by_cases h0 : j = 0 <;> simp [Addr.add, h0]] at q
    rw [Hl.out] at hv
    generalize dzV vs j = v at hv hcell
    obtain ⟨a1, c1, rfl⟩ := hv.shape
    rw [Hm.out] at hcell
    refine ⟨a1, c1, hcell, hv.at, by rw [← Hm.out]; exact hv.cap, hv.nilCap, ?_⟩
    rcases hv.2 with ⟨e, -⟩ | ⟨gl, cap', cur, e, -⟩
    · injection e with e1; exact .inl e1
    · injection e with e1; exact .inr ⟨gl, 0, e1⟩
  have hb : g < W.heap.size := (World.ownsRow.lt X.out.1.mem.outer g rfl).2
  have RX : Hid (∀ x, Below W.heap.size W x → x.cell? ⟨P, 0, none⟩ = some (.int .i64 f) ∧ x.cell? ⟨P, 1, none⟩ = some (.slice (some ⟨g, 0, none⟩) 8 cap) ∧ x.cell? ⟨w.heap.size, 0, none⟩ = some (.int .i64 dt) ∧ x.cell? ⟨w.heap.size, 1, none⟩ = some (.int .i64 di) ∧ x.cell? ⟨g, j, none⟩ = some (.slice al m cl) ∧ DusAt x al l) := fun x q =>
    ⟨(X.out.1.box.below X.out.1.box.under q).cell 0 rfl, (X.out.1.box.below X.out.1.box.under q).cell 1 rfl, (X.out.2.1.below X.out.2.1.under q).cell 0 rfl, (X.out.2.1.below X.out.2.1.under q).cell 1 rfl, by rw [q.cell (p := ⟨g, j, none⟩) hb]; exact hc, hrow.below q⟩
  clear hrow hc
  haveI : Nonempty (BelW W.heap.size W) := ⟨⟨W, Below.refl _ _⟩⟩
  have c0 : ∀ p : BelW W.heap.size W, p.w'.cell? ⟨P, 0, none⟩ = some (.int .i64 f) := fun p => (RX.out _ p.h).1
  have e0 : ∀ p : BelW W.heap.size W, p.w'.cell? ⟨w.heap.size, 0, none⟩ = some (.int .i64 dt) := fun p => (RX.out _ p.h).2.2.1
  refine region_below W.heap.size (by kernel_rfl) (by kernel_rfl) ?_
  repeat (go_big_quiet_step (fail))
  refine wpQuiet_nil ?_
  intro w2 hx
  have B2 : Hid (Below W.heap.size W w2) := BelW.out hx
  clear hx c0 e0 d1 d2 d3 d4
  have c1 := (RX.out _ B2.out).2.1
  have e1 := (RX.out _ B2.out).2.2.2.2.1
  go_wp2_with fail
  clear c1 e1
  have Hj : Hid (j < 8) := hj8
  go_loopw [6] (fun s wr => ∃ k : Nat, k ≤ m ∧ s = .int .i64 k ∧ Hid ((∀ i, i < k → (duAt l i).lt ⟨dt, di⟩) ∧ Below W.heap.size W wr)) (fun s _ => m - (intOf s).toNat)
  case atStart => exact ⟨0, Nat.zero_le _, rfl, fun i hi => by omega, B2.out⟩
  case round =>
    obtain ⟨k, hk, rfl, HK⟩ := hrel
    clear B2
    go_upto_region 4 with fail
    obtain ⟨bb, hbb⟩ : ∃ bb, decide (k < m ∧ (duAt l k).lt ⟨dt, di⟩) = bb := ⟨_, rfl⟩
    have Hbb : Hid (decide (k < m ∧ (duAt l k).lt ⟨dt, di⟩) = bb) := hbb
    clear hbb
    go_cut [34] from 23 to 36 (fun s wc => Hid (s = .bool bb ∧ Below W.heap.size W wc))
    case first =>
      haveI : Nonempty (BelW wr.heap.size wr) := ⟨⟨wr, Below.refl _ _⟩⟩
      have step : Hid (∀ x, Below wr.heap.size wr x → Below W.heap.size W x) := fun x q => HK.out.2.trans (q.mono HK.out.2.size)
      have e0 : ∀ p : BelW wr.heap.size wr, p.w'.cell? ⟨w.heap.size, 0, none⟩ = some (.int .i64 dt) := fun p => (RX.out _ (step.out _ p.h)).2.2.1
      have e1 : ∀ p : BelW wr.heap.size wr, p.w'.cell? ⟨w.heap.size, 1, none⟩ = some (.int .i64 di) := fun p => (RX.out _ (step.out _ p.h)).2.2.2.1
      by_cases hlt : k < m
      · have hlt' : (k : Int) < (m : Int) := by omega
        have hlm : k < l.length := by rw [Hm.out]; exact hlt
        obtain ⟨b2, off2, ha2, -, -⟩ := (RX.out _ HK.out.2).2.2.2.2.2 k hlm
        subst ha2
        have x0 : ∀ p : BelW wr.heap.size wr, p.w'.cell? ⟨b2, off2 + k * 2, none⟩ = some (.int .i64 (duAt l k).time) := fun p => ((RX.out _ (step.out _ p.h)).2.2.2.2.2.cells hlm).1
        have x1 : ∀ p : BelW wr.heap.size wr, p.w'.cell? ⟨b2, off2 + k * 2 + 1, none⟩ = some (.int .i64 (duAt l k).id) := fun p => ((RX.out _ (step.out _ p.h)).2.2.2.2.2.cells hlm).2
        have A4 := A3'.out k
        have ed : decide ((duAt l k).lt ⟨dt, di⟩) = bb := by rw [← Hbb.out]; simp [hlt]
        rw [ed] at A4
        clear ed Hbb
        generalize duAt l k = x at x0 x1 A4
        obtain ⟨xt, xi⟩ := x
        simp only [] at x0 x1 A4
        have A4' : Hid _ := A4
        clear A4 HK
        refine region_below wr.heap.size (by kernel_rfl) (by kernel_rfl) ?_
        repeat (go_big_quiet_step ((go_at_call 47; with_reducible refine quiet_below (Nat.le_refl _) (A4'.out _))))
        refine wpQuiet_nil ?_
        intro w3 hx
        have B3 : Hid (Below W.heap.size W w3) := step.out _ (BelW.out hx)
        clear hx
        go_wp2_with fail
        go_meet
        exact ⟨rfl, B3.out⟩
      · have hlt' : decide ((k : Int) < (m : Int)) = false := decide_eq_false (by omega)
        have ed : bb = false := by rw [← Hbb.out]; simp [hlt]
        subst ed
        refine region_below wr.heap.size (by kernel_rfl) (by kernel_rfl) ?_
        repeat (go_big_quiet_step (fail))
        refine wpQuiet_nil ?_
        intro w3 hx
        have B3 : Hid (Below W.heap.size W w3) := step.out _ (BelW.out hx)
        clear hx
        go_wp2_with fail
        go_meet
        exact ⟨rfl, B3.out⟩
    case rest =>
    obtain ⟨rfl, hb3⟩ := hcut.out
    have B3 : Hid (Below W.heap.size W wc) := hb3
    clear hcut hb3
    by_cases hgo : k < m ∧ (duAt l k).lt ⟨dt, di⟩
    · have G : Hid (∀ i, i < k + 1 → (duAt l i).lt ⟨dt, di⟩) := fun i hi => by
        by_cases e : i = k
        · rw [e]; exact hgo.2
        · exact HK.out.1 i (by omega)
      have hkm := hgo.1
      have ed : bb = true := by rw [← Hbb.out]; exact decide_eq_true hgo
      subst ed
      clear hgo HK
      go_wp2
      go_roundw
      case rel => exact ⟨k + 1, by omega, by go_num, G.out, B3.out⟩
      case measure => simp [intOf]; omega
    have Hk : Hid (ahead l ⟨dt, di⟩ = k) := ahead_eq (by rw [Hm.out]; exact hk) HK.out.1 (fun q q2 => hgo ⟨by rw [← Hm.out]; exact q, q2⟩)
    have ed : bb = false := by rw [← Hbb.out]; exact decide_eq_false hgo
    subst ed
    clear hgo HK
    go_upto_region 6 with fail
    obtain ⟨w4, rfl⟩ : ∃ w4, w4 = wc := ⟨_, rfl⟩
    have hk' : (k : Int) ≤ (m : Int) := by omega
    have hcap' : (m : Int) ≤ (cl : Int) := by omega
    have Ml : Hid ((l.drop k).length = m - k) := by show (l.drop k).length = m - k; rw [List.length_drop, Hm.out]
    go_cut [7] (fun s wc => Hid (∃ a7 c7, s = .slice a7 (m - k) c7 ∧ DuRow w4.heap.size wc (.slice a7 (m - k) c7) (l.drop k) ∧ Below w4.heap.size w4 wc))
    case first =>
      have D4 : Hid (DusAt w4 al l) := (RX.out _ B3.out).2.2.2.2.2
      rcases hal with rfl | ⟨gl, ol, rfl⟩
      · have hcl : cl = 0 := hnil rfl
        subst hcl
        obtain rfl : m = 0 := by omega
        obtain rfl : k = 0 := by omega
        go_wp2_with (at_builtin; refine du_app rfl (.tmp 37) (.tmp 40) rfl w4.heap.size _ [] none 0 0 (l.drop 0) Ml.out rfl rfl (du_built w4 _ (Nat.le_refl _)) (D4.out.alloc _) (fun _ => rfl) (by rw [Ml.out]; simp) (by simp) ?_; intro v' w5 q1 q2 q3 q4; have R : Hid (DuRow w4.heap.size w5 v' (l.drop 0) ∧ Below w4.heap.size w4 w5) := ⟨by simpa using q1, ((Below.refl _ w4).alloc (Nat.le_refl _) _).trans q2⟩; clear q1 q2 q3 q4)
        go_meet
        obtain ⟨a7, c7, e7⟩ := R.out.1.shape
        rw [Ml.out] at e7
        exact ⟨a7, c7, e7, e7 ▸ R.out.1, R.out.2⟩
      · by_cases hck : cl = k
        · obtain rfl : m = k := by omega
          have hck' : (cl = m) = True := eq_true hck
          have Dr : Hid (l.drop m = []) := List.drop_eq_nil_of_le (by rw [Hm.out]; exact Nat.le_refl _)
          subst hck
          go_wp2_with (at_builtin; refine du_app rfl (.tmp 37) (.tmp 40) rfl w4.heap.size _ [] (some ⟨gl, ol, none⟩) 0 0 [] rfl rfl (by simp [Act.eval]) (du_built w4 _ (Nat.le_refl _)) (fun y hy => by simp at hy) (fun q => by cases q) (by simp) (by simp) ?_; intro v' w5 q1 q2 q3 q4; have R : Hid (DuRow w4.heap.size w5 v' [] ∧ Below w4.heap.size w4 w5) := ⟨by simpa using q1, ((Below.refl _ w4).alloc (Nat.le_refl _) _).trans q2⟩; clear q1 q2 q3 q4)
          go_meet
          obtain ⟨a7, c7, e7⟩ := R.out.1.shape
          rw [Dr.out, Nat.sub_self]
          exact ⟨a7, c7, e7, e7 ▸ R.out.1, R.out.2⟩
        · have hck' : (cl = k) = False := eq_false hck
          go_wp2_with (at_builtin; refine du_app rfl (.tmp 37) (.tmp 40) rfl w4.heap.size _ [] (some ⟨gl, ol + k * 2, none⟩) (m - k) (cl - k) (l.drop k) Ml.out rfl (by simp [Act.eval]) (du_built w4 _ (Nat.le_refl _)) ((D4.out.drop k).alloc _) (fun q => by cases q) (by rw [Ml.out]; simp; omega) (by simp) ?_; intro v' w5 q1 q2 q3 q4; have R : Hid (DuRow w4.heap.size w5 v' (l.drop k) ∧ Below w4.heap.size w4 w5) := ⟨by simpa using q1, ((Below.refl _ w4).alloc (Nat.le_refl _) _).trans q2⟩; clear q1 q2 q3 q4)
          go_meet
          obtain ⟨a7, c7, e7⟩ := R.out.1.shape
          rw [Ml.out] at e7
          exact ⟨a7, c7, e7, e7 ▸ R.out.1, R.out.2⟩
    case rest =>
    obtain ⟨a7, c7, rfl, hr7, hb7⟩ := hcut.out
    obtain ⟨w5, rfl⟩ : ∃ w5, w5 = wc := ⟨_, rfl⟩
    have H5 : Hid (Below W.heap.size W w5 ∧ DusAt w5 a7 (l.drop k)) := ⟨B3.out.trans (hb7.mono B3.out.size), by
      have := hr7
      rw [← Ml.out] at this
      exact this.at⟩
    have hn7 : a7 = none → c7 = 0 := hr7.none
    clear hcut hr7 hb7 B3
    have Tk : Hid ((l.take k).length = k) := by show (l.take k).length = k; rw [List.length_take, Hm.out]; omega
    obtain ⟨m7, hm7⟩ : ∃ m7, m - k = m7 := ⟨_, rfl⟩
    rw [hm7] at Ml ⊢
    have hm7' : m7 ≤ 60 := by omega
    have hkc : k ≤ cl := by omega
    have RY : Hid (∀ x, Below w5.heap.size w5 x → x.cell? ⟨P, 1, none⟩ = some (.slice (some ⟨g, 0, none⟩) 8 cap) ∧ Boxed x w.heap.size #[.int .i64 dt, .int .i64 di] 33 ∧ DusAt x al l ∧ DusAt x a7 (l.drop k) ∧ w5.heap.size ≤ x.heap.size ∧ WhV base P f g cap vs ls x ∧ Below W.heap.size W x) := fun x q => by
      have q2 : Below W.heap.size W x := H5.out.1.trans (q.mono H5.out.1.size)
      have r := RX.out _ q2
      exact ⟨r.2.1, X.out.2.1.below X.out.2.1.under q2, r.2.2.2.2.2, H5.out.2.below q, q.size, X.out.1.below q2, q2⟩
    go_upto_region 7 with fail
    refine region_lists (G := Unit) (by kernel_rfl) (by kernel_rfl) (by kernel_rfl) (fun i => if i = 5 then 9 else if i = 9 then 12 else if i = 11 then 12 else if i = 12 then 14 else if i = 14 then 16 else 99) (fun (L : Nat → Bool) (_ : Unit) (x : World) => L 16 = false → Below w5.heap.size w5 x) (fun i _ x _ x' => i ≠ 12 → i ≠ 14 → i ≠ 16 → Below x.heap.size x x') (fun i y x u => ([fun _ _ u => u = (.pointer (some ⟨P, 0, none⟩)), fun _ _ u => u = (.pointer (some ⟨P, 0, none⟩)), fun _ _ u => u = (.pointer (some ⟨P, 1, none⟩)), fun _ _ u => u = (.slice (some ⟨g, 0, none⟩) 8 cap), fun _ _ u => u = (.int .i64 (j : Int)), fun _ x u => ∃ n0, u = .slice (some ⟨n0, 0, none⟩) 0 0 ∧ DuRow w5.heap.size x u [], fun _ _ u => u = (.slice al m cl), fun _ _ u => u = (.int .i64 (k : Int)), fun _ _ u => u = (.slice al k cl), fun _ x u => (∃ a2 c2, u = .slice a2 k c2) ∧ DuRow w5.heap.size x u (l.take k), fun _ _ u => u = (.agg #[.int .i64 dt, .int .i64 di]), fun _ x u => ∃ n4, u = .slice (some ⟨n4, 0, none⟩) 1 1 ∧ Boxed x n4 #[.int .i64 dt, .int .i64 di] 33, fun _ x u => (∃ a2 c2, u = .slice a2 (k + 1) c2) ∧ DuRow w5.heap.size x u (l.take k ++ [⟨dt, di⟩]), fun _ _ u => u = (.slice a7 m7 c7), fun _ x u => (∃ a2 c2, u = .slice a2 (k + 1 + m7) c2) ∧ DuRow w5.heap.size x u (l.take k ++ [⟨dt, di⟩] ++ l.drop k), fun _ _ u => u = (.pointer (some ⟨g, j, none⟩)), fun _ x _ => ∃ u x0, Below w5.heap.size w5 x0 ∧ DuRow w5.heap.size x0 u (l.take k ++ [⟨dt, di⟩] ++ l.drop k) ∧ x = x0.setCell ⟨g, j, none⟩ u] : List (Unit → World → Value → Prop)).getD i (fun _ _ _ => True) y x u) ?hR () ?h0 ?step ?last
    case hR =>
      intro i j' y y' x x' u hi hj hne hu h1 h2 hp hr
      have hj'' : j' < 17 := hj
      have hcases : j' = 0 ∨ j' = 1 ∨ j' = 2 ∨ j' = 3 ∨ j' = 4 ∨ j' = 5 ∨ j' = 6 ∨ j' = 7 ∨ j' = 8 ∨ j' = 9 ∨ j' = 10 ∨ j' = 11 ∨ j' = 12 ∨ j' = 13 ∨ j' = 14 ∨ j' = 15 ∨ j' = 16 := by omega
      rcases hcases with rfl | rfl | rfl | rfl | rfl | rfl | rfl | rfl | rfl | rfl | rfl | rfl | rfl | rfl | rfl | rfl | rfl
      · exact hp
      · exact hp
      · exact hp
      · exact hp
      · exact hp
      · have n12 : i ≠ 12 := by
          rintro rfl
          first | exact absurd rfl hne | exact absurd rfl hu | (exact absurd h1 (by decide +kernel)) | (exact absurd h2 (by decide +kernel))
        have n14 : i ≠ 14 := by
          rintro rfl
          first | exact absurd rfl hne | exact absurd rfl hu | (exact absurd h1 (by decide +kernel)) | (exact absurd h2 (by decide +kernel))
        have n16 : i ≠ 16 := by
          rintro rfl
          first | exact absurd rfl hne | exact absurd rfl hu | (exact absurd h1 (by decide +kernel)) | (exact absurd h2 (by decide +kernel))
        obtain ⟨n0, e, r⟩ := hp
        exact ⟨n0, e, r.carry fun y _ hy => (hr n12 n14 n16).block y hy⟩
      · exact hp
      · exact hp
      · exact hp
      · have n12 : i ≠ 12 := by
          rintro rfl
          first | exact absurd rfl hne | exact absurd rfl hu | (exact absurd h1 (by decide +kernel)) | (exact absurd h2 (by decide +kernel))
        have n14 : i ≠ 14 := by
          rintro rfl
          first | exact absurd rfl hne | exact absurd rfl hu | (exact absurd h1 (by decide +kernel)) | (exact absurd h2 (by decide +kernel))
        have n16 : i ≠ 16 := by
          rintro rfl
          first | exact absurd rfl hne | exact absurd rfl hu | (exact absurd h1 (by decide +kernel)) | (exact absurd h2 (by decide +kernel))
        exact ⟨hp.1, hp.2.carry fun y _ hy => (hr n12 n14 n16).block y hy⟩
      · exact hp
      · have n12 : i ≠ 12 := by
          rintro rfl
          first | exact absurd rfl hne | exact absurd rfl hu | (exact absurd h1 (by decide +kernel)) | (exact absurd h2 (by decide +kernel))
        have n14 : i ≠ 14 := by
          rintro rfl
          first | exact absurd rfl hne | exact absurd rfl hu | (exact absurd h1 (by decide +kernel)) | (exact absurd h2 (by decide +kernel))
        have n16 : i ≠ 16 := by
          rintro rfl
          first | exact absurd rfl hne | exact absurd rfl hu | (exact absurd h1 (by decide +kernel)) | (exact absurd h2 (by decide +kernel))
        obtain ⟨n4, e, r⟩ := hp
        exact ⟨n4, e, r.below r.under (hr n12 n14 n16)⟩
      · have n12 : i ≠ 12 := by
          rintro rfl
          first | exact absurd rfl hne | exact absurd rfl hu | (exact absurd h1 (by decide +kernel)) | (exact absurd h2 (by decide +kernel))
        have n14 : i ≠ 14 := by
          rintro rfl
          first | exact absurd rfl hne | exact absurd rfl hu | (exact absurd h1 (by decide +kernel)) | (exact absurd h2 (by decide +kernel))
        have n16 : i ≠ 16 := by
          rintro rfl
          first | exact absurd rfl hne | exact absurd rfl hu | (exact absurd h1 (by decide +kernel)) | (exact absurd h2 (by decide +kernel))
        exact ⟨hp.1, hp.2.carry fun y _ hy => (hr n12 n14 n16).block y hy⟩
      · exact hp
      · have n12 : i ≠ 12 := by
          rintro rfl
          first | exact absurd rfl hne | exact absurd rfl hu | (exact absurd h1 (by decide +kernel)) | (exact absurd h2 (by decide +kernel))
        have n14 : i ≠ 14 := by
          rintro rfl
          first | exact absurd rfl hne | exact absurd rfl hu | (exact absurd h1 (by decide +kernel)) | (exact absurd h2 (by decide +kernel))
        have n16 : i ≠ 16 := by
          rintro rfl
          first | exact absurd rfl hne | exact absurd rfl hu | (exact absurd h1 (by decide +kernel)) | (exact absurd h2 (by decide +kernel))
        exact ⟨hp.1, hp.2.carry fun y _ hy => (hr n12 n14 n16).block y hy⟩
      · exact hp
      · have n12 : i ≠ 12 := by
          rintro rfl
          first | exact absurd rfl hne | exact absurd rfl hu | (exact absurd h1 (by decide +kernel)) | (exact absurd h2 (by decide +kernel))
        have n14 : i ≠ 14 := by
          rintro rfl
          first | exact absurd rfl hne | exact absurd rfl hu | (exact absurd h1 (by decide +kernel)) | (exact absurd h2 (by decide +kernel))
        have n16 : i ≠ 16 := by
          rintro rfl
          first | exact absurd rfl hne | exact absurd rfl hu | (exact absurd h1 (by decide +kernel)) | (exact absurd h2 (by decide +kernel))
        exfalso
        have hi'' : i < 17 := hi
        have hc2 : i = 0 ∨ i = 1 ∨ i = 2 ∨ i = 3 ∨ i = 4 ∨ i = 5 ∨ i = 6 ∨ i = 7 ∨ i = 8 ∨ i = 9 ∨ i = 10 ∨ i = 11 ∨ i = 12 ∨ i = 13 ∨ i = 14 ∨ i = 15 ∨ i = 16 := by omega
        rcases hc2 with rfl | rfl | rfl | rfl | rfl | rfl | rfl | rfl | rfl | rfl | rfl | rfl | rfl | rfl | rfl | rfl | rfl
        all_goals first | exact absurd rfl hne | (exact absurd h1 (by decide +kernel))
    case h0 => exact fun _ => (Below.refl _ _).drew
    case step =>
      intro i o hi ho L a' y x hLi hwt hre hkp hI hp
      have s0' : a'.tmps.getD 0 undef = (.pointer (some ⟨P, 0, none⟩)) := hkp.slot 0 (by kernel_rfl)
      have s0 : a'.tmps[0]?.getD undef = (.pointer (some ⟨P, 0, none⟩)) := by simpa using s0'
      have s3' : a'.tmps.getD 3 undef = (.pointer (some ⟨w.heap.size, 0, none⟩)) := hkp.slot 3 (by kernel_rfl)
      have s3 : a'.tmps[3]?.getD undef = (.pointer (some ⟨w.heap.size, 0, none⟩)) := by simpa using s3'
      have s4' : a'.tmps.getD 4 undef = (.int .i64 (j : Int)) := hkp.slot 4 (by kernel_rfl)
      have s4 : a'.tmps[4]?.getD undef = (.int .i64 (j : Int)) := by simpa using s4'
      have s5' : a'.tmps.getD 5 undef = (.slice al m cl) := hkp.slot 5 (by kernel_rfl)
      have s5 : a'.tmps[5]?.getD undef = (.slice al m cl) := by simpa using s5'
      have s6' : a'.tmps.getD 6 undef = (.int .i64 (k : Int)) := hkp.slot 6 (by kernel_rfl)
      have s6 : a'.tmps[6]?.getD undef = (.int .i64 (k : Int)) := by simpa using s6'
      have s7' : a'.tmps.getD 7 undef = (.slice a7 m7 c7) := hkp.slot 7 (by kernel_rfl)
      have s7 : a'.tmps[7]?.getD undef = (.slice a7 m7 c7) := by simpa using s7'
      have hi' : i < 17 := hi
      have hcases : i = 0 ∨ i = 1 ∨ i = 2 ∨ i = 3 ∨ i = 4 ∨ i = 5 ∨ i = 6 ∨ i = 7 ∨ i = 8 ∨ i = 9 ∨ i = 10 ∨ i = 11 ∨ i = 12 ∨ i = 13 ∨ i = 14 ∨ i = 15 ∨ i = 16 := by omega
      rcases hcases with rfl | rfl | rfl | rfl | rfl | rfl | rfl | rfl | rfl | rfl | rfl | rfl | rfl | rfl | rfl | rfl | rfl
      · cases ho
        have hB := hI (hre 16 (by decide +kernel))
        have FX := RY.out x hB
        refine ⟨wanted_none rfl, Oper.wp_mono (K := fun a'' w'' => a'' = a'.put (some 42) (.pointer (some ⟨P, 0, none⟩)) ∧ w'' = x) ?_ ?_⟩
        · rintro _ _ ⟨rfl, rfl⟩
          exact ⟨_, (), rfl, fun _ _ _ => Below.refl _ _, fun _ => hB, fun u hu => hu (fun h => by cases h)⟩
        · unfold Oper.wp
          simp [go_sem, s0]
      · cases ho
        have hB := hI (hre 16 (by decide +kernel))
        have FX := RY.out x hB
        have q0 : a'.tmps[42]?.getD undef = (.pointer (some ⟨P, 0, none⟩)) := by have h2 : a'.tmps.getD 42 undef = (.pointer (some ⟨P, 0, none⟩)) := hp 0 (of_decide_eq_true (by kernel_rfl)) (.inr (by decide)); simpa using h2
        refine ⟨wanted_none rfl, Oper.wp_mono (K := fun a'' w'' => a'' = a'.put (some 43) (.pointer (some ⟨P, 0, none⟩)) ∧ w'' = x) ?_ ?_⟩
        · rintro _ _ ⟨rfl, rfl⟩
          exact ⟨_, (), rfl, fun _ _ _ => Below.refl _ _, fun _ => hB, fun u hu => hu (fun h => by cases h)⟩
        · unfold Oper.wp
          simp [go_sem, q0]
      · cases ho
        have hB := hI (hre 16 (by decide +kernel))
        have FX := RY.out x hB
        have q1 : a'.tmps[43]?.getD undef = (.pointer (some ⟨P, 0, none⟩)) := by have h2 : a'.tmps.getD 43 undef = (.pointer (some ⟨P, 0, none⟩)) := hp 1 (of_decide_eq_true (by kernel_rfl)) (.inr (by decide)); simpa using h2
        refine ⟨wanted_none rfl, Oper.wp_mono (K := fun a'' w'' => a'' = a'.put (some 44) (.pointer (some ⟨P, 1, none⟩)) ∧ w'' = x) ?_ ?_⟩
        · rintro _ _ ⟨rfl, rfl⟩
          exact ⟨_, (), rfl, fun _ _ _ => Below.refl _ _, fun _ => hB, fun u hu => hu (fun h => by cases h)⟩
        · unfold Oper.wp
          simp [go_sem, q1]
      · cases ho
        have hB := hI (hre 16 (by decide +kernel))
        have FX := RY.out x hB
        have q2 : a'.tmps[44]?.getD undef = (.pointer (some ⟨P, 1, none⟩)) := by have h2 : a'.tmps.getD 44 undef = (.pointer (some ⟨P, 1, none⟩)) := hp 2 (of_decide_eq_true (by kernel_rfl)) (.inr (by decide)); simpa using h2
        refine ⟨wanted_none rfl, Oper.wp_mono (K := fun a'' w'' => a'' = a'.put (some 45) (.slice (some ⟨g, 0, none⟩) 8 cap) ∧ w'' = x) ?_ ?_⟩
        · rintro _ _ ⟨rfl, rfl⟩
          exact ⟨_, (), rfl, fun _ _ _ => Below.refl _ _, fun _ => hB, fun u hu => hu (fun h => by cases h)⟩
        · unfold Oper.wp
          simp [go_sem, q2, FX.1]
      · cases ho
        have hB := hI (hre 16 (by decide +kernel))
        have FX := RY.out x hB
        refine ⟨wanted_none rfl, Oper.wp_mono (K := fun a'' w'' => a'' = a'.put (some 46) (.int .i64 (j : Int)) ∧ w'' = x) ?_ ?_⟩
        · rintro _ _ ⟨rfl, rfl⟩
          exact ⟨_, (), rfl, fun _ _ _ => Below.refl _ _, fun _ => hB, fun u hu => hu (fun h => by cases h)⟩
        · unfold Oper.wp
          simp [go_sem, s4]
      · cases ho
        have hB := hI (hre 16 (by decide +kernel))
        have FX := RY.out x hB
        refine ⟨wanted_none rfl, Oper.wp_mono (K := fun a'' w'' => a'' = a'.put (some 47) (.slice (some ⟨x.heap.size, 0, none⟩) 0 0) ∧ w'' = x.alloc (.cells #[] 33)) ?_ ?_⟩
        · rintro _ _ ⟨rfl, rfl⟩
          exact ⟨_, (), rfl, fun _ _ _ => (Below.refl _ _).alloc (Nat.le_refl _) _, fun _ => hB.alloc FX.2.2.2.2.1 _, fun u hu => by rw [hu (fun h => by cases h)]; exact ⟨x.heap.size, rfl, du_built x w5.heap.size FX.2.2.2.2.1⟩⟩
        · unfold Oper.wp
          simp [go_sem]
      · cases ho
        have hB := hI (hre 16 (by decide +kernel))
        have FX := RY.out x hB
        refine ⟨wanted_none rfl, Oper.wp_mono (K := fun a'' w'' => a'' = a'.put (some 48) (.slice al m cl) ∧ w'' = x) ?_ ?_⟩
        · rintro _ _ ⟨rfl, rfl⟩
          exact ⟨_, (), rfl, fun _ _ _ => Below.refl _ _, fun _ => hB, fun u hu => hu (fun h => by cases h)⟩
        · unfold Oper.wp
          simp [go_sem, s5]
      · cases ho
        have hB := hI (hre 16 (by decide +kernel))
        have FX := RY.out x hB
        refine ⟨wanted_none rfl, Oper.wp_mono (K := fun a'' w'' => a'' = a'.put (some 49) (.int .i64 (k : Int)) ∧ w'' = x) ?_ ?_⟩
        · rintro _ _ ⟨rfl, rfl⟩
          exact ⟨_, (), rfl, fun _ _ _ => Below.refl _ _, fun _ => hB, fun u hu => hu (fun h => by cases h)⟩
        · unfold Oper.wp
          simp [go_sem, s6]
      · cases ho
        have hB := hI (hre 16 (by decide +kernel))
        have FX := RY.out x hB
        have q6 : a'.tmps[48]?.getD undef = (.slice al m cl) := by have h2 : a'.tmps.getD 48 undef = (.slice al m cl) := hp 6 (of_decide_eq_true (by kernel_rfl)) (.inr (by decide)); simpa using h2
        have q7 : a'.tmps[49]?.getD undef = (.int .i64 (k : Int)) := by have h2 : a'.tmps.getD 49 undef = (.int .i64 (k : Int)) := hp 7 (of_decide_eq_true (by kernel_rfl)) (.inr (by decide)); simpa using h2
        refine ⟨wanted_none rfl, Oper.wp_mono (K := fun a'' w'' => a'' = a'.put (some 50) (.slice al k cl) ∧ w'' = x) ?_ ?_⟩
        · rintro _ _ ⟨rfl, rfl⟩
          exact ⟨_, (), rfl, fun _ _ _ => Below.refl _ _, fun _ => hB, fun u hu => hu (fun h => by cases h)⟩
        · rcases hal with ea | ⟨gl, ol, ea⟩
          · have hcl : cl = 0 := hnil ea
            have hk0 : k = 0 := by omega
            rw [ea, hcl] at q6
            rw [ea, hcl, hk0]
            rw [hk0] at q7
            have hm0 : m = 0 := by omega
            rw [hm0] at q6
            unfold Oper.wp
            simp [go_sem, q6, q7]
          · rw [ea] at q6
            rw [ea]
            unfold Oper.wp
            simp [go_sem, q6, q7, hkc]
      · cases ho
        have hB := hI (hre 16 (by decide +kernel))
        have FX := RY.out x hB
        have q8 : a'.tmps[50]?.getD undef = (.slice al k cl) := by have h2 : a'.tmps.getD 50 undef = (.slice al k cl) := hp 8 (of_decide_eq_true (by kernel_rfl)) (.inr (by decide)); simpa using h2
        obtain ⟨n0, e5, h5⟩ := hp 5 (of_decide_eq_true (by kernel_rfl)) (.inl rfl)
        have e5 : a'.tmps.getD 47 undef = .slice (some ⟨n0, 0, none⟩) 0 0 := e5
        have h5 : DuRow w5.heap.size x (a'.tmps.getD 47 undef) [] := h5
        rw [e5] at h5
        refine ⟨wanted_none rfl, du_op_empty (.tmp 47) (.tmp 50) rfl w5.heap.size n0 al k cl (l.take k) Tk.out (by simpa [Act.eval] using e5) (by simpa [Act.eval] using q8) h5 (FX.2.2.1.take k) hnil (by rw [Tk.out]; omega) FX.2.2.2.2.1 ?_⟩
        intro v' z r1 r2
        obtain ⟨a2, c2, ev⟩ := r1.shape
        rw [Tk.out] at ev
        exact ⟨_, (), rfl, fun _ _ _ => r2, fun _ => hB.trans (r2.mono FX.2.2.2.2.1), fun u hu => by rw [hu (fun h => by cases h)]; exact ⟨⟨a2, c2, ev⟩, r1⟩⟩
      · cases ho
        have hB := hI (hre 16 (by decide +kernel))
        have FX := RY.out x hB
        exact ⟨wanted_none rfl, wp_load_row 33 (.tmp 3) rfl w.heap.size s3' _ _ _ _ FX.2.1 Tryz.underlying33 rfl (by kernel_rfl) ⟨_, (), rfl, fun _ _ _ => Below.refl _ _, fun _ => hB, fun u hu => hu (fun h => by cases h)⟩⟩
      · cases ho
        have hB := hI (hre 16 (by decide +kernel))
        have FX := RY.out x hB
        have q10 : a'.tmps[52]?.getD undef = (.agg #[.int .i64 dt, .int .i64 di]) := by have h2 : a'.tmps.getD 52 undef = (.agg #[.int .i64 dt, .int .i64 di]) := hp 10 (of_decide_eq_true (by kernel_rfl)) (.inr (by decide)); simpa using h2
        refine ⟨wanted_none rfl, Oper.wp_mono (K := fun a'' w'' => a'' = a'.put (some 53) (.slice (some ⟨x.heap.size, 0, none⟩) 1 1) ∧ w'' = x.alloc (.cells #[.int .i64 dt, .int .i64 di] 33)) ?_ ?_⟩
        · rintro _ _ ⟨rfl, rfl⟩
          exact ⟨_, (), rfl, fun _ _ _ => (Below.refl _ _).alloc (Nat.le_refl _) _, fun _ => hB.alloc FX.2.2.2.2.1 _, fun u hu => ⟨x.heap.size, hu (fun h => by cases h), Boxed.new _ _ _⟩⟩
        · unfold Oper.wp
          simp [go_sem, q10]
      · cases ho
        have hB := hI (hre 16 (by decide +kernel))
        have FX := RY.out x hB
        obtain ⟨⟨a2, c2, e9⟩, h9⟩ := hp 9 (of_decide_eq_true (by kernel_rfl)) (.inl rfl)
        have e9 : a'.tmps.getD 51 undef = .slice a2 k c2 := e9
        have h9 : DuRow w5.heap.size x (a'.tmps.getD 51 undef) (l.take k) := h9
        rw [e9] at h9
        obtain ⟨n4, e11, h11⟩ := hp 11 (of_decide_eq_true (by kernel_rfl)) (.inl rfl)
        have e11 : a'.tmps.getD 53 undef = .slice (some ⟨n4, 0, none⟩) 1 1 := e11
        refine ⟨wanted_none rfl, du_op_where (.tmp 51) (.tmp 53) rfl w5.heap.size (.slice a2 k c2) (l.take k) ⟨dt, di⟩ (by simpa [Act.eval] using e9) h9 (by simpa [Act.eval] using e11) h11 (by rw [Tk.out]; omega) FX.2.2.2.2.1 ?_⟩
        intro v' z r1 r2 _ _
        obtain ⟨a3, c3, ev⟩ := r1.shape
        rw [List.length_append, List.length_singleton, Tk.out] at ev
        exact ⟨_, (), rfl, fun n => absurd rfl n, fun _ => hB.trans r2, fun u hu => by rw [hu (fun h => by cases h)]; exact ⟨⟨a3, c3, ev⟩, r1⟩⟩
      · cases ho
        have hB := hI (hre 16 (by decide +kernel))
        have FX := RY.out x hB
        refine ⟨wanted_none rfl, Oper.wp_mono (K := fun a'' w'' => a'' = a'.put (some 55) (.slice a7 m7 c7) ∧ w'' = x) ?_ ?_⟩
        · rintro _ _ ⟨rfl, rfl⟩
          exact ⟨_, (), rfl, fun _ _ _ => Below.refl _ _, fun _ => hB, fun u hu => hu (fun h => by cases h)⟩
        · unfold Oper.wp
          simp [go_sem, s7]
      · cases ho
        have hB := hI (hre 16 (by decide +kernel))
        have FX := RY.out x hB
        have q13 : a'.tmps[55]?.getD undef = (.slice a7 m7 c7) := by have h2 : a'.tmps.getD 55 undef = (.slice a7 m7 c7) := hp 13 (of_decide_eq_true (by kernel_rfl)) (.inr (by decide)); simpa using h2
        obtain ⟨⟨a2, c2, e12⟩, h12⟩ := hp 12 (of_decide_eq_true (by kernel_rfl)) (.inl rfl)
        have e12 : a'.tmps.getD 54 undef = .slice a2 (k + 1) c2 := e12
        have h12 : DuRow w5.heap.size x (a'.tmps.getD 54 undef) (l.take k ++ [⟨dt, di⟩]) := h12
        rw [e12] at h12
        refine ⟨wanted_none rfl, du_op_app (.tmp 54) (.tmp 55) rfl w5.heap.size (.slice a2 (k + 1) c2) (l.take k ++ [⟨dt, di⟩]) a7 m7 c7 (l.drop k) Ml.out (by simpa [Act.eval] using e12) (by simpa [Act.eval] using q13) h12 FX.2.2.2.1 hn7 (by rw [List.length_append, List.length_singleton, Tk.out, Ml.out]; omega) FX.2.2.2.2.1 ?_⟩
        intro v' z r1 r2 _ _
        obtain ⟨a3, c3, ev⟩ := r1.shape
        rw [List.length_append, List.length_append, List.length_singleton, Tk.out, Ml.out] at ev
        exact ⟨_, (), rfl, fun _ n => absurd rfl n, fun _ => hB.trans r2, fun u hu => by rw [hu (fun h => by cases h)]; exact ⟨⟨a3, c3, ev⟩, r1⟩⟩
      · cases ho
        have hB := hI (hre 16 (by decide +kernel))
        have FX := RY.out x hB
        have q3 : a'.tmps[45]?.getD undef = (.slice (some ⟨g, 0, none⟩) 8 cap) := by have h2 : a'.tmps.getD 45 undef = (.slice (some ⟨g, 0, none⟩) 8 cap) := hp 3 (of_decide_eq_true (by kernel_rfl)) (.inr (by decide)); simpa using h2
        have q4 : a'.tmps[46]?.getD undef = (.int .i64 (j : Int)) := by have h2 : a'.tmps.getD 46 undef = (.int .i64 (j : Int)) := hp 4 (of_decide_eq_true (by kernel_rfl)) (.inr (by decide)); simpa using h2
        refine ⟨wanted_none rfl, Oper.wp_mono (K := fun a'' w'' => a'' = a'.put (some 57) (.pointer (some ⟨g, j, none⟩)) ∧ w'' = x) ?_ ?_⟩
        · rintro _ _ ⟨rfl, rfl⟩
          exact ⟨_, (), rfl, fun _ _ _ => Below.refl _ _, fun _ => hB, fun u hu => hu (fun h => by cases h)⟩
        · unfold Oper.wp
          simp [go_sem, q3, q4, hj8']
      · cases ho
        have hB := hI hLi
        have FX := RY.out x hB
        have q15 : a'.tmps[57]?.getD undef = (.pointer (some ⟨g, j, none⟩)) := by have h2 : a'.tmps.getD 57 undef = (.pointer (some ⟨g, j, none⟩)) := hp 15 (of_decide_eq_true (by kernel_rfl)) (.inr (by decide)); simpa using h2
        obtain ⟨⟨a2, c2, e14⟩, h14⟩ := hp 14 (of_decide_eq_true (by kernel_rfl)) (.inl rfl)
        have e14 : a'.tmps.getD 56 undef = .slice a2 (k + 1 + m7) c2 := e14
        have h14r : DuRow w5.heap.size x (.slice a2 (k + 1 + m7) c2) (l.take k ++ [⟨dt, di⟩] ++ l.drop k) := by rw [← e14]; exact h14
        have e14' : a'.tmps[56]?.getD undef = .slice a2 (k + 1 + m7) c2 := by simpa using e14
        have fc : x.cell? ⟨g, j, none⟩ = some (.slice al m cl) := (RX.out _ FX.2.2.2.2.2.2).2.2.2.2.1
        have fi : x.frozen? ⟨g, j, none⟩ = false := by have := FX.2.2.2.2.2.1.mem.outer; rw [h8] at this; exact World.ownsRow.frozenAt this j
        refine ⟨wanted_none rfl, Oper.wp_mono (K := fun a'' w'' => a'' = a'.put none undef ∧ w'' = x.setCell ⟨g, j, none⟩ (.slice a2 (k + 1 + m7) c2)) ?_ ?_⟩
        · rintro _ _ ⟨rfl, rfl⟩
          exact ⟨undef, (), rfl, fun _ _ n => absurd rfl n, fun h => by simp at h, fun u hu => ⟨.slice a2 (k + 1 + m7) c2, x, hB, h14r, rfl⟩⟩
        · unfold Oper.wp
          simp [go_sem, q15, e14', fc, fi]
    case last =>
    intro L a' y x hall hkp hI hp
    obtain ⟨u, x0, r1, r2, r3⟩ := hp 16 (by decide) (by decide)
    have FX := RY.out x0 r1
    have FR : Hid (WhV base P f g cap (vs.set j u) (ls.set j (ins l ⟨dt, di⟩)) x ∧ Below base w x) := by
      have e : ins l ⟨dt, di⟩ = (l.take k ++ [⟨dt, di⟩] ++ l.drop k) := by
        show l.take (ahead l ⟨dt, di⟩) ++ (⟨dt, di⟩ :: l.drop (ahead l ⟨dt, di⟩)) = _
        rw [Hk.out]
        simp
      rw [e, r3]
      have hwb : base ≤ w5.heap.size := Nat.le_trans Hbw.out (Nat.le_trans X.out.2.2.size H5.out.1.size)
      have hx0 : ∀ y, y < x0.heap.size → x0.heap[y]? = x0.heap[y]? := fun _ _ => rfl
      have hm0 := FX.2.2.2.2.2.1.mem
      have hgb := (World.ownsRow.lt hm0.outer g rfl).1
      have hset : DzG base (.slice (some ⟨g, 0, none⟩) 8 cap) (vs.set j u) (ls.set j (l.take k ++ [⟨dt, di⟩] ++ l.drop k)) (x0.setCell ⟨g, j, none⟩ u) := by
        have b5 : DzG base (.slice (some ⟨g, 0, none⟩) 8 cap) vs ls w5 := (RY.out w5 (Below.refl _ _)).2.2.2.2.2.1.mem
        exact b5.set (wx := x0) hj8l (r2.mono hwb) (fun y _ hy => r1.block y hy) (fun y hy => .inr (r2.lt y hy).1) (by rw [h8])
      have hPb := X.out.1.ne
      refine ⟨⟨?_, hset, ?_⟩, ?_⟩
      · exact (Below.heap_setCell _ _ _ _ hPb).trans FX.2.2.2.2.2.1.box
      · have := FX.2.2.2.2.2.1.up; simpa using this
      · exact (((X.out.2.2.trans (FX.2.2.2.2.2.2.mono X.out.2.2.size)).mono Hbw.out).setCell (by show base ≤ g; exact hgb) _)
    have ha := hkp.pick [true, true, true, true, true, true, true, true, true, true, true, true, true, true, true, true, true, true, true, true, true, true, true, true, true, true, true, true, true, true, true, true, true, true, true, true, true, true, true, true, true, true, false, false, false, false, false, false, false, false, false, false, false, false, false, false, false, false] (by kernel_rfl)
    simp only [pickS] at ha
    clear hp hkp hI hall r1 r2 r3 FX
    generalize a'.tmps.getD 42 undef = y42 at ha
    generalize a'.tmps.getD 43 undef = y43 at ha
    generalize a'.tmps.getD 44 undef = y44 at ha
    generalize a'.tmps.getD 45 undef = y45 at ha
    generalize a'.tmps.getD 46 undef = y46 at ha
    generalize a'.tmps.getD 47 undef = y47 at ha
    generalize a'.tmps.getD 48 undef = y48 at ha
    generalize a'.tmps.getD 49 undef = y49 at ha
    generalize a'.tmps.getD 50 undef = y50 at ha
    generalize a'.tmps.getD 51 undef = y51 at ha
    generalize a'.tmps.getD 52 undef = y52 at ha
    generalize a'.tmps.getD 53 undef = y53 at ha
    generalize a'.tmps.getD 54 undef = y54 at ha
    generalize a'.tmps.getD 55 undef = y55 at ha
    generalize a'.tmps.getD 56 undef = y56 at ha
    generalize a'.tmps.getD 57 undef = y57 at ha
    rw [ha]
    clear ha
    go_wp2
    go_end0
    exact ⟨rfl, _, FR.out⟩
end Go.Proofs.YtkocbfikcjgigaaGreat
