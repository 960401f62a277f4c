/-
  The walk of the model's put into a heap. By the verifier, by program.
-/
import Derived.Test.YtkocbfikcjgigaaGreatDuSpec
import Derived.Test.YtkocbfikcjgigaaGreatDuWhere
import Derived.Test.YtkocbfikcjgigaaGreatM6WhCopyS
import Derived.Test.YtkocbfikcjgigaaGreatM9RegList
import Derived.Test.YtkocbfikcjgigaaGreatM8RegGuard
import Derived.Test.YtkocbfikcjgigaaGreatOpAsg
import Derived.Test.YtkocbfikcjgigaaGreatM1DuFn
import Derived.Test.YtkocbfikcjgigaaGreatBoxed
namespace Go.Proofs.YtkocbfikcjgigaaGreat
open Go.RowKit

/-- A list of the call's own that is not nil: two of it change places. -/
structure DuO (w : World) (g c : Nat) (l : List Du) (x : World) : Prop where
  row : DuRow (w.heap.size + 1) x (.slice (some ⟨g, 0, none⟩) l.length c) l
  bel : Below w.heap.size w x
section
variable {w x x' : World} {g c : Nat} {l : List Du}
theorem DuO.below (h : DuO w g c l x) (q : Below x.heap.size x x') : DuO w g c l x' := ⟨h.row.carry fun k _ hk => q.block k hk, h.bel.trans (q.mono h.bel.size)⟩
theorem DuO.under (h : DuO w g c l x) : w.heap.size < g ∧ g < x.heap.size := by have := h.row.lt g rfl; omega
theorem DuO.cell (h : DuO w g c l x) {k : Nat} (hk : k < l.length) : x.cell? ⟨g, k * 2, none⟩ = some (.int .i64 (duAt l k).time) ∧ x.cell? ⟨g, k * 2 + 1, none⟩ = some (.int .i64 (duAt l k).id) := by
  have := h.row.at.cells hk
  rwa [Nat.zero_add] at this
theorem DuO.ice (h : DuO w g c l x) (j : Nat) : x.frozen? ⟨g, j, none⟩ = false := World.ownsRow.frozenAt h.row j
theorem DuO.put (h : DuO w g c l x) (k : Nat) (r : Du) : DuO w g c (l.set k r) ((x.setCell ⟨g, k * 2, none⟩ (.int .i64 r.time)).setCell ⟨g, k * 2 + 1, none⟩ (.int .i64 r.id)) := by
  have hp := DuRow.put h.row k r
  have hu := h.under
  refine ⟨?_, (h.bel.setCell (by show w.heap.size ≤ g; omega) _).setCell (by show w.heap.size ≤ g; omega) _⟩
  unfold DuRow
  rw [List.length_set]
  exact hp
end
/-- What a round of the steps up finds. -/
def DuU (w : World) (g c n : Nat) (R : List Du) (i : Nat) (x : World) : Prop := ∃ cur, DuO w g c cur x ∧ cur.length = n ∧ i < n ∧ up i cur i = R
theorem up_here {l : List Du} {i : Nat} (h : ¬ (0 < i ∧ (duAt l i).lt (duAt l ((i - 1) / 2)))) : up i l i = l := by
  cases i with
  | zero => rfl
  | succ i => unfold up; rw [if_neg h]
theorem up_on {l : List Du} {i : Nat} (h : 0 < i) (hl : (duAt l i).lt (duAt l ((i - 1) / 2))) : up i l i = up ((i - 1) / 2) (swp l i ((i - 1) / 2)) ((i - 1) / 2) := by
  cases i with
  | zero => omega
  | succ i =>
    show up (i + 1) l (i + 1) = _
    rw [show up (i + 1) l (i + 1) = if 0 < i + 1 ∧ (duAt l (i + 1)).lt (duAt l ((i + 1 - 1) / 2)) then up i (swp l (i + 1) ((i + 1 - 1) / 2)) ((i + 1 - 1) / 2) else l from rfl, if_pos ⟨h, hl⟩]
    exact up_fuel _ _ _ _ (by omega) (by omega)

set_option maxHeartbeats 6400000 in
set_option maxRecDepth 100000 in
theorem specDuPut (a : Option Addr) (cap : Nat) (l : List Du) (d : Du) (w : World) (hT : l.length ≤ 1000) (hn0 : a = none → cap = 0) (h : Hid (DusAt w a l)) :
    Calls Tryz.prog 51 #[.slice a l.length cap, d.val] w fun e w' => ∃ g c, e = .returned (.slice (some ⟨g, 0, none⟩) (l.length + 1) c) ∧ DuRow (w.heap.size + 1) w' (.slice (some ⟨g, 0, none⟩) (l.length + 1) c) (hput l d) ∧ Below w.heap.size w w' := by
  obtain ⟨n, hn⟩ : ∃ n, l.length = n := ⟨_, rfl⟩
  have Hn : Hid (l.length = n) := hn
  obtain ⟨R, hR⟩ : ∃ R, R = hput l d := ⟨_, rfl⟩
  have HR : Hid (R = up n (l ++ [d]) n) := by rw [hR, ← hn]; rfl
  rw [hn] at hT ⊢
  rw [← hR]
  clear hR hn
  obtain ⟨t, i⟩ := d
  simp only [Du.val]
  have X : Hid (DusAt (w.alloc (.cells #[.int .i64 t, .int .i64 i] 33)) a l ∧ Boxed (w.alloc (.cells #[.int .i64 t, .int .i64 i] 33)) w.heap.size #[.int .i64 t, .int .i64 i] 33 ∧ Below w.heap.size w (w.alloc (.cells #[.int .i64 t, .int .i64 i] 33)) ∧ w.heap.size + 1 = (w.alloc (.cells #[.int .i64 t, .int .i64 i] 33)).heap.size) := ⟨h.out.alloc _, Boxed.new _ _ _, (Below.refl _ _).alloc (Nat.le_refl _) _, by simp⟩
  clear h
  go_enter Tryz.func51, Tryz.ntmps51
  go_upto_region 1 with fail
  generalize w.alloc (.cells #[.int .i64 t, .int .i64 i] 33) = W at X ⊢
  have RX : Hid (∀ x, Below (w.heap.size + 1) W x → DusAt x a l ∧ Boxed x w.heap.size #[.int .i64 t, .int .i64 i] 33 ∧ Below w.heap.size w x ∧ w.heap.size + 1 ≤ x.heap.size) := fun x q => by
    have e := X.out.2.2.2
    have q2 : Below W.heap.size W x := by rw [← e]; exact q
    exact ⟨X.out.1.below q2, X.out.2.1.below (by omega) q, X.out.2.2.1.trans (q.mono (by omega)), by rw [e]; exact q.size⟩
  refine region_lists (G := Unit) (by kernel_rfl) (by kernel_rfl) (by kernel_rfl) (fun j => if j = 0 then 2 else if j = 2 then 5 else if j = 4 then 5 else if j = 5 then 6 else 99) (fun _ _ x => Below (w.heap.size + 1) W x) (fun k _ x _ x' => k ≠ 5 → Below x.heap.size x x') (fun k y x v => ([fun _ x v => ∃ n0, v = .slice (some ⟨n0, 0, none⟩) 0 0 ∧ DuRow (w.heap.size + 1) x v [], fun _ _ v => v = .slice a n cap, fun _ x v => (∃ a2 c2, v = .slice a2 n c2) ∧ DuRow (w.heap.size + 1) x v l, fun _ _ v => v = .agg #[.int .i64 t, .int .i64 i], fun _ x v => ∃ n4, v = .slice (some ⟨n4, 0, none⟩) 1 1 ∧ Boxed x n4 #[.int .i64 t, .int .i64 i] 33, fun _ x v => (∃ a2 c2, v = .slice a2 (n + 1) c2) ∧ DuRow (w.heap.size + 1) x v (l ++ [⟨t, i⟩]), fun _ x v => (∃ a2 c2, v = .slice a2 (n + 1) c2) ∧ DuRow (w.heap.size + 1) x v (l ++ [⟨t, i⟩])] : List (Unit → World → Value → Prop)).getD k (fun _ _ _ => True) y x v) ?hR () ?h0 ?step ?last
  case hR =>
    intro k j' y y' x x' v hi hj hne hu h1 h2 hp hr
    have hj'' : j' < 7 := hj
    have hcases : j' = 0 ∨ j' = 1 ∨ j' = 2 ∨ j' = 3 ∨ j' = 4 ∨ j' = 5 ∨ j' = 6 := by omega
    rcases hcases with rfl | rfl | rfl | rfl | rfl | rfl | rfl
    · have n5 : k ≠ 5 := by rintro rfl; exact absurd (Eq.trans (by kernel_rfl) h2 : true = false) (by decide)
      obtain ⟨m, e, q⟩ := hp
      exact ⟨m, e, q.carry fun y _ hy => (hr n5).block y hy⟩
    · exact hp
    · have n5 : k ≠ 5 := fun e => hu e.symm
      exact ⟨hp.1, hp.2.carry fun y _ hy => (hr n5).block y hy⟩
    · exact hp
    · have n5 : k ≠ 5 := fun e => hu e.symm
      obtain ⟨m, e, q⟩ := hp
      exact ⟨m, e, q.below q.under (hr n5)⟩
    · exact ⟨hp.1, hp.2.carry fun y _ hy => (hr hne).block y hy⟩
    · have n5 : k ≠ 5 := by rintro rfl; exact absurd (Eq.trans (by kernel_rfl) h1 : true = false) (by decide)
      exact ⟨hp.1, hp.2.carry fun y _ hy => (hr n5).block y hy⟩
  case h0 => exact (Below.refl _ _).drew
  case step =>
    intro k o hi ho L' a' y x hLi hwt hre hkp hI hp
    have FX := RX.out x hI
    have s0 : a'.tmps.getD 0 undef = .slice a n cap := hkp.slot 0 (by kernel_rfl)
    have s3 : a'.tmps.getD 3 undef = .pointer (some ⟨w.heap.size, 0, none⟩) := hkp.slot 3 (by kernel_rfl)
    have hi' : k < 7 := hi
    have hcases : k = 0 ∨ k = 1 ∨ k = 2 ∨ k = 3 ∨ k = 4 ∨ k = 5 ∨ k = 6 := by omega
    rcases hcases with rfl | rfl | rfl | rfl | rfl | rfl | rfl
    · cases ho
      refine ⟨wanted_none rfl, Oper.wp_mono (K := fun a'' w'' => a'' = a'.put (some 8) (.slice (some ⟨x.heap.size, 0, none⟩) 0 0) ∧ w'' = x.alloc (.cells #[] 33)) ?_ ?_⟩
      · rintro _ _ ⟨rfl, rfl⟩
        exact ⟨_, (), rfl, fun _ => (Below.refl _ _).alloc (Nat.le_refl _) _, hI.alloc FX.2.2.2 _, fun u hu => by rw [hu (fun h => by cases h)]; exact ⟨x.heap.size, rfl, du_built x (w.heap.size + 1) FX.2.2.2⟩⟩
      · unfold Oper.wp
        simp [go_sem]
    · cases ho
      exact ⟨wanted_none rfl, op_move 0 rfl ⟨_, (), rfl, fun _ => Below.refl _ _, hI, fun u hu => (hu (fun h => by cases h)).trans s0⟩⟩
    · cases ho
      obtain ⟨m, e24, h24⟩ := hp 0 (of_decide_eq_true (by kernel_rfl)) (.inl rfl)
      have e24 : a'.tmps.getD 8 undef = .slice (some ⟨m, 0, none⟩) 0 0 := e24
      have h24 : DuRow (w.heap.size + 1) x (a'.tmps.getD 8 undef) [] := h24
      rw [e24] at h24
      have e29 : a'.tmps.getD 9 undef = .slice a n cap := hp 1 (of_decide_eq_true (by kernel_rfl)) (.inr (by decide))
      refine ⟨wanted_none rfl, du_op_empty (.tmp 8) (.tmp 9) rfl (w.heap.size + 1) m a n cap l Hn.out (by simpa [Act.eval] using e24) (by simpa [Act.eval] using e29) h24 FX.1 hn0 (by rw [Hn.out]; omega) FX.2.2.2 ?_⟩
      intro v' z q1 q2
      obtain ⟨a2, c2, ev⟩ := q1.shape
      rw [Hn.out] at ev
      exact ⟨_, (), rfl, fun _ => q2, hI.trans (q2.mono FX.2.2.2), fun u hu => by rw [hu (fun h => by cases h)]; exact ⟨⟨a2, c2, ev⟩, q1⟩⟩
    · cases ho
      exact ⟨wanted_none rfl, wp_load_row 33 (.tmp 3) rfl w.heap.size s3 _ _ _ _ FX.2.1 Tryz.underlying33 rfl (by kernel_rfl) ⟨_, (), rfl, fun _ => Below.refl _ _, hI, fun u hu => hu (fun h => by cases h)⟩⟩
    · cases ho
      have q0 : a'.tmps[11]?.getD undef = .agg #[.int .i64 t, .int .i64 i] := by have h2 : a'.tmps.getD 11 undef = .agg #[.int .i64 t, .int .i64 i] := hp 3 (of_decide_eq_true (by kernel_rfl)) (.inr (by decide)); simpa using h2
      refine ⟨wanted_none rfl, Oper.wp_mono (K := fun a'' w'' => a'' = a'.put (some 12) (.slice (some ⟨x.heap.size, 0, none⟩) 1 1) ∧ w'' = x.alloc (.cells #[.int .i64 t, .int .i64 i] 33)) ?_ ?_⟩
      · rintro _ _ ⟨rfl, rfl⟩
        exact ⟨_, (), rfl, fun _ => (Below.refl _ _).alloc (Nat.le_refl _) _, hI.alloc FX.2.2.2 _, fun u hu => ⟨x.heap.size, hu (fun h => by cases h), Boxed.new _ _ _⟩⟩
      · unfold Oper.wp
        simp [go_sem, q0]
    · cases ho
      obtain ⟨⟨a2, c2, e30⟩, h30⟩ := hp 2 (of_decide_eq_true (by kernel_rfl)) (.inl rfl)
      have e30 : a'.tmps.getD 10 undef = .slice a2 n c2 := e30
      have h30 : DuRow (w.heap.size + 1) x (a'.tmps.getD 10 undef) l := h30
      rw [e30] at h30
      obtain ⟨m, e32, h32⟩ := hp 4 (of_decide_eq_true (by kernel_rfl)) (.inl rfl)
      have e32 : a'.tmps.getD 12 undef = .slice (some ⟨m, 0, none⟩) 1 1 := e32
      refine ⟨wanted_none rfl, du_op_where (.tmp 10) (.tmp 12) rfl (w.heap.size + 1) (.slice a2 n c2) l ⟨t, i⟩ (by simpa [Act.eval] using e30) h30 (by simpa [Act.eval] using e32) h32 (by rw [Hn.out]; omega) FX.2.2.2 ?_⟩
      intro v' z q1 q2 _ _
      obtain ⟨a3, c3, ev⟩ := q1.shape
      rw [List.length_append, List.length_singleton, Hn.out] at ev
      exact ⟨_, (), rfl, fun h => absurd rfl h, hI.trans q2, fun u hu => by rw [hu (fun h => by cases h)]; exact ⟨⟨a3, c3, ev⟩, q1⟩⟩
    · cases ho
      have e13 := hp 5 (of_decide_eq_true (by kernel_rfl)) (.inl rfl)
      exact ⟨wanted_none rfl, opAssign 13 rfl ⟨_, (), rfl, fun _ => Below.refl _ _, hI, fun u hu => by rw [hu (fun h => by cases h)]; exact e13⟩⟩
  case last =>
  intro L' a' y x hall hkp hI hp
  obtain ⟨⟨va, vc, ev⟩, hrow⟩ := hp 6 (by decide) (by decide)
  have e5 : a'.tmps.getD 5 undef = .slice va (n + 1) vc := ev
  have hrow : DuRow (w.heap.size + 1) x (a'.tmps.getD 5 undef) (l ++ [⟨t, i⟩]) := hrow
  rw [e5] at hrow
  have hlen : (l ++ [(⟨t, i⟩ : Du)]).length = n + 1 := by rw [List.length_append, Hn.out]; rfl
  obtain ⟨g, c, eg⟩ := hrow.some (by intro q; simp only [Value.slice.injEq] at q; omega)
  rw [hlen] at eg
  have e6 : va = some ⟨g, 0, none⟩ ∧ vc = c := by simpa using eg
  obtain ⟨rfl, rfl⟩ := e6
  have H0 : Hid (DuU w g vc (n + 1) R n x) := ⟨l ++ [⟨t, i⟩], ⟨by rw [hlen]; exact hrow, (RX.out x hI).2.2.1⟩, hlen, by omega, HR.out.symm⟩
  have ha := hkp.pick [true, true, true, true, true, false, true, true, false, false, false, false, false, false, true, true, true, true, true, true, true, true, true, true, true, true, true, true, true, true, true, true, true, true, true, true, true, true, true, true, true, true, true, true, true, true, true, true, true, true, true, true, true, true, true] (by kernel_rfl)
  simp only [pickS] at ha
  rw [e5] at ha
  clear hp hkp hI hall e5 RX X ev hrow eg HR hlen
  generalize a'.tmps.getD 8 undef = y8 at ha
  generalize a'.tmps.getD 9 undef = y9 at ha
  generalize a'.tmps.getD 10 undef = y10 at ha
  generalize a'.tmps.getD 11 undef = y11 at ha
  generalize a'.tmps.getD 12 undef = y12 at ha
  generalize a'.tmps.getD 13 undef = y13 at ha
  rw [ha]
  clear ha
  have hw1 : IntKind.i64.wrap (((n + 1 : Nat) : Int) - 1) = (n : Int) := by rw [IntKind.wrap_i64]; omega
  go_wp2
  clear hw1
  go_loopw [6, 7] (fun s _ wr => ∃ k : Nat, k < n + 1 ∧ s = .int .i64 k ∧ Hid (DuU w g vc (n + 1) R k wr)) (fun s _ _ => (intOf s).toNat)
  case atStart => exact ⟨n, by omega, by first | rfl | go_num, H0⟩
  case round =>
    obtain ⟨k, hk, rfl, HE⟩ := hrel
    clear H0
    obtain ⟨cur, HU⟩ : ∃ cur, Hid (DuO w g vc cur wr ∧ cur.length = n + 1 ∧ k < n + 1 ∧ up k cur k = R) := HE.out
    clear HE
    obtain ⟨wo, rfl⟩ : ∃ wo, wo = wr := ⟨_, rfl⟩
    have hg := HU.out.1.under
    have Lie : Hid (∀ p : BelW wo.heap.size wo, DuO w g vc cur p.w') := fun p => HU.out.1.below p.h
    haveI : Nonempty (BelW wo.heap.size wo) := ⟨⟨wo, Below.refl _ _⟩⟩
    obtain ⟨pp, hpp⟩ : ∃ pp, (k - 1) / 2 = pp := ⟨_, rfl⟩
    have hkl : k < cur.length := by rw [HU.out.2.1]; exact hk
    have hpl : pp < cur.length := by rw [HU.out.2.1]; omega
    have c0 : ∀ p : BelW wo.heap.size wo, p.w'.cell? ⟨g, k * 2, none⟩ = some (.int .i64 (duAt cur k).time) := fun p => ((Lie.out p).cell hkl).1
    have c1 : ∀ p : BelW wo.heap.size wo, p.w'.cell? ⟨g, k * 2 + 1, none⟩ = some (.int .i64 (duAt cur k).id) := fun p => ((Lie.out p).cell hkl).2
    have e0 : ∀ p : BelW wo.heap.size wo, p.w'.cell? ⟨g, pp * 2, none⟩ = some (.int .i64 (duAt cur pp).time) := fun p => ((Lie.out p).cell hpl).1
    have e1 : ∀ p : BelW wo.heap.size wo, p.w'.cell? ⟨g, pp * 2 + 1, none⟩ = some (.int .i64 (duAt cur pp).id) := fun p => ((Lie.out p).cell hpl).2
    have A3 := fun w => specBefore (duAt cur k) (duAt cur pp) w
    have hkn : (k : Int) < ((n + 1 : Nat) : Int) := by omega
    have hkn' : k < n + 1 := hk
    by_cases hk0 : k = 0
    · have hk1 : ¬ (0 : Int) < (k : Int) := by omega
      have hk2 : ¬ 0 < k := by omega
      have hk3 : decide ((0 : Int) < (k : Int)) = false := decide_eq_false hk1
      have hk4 : decide (0 < k) = false := decide_eq_false hk2
      have Hk0 : Hid (k = 0) := hk0
      clear hk0 A3
      go_wp2_with fail
      refine region_below wo.heap.size (by kernel_rfl) (by kernel_rfl) ?_
      repeat (go_big_quiet_step ((fail)))
      refine wpQuiet_nil ?_
      intro w2 hx
      have q2 : Hid (Below wo.heap.size wo w2) := BelW.out hx
      clear hx c0 c1 e0 e1 Lie
      have fin := HU.out.2.2.2
      have e : R = cur := by rw [← fin]; exact up_here (fun q => by have := Hk0.out; omega)
      have FR : Hid (DuRow (w.heap.size + 1) w2 (.slice (some ⟨g, 0, none⟩) (n + 1) vc) R ∧ Below w.heap.size w w2) := by
        have h1 := HU.out.1.below q2.out
        rw [e, ← HU.out.2.1]
        exact ⟨h1.row, h1.bel⟩
      clear fin e HU q2
      go_wp2
      go_ret
      exact ⟨g, vc, rfl, FR.out⟩
    have hk1 : (0 : Int) < (k : Int) := by omega
    have hk2 : 0 < k := by omega
    have kt : Int.tdiv ((k : Int) - 1) 2 = (pp : Int) := by rw [Int.tdiv_eq_ediv_of_nonneg (by omega), ← hpp]; omega
    have kw1 : IntKind.i64.wrap ((k : Int) - 1) = (k : Int) - 1 := by rw [IntKind.wrap_i64]; omega
    have kw2 : IntKind.i64.wrap (pp : Int) = (pp : Int) := by rw [IntKind.wrap_i64]; omega
    have kp : (pp : Int) < ((n + 1 : Nat) : Int) := by omega
    have kp' : pp < n + 1 := by omega
    have Hpp : Hid ((k - 1) / 2 = pp) := hpp
    have Hw : Hid (swp cur k pp = (cur.set k (duAt cur pp)).set pp (duAt cur k)) := rfl
    have Pt : Hid (∀ x (r1 r2 : Du), DuO w g vc cur x → DuO w g vc ((cur.set k r1).set pp r2) ((((x.setCell ⟨g, k * 2, none⟩ (.int .i64 r1.time)).setCell ⟨g, k * 2 + 1, none⟩ (.int .i64 r1.id)).setCell ⟨g, pp * 2, none⟩ (.int .i64 r2.time)).setCell ⟨g, pp * 2 + 1, none⟩ (.int .i64 r2.id)) ∧ DuO w g vc (cur.set k r1) ((x.setCell ⟨g, k * 2, none⟩ (.int .i64 r1.time)).setCell ⟨g, k * 2 + 1, none⟩ (.int .i64 r1.id))) := fun x r1 r2 hx => ⟨(hx.put k r1).put pp r2, hx.put k r1⟩
    clear hpp
    by_cases hlt : (duAt cur k).lt (duAt cur pp)
    rotate_left
    · have hd : decide ((duAt cur k).lt (duAt cur pp)) = false := decide_eq_false hlt
      rw [hd] at A3
      have Hl : Hid (¬ (duAt cur k).lt (duAt cur pp)) := hlt
      clear hlt hd Pt Hw
      have Hno : Hid (¬ (0 < k ∧ (duAt cur k).lt (duAt cur ((k - 1) / 2)))) := by show ¬ _; rw [Hpp.out]; exact fun q => Hl.out q.2
      generalize duAt cur k = x at c0 c1 A3
      generalize duAt cur pp = y at e0 e1 A3
      obtain ⟨x0, x1⟩ := x
      obtain ⟨y0, y1⟩ := y
      simp only [Du.val] at c0 c1 e0 e1 A3
      have A3' : Hid _ := A3
      clear A3 Hl
      go_wp2_with fail
      refine region_below wo.heap.size (by kernel_rfl) (by kernel_rfl) ?_
      repeat (go_big_quiet_step ((go_at_call 47; with_reducible refine quiet_below (Nat.le_refl _) (A3'.out _))))
      refine wpQuiet_nil ?_
      intro w2 hx
      have q2 : Hid (Below wo.heap.size wo w2) := BelW.out hx
      clear hx c0 c1 e0 e1 Lie
      have fin := HU.out.2.2.2
      have e : R = cur := by rw [← fin]; exact up_here Hno.out
      have FR : Hid (DuRow (w.heap.size + 1) w2 (.slice (some ⟨g, 0, none⟩) (n + 1) vc) R ∧ Below w.heap.size w w2) := by
        have h1 := HU.out.1.below q2.out
        rw [e, ← HU.out.2.1]
        exact ⟨h1.row, h1.bel⟩
      clear fin e HU q2
      go_wp2
      go_ret
      exact ⟨g, vc, rfl, FR.out⟩
    have hd : decide ((duAt cur k).lt (duAt cur pp)) = true := decide_eq_true hlt
    rw [hd] at A3
    have Hup : Hid (up pp (swp cur k pp) pp = R) := by
      have h1 := HU.out.2.2.2
      rw [up_on hk2 (by rw [Hpp.out]; exact hlt), Hpp.out] at h1
      exact h1
    clear hlt hd
    have HC : Hid (cur.length = n + 1) := HU.out.2.1
    have cs0 := fun x (hx : DuO w g vc cur x) => (hx.cell hkl)
    have cs1 := fun x (hx : DuO w g vc cur x) => (hx.cell hpl)
    have cs2 := fun x r1 (hx : DuO w g vc (cur.set k r1) x) => (hx.cell (k := pp) (by rw [List.length_set]; exact hpl))
    have HC0 : Hid _ := cs0
    have HC1 : Hid _ := cs1
    have HC2 : Hid _ := cs2
    generalize duAt cur k = x at c0 c1 A3 HC0 Hw
    generalize duAt cur pp = y at e0 e1 A3 HC1 Hw
    obtain ⟨x0, x1⟩ := x
    obtain ⟨y0, y1⟩ := y
    simp only [Du.val] at c0 c1 e0 e1 A3 HC0 HC1
    have A3' : Hid _ := A3
    clear A3 cs0 cs1 cs2
    go_wp2_with fail
    refine region_below wo.heap.size (by kernel_rfl) (by kernel_rfl) ?_
    repeat (go_big_quiet_step ((go_at_call 47; with_reducible refine quiet_below (Nat.le_refl _) (A3'.out _))))
    refine wpQuiet_nil ?_
    intro w2 hx
    have H2 : Hid (DuO w g vc cur w2) := HU.out.1.below (BelW.out hx)
    clear hx c0 c1 e0 e1 Lie HU A3'
    obtain ⟨f0, f1⟩ := HC0.out w2 H2.out
    have lg2 : g < w2.heap.size := H2.out.under.2
    have N : Hid (Boxed (w2.alloc (.cells #[.int .i64 0, .int .i64 0] 33)) w2.heap.size #[.int .i64 0, .int .i64 0] 33) := Boxed.new _ _ _
    obtain ⟨w3, hw3⟩ : ∃ w3, (w2.alloc (.cells #[.int .i64 0, .int .i64 0] 33)).setRow w2.heap.size #[.int .i64 x0, .int .i64 x1] = w3 := ⟨_, rfl⟩
    have b3 : Below w2.heap.size w2 w3 := by rw [← hw3]; exact below_setRow ((Below.refl _ _).alloc (Nat.le_refl _) _) (Nat.le_refl _) _
    have V3 : Hid (Boxed w3 w2.heap.size #[.int .i64 x0, .int .i64 x1] 33) := by rw [← hw3]; exact setRow_heap _ _ _ _ _ _ N.out
    have H3 : Hid (DuO w g vc cur w3) := H2.out.below b3
    have HW3 : Hid _ := hw3
    clear b3 hw3
    go_upto_region 5 with (refine wpList_store_row rfl 33 (.tmp 7) (.tmp 35) rfl w2.heap.size #[.int .i64 x0, .int .i64 x1] rfl rfl _ _ N.out (by kernel_rfl) rfl (by simp [Value.oneCell']) ?_)
    rw [HW3.out]
    clear N HW3 f0 f1
    generalize w2.heap.size = bx at V3 lg2 ⊢
    obtain ⟨f0, f1⟩ := HC1.out w3 H3.out
    obtain ⟨g0, g1⟩ := HC0.out w3 H3.out
    have z0 := H3.out.ice (k * 2)
    have z1 := H3.out.ice (k * 2 + 1)
    have lg3 : g < w3.heap.size := H3.out.under.2
    have H5 := Pt.out w3 ⟨y0, y1⟩ ⟨x0, x1⟩ H3.out
    have H4 : Hid (DuO w g vc (cur.set k ⟨y0, y1⟩) ((w3.setCell ⟨g, k * 2, none⟩ (.int .i64 y0)).setCell ⟨g, k * 2 + 1, none⟩ (.int .i64 y1))) := H5.2
    have H6 : Hid (DuO w g vc (swp cur k pp) ((((w3.setCell ⟨g, k * 2, none⟩ (.int .i64 y0)).setCell ⟨g, k * 2 + 1, none⟩ (.int .i64 y1)).setCell ⟨g, pp * 2, none⟩ (.int .i64 x0)).setCell ⟨g, pp * 2 + 1, none⟩ (.int .i64 x1))) := by rw [Hw.out]; exact H5.1
    have V4 : Hid (Boxed ((w3.setCell ⟨g, k * 2, none⟩ (.int .i64 y0)).setCell ⟨g, k * 2 + 1, none⟩ (.int .i64 y1)) bx #[.int .i64 x0, .int .i64 x1] 33) := (V3.out.far (by omega) _ _).far (by omega) _ _
    clear H5 Pt Hw
    go_upto_region 6 with fail
    generalize (w3.setCell ⟨g, k * 2, none⟩ (.int .i64 y0)).setCell ⟨g, k * 2 + 1, none⟩ (.int .i64 y1) = w4 at H4 H6 V4 ⊢
    clear f0 f1 g0 g1 z0 z1 lg3 H3 V3
    obtain ⟨f0, f1⟩ := HC2.out w4 _ H4.out
    have z0 := H4.out.ice (pp * 2)
    have z1 := H4.out.ice (pp * 2 + 1)
    have lg4 : g < w4.heap.size := H4.out.under.2
    have v0 : w4.cell? ⟨bx, 0, none⟩ = some (.int .i64 x0) := V4.out.cell 0 rfl
    have v1 : w4.cell? ⟨bx, 1, none⟩ = some (.int .i64 x1) := V4.out.cell 1 rfl
    have HD : Hid (DuU w g vc (n + 1) R pp ((w4.setCell ⟨g, pp * 2, none⟩ (.int .i64 x0)).setCell ⟨g, pp * 2 + 1, none⟩ (.int .i64 x1))) := ⟨_, H6.out, by rw [swp_len]; exact HC.out, kp', Hup.out⟩
    clear H6 Hup
    go_wp2
    go_roundw
    case rel => exact ⟨pp, by omega, by first | rfl | simp only [kt, kw2], HD⟩
    case measure => simp [intOf]; have := Hpp.out; omega
end Go.Proofs.YtkocbfikcjgigaaGreat
