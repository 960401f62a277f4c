/-
  The walk of the model's HeapTake. By the verifier, by program.
-/
import Derived.Test.YtkocbfikcjgigaaDuPutS
import Derived.Deep.LoopGhost
import Derived.Deep.CutRange
namespace Go.Proofs.Ytkocbfikcjgigaa
open Go.RowKit

/-- Results: a slot, a struct's variable, a slot. -/
theorem results_tmp_row_tmp {P : Program} {fn : Func} {p q r : Tmp} {ty : TypeId} (h : fn.results = #[.tmp q, .cell p ty, .tmp r]) (tmps : Array Value) (w : World) (g : Nat) (t : TypeId) (cs : Array Value) (fr : Nat × Nat) (d : TypeDesc) (v u : Value)
    (hv : tmps.getD q undef = v) (hp : tmps.getD p undef = .pointer (some ⟨g, 0, none⟩)) (hu' : tmps.getD r undef = u) (hg : w.heap[g]? = some (.cells cs t fr))
    (hu : P.underlying ty = some d) (hd : (match d with | .struct _ | .array _ _ => true | _ => false) = true) (hi : (P.info? ty).map (·.size) = some cs.size) :
    (results fn tmps).run P w = .ok (.tuple #[v, .agg cs, u]) w := by
  have hp' : tmps[p]?.getD undef = .pointer (some ⟨g, 0, none⟩) := by simpa using hp
  have hv' : tmps[q]?.getD undef = v := by simpa using hv
  have hw' : tmps[r]?.getD undef = u := by simpa using hu'
  simp [results, h, hp', hv', hw', asAddr, run_loadVar_row w g t ty cs fr d hg hu hd hi]
theorem down_here {l : List Du} {i m : Nat} (h : ¬ (2 * i + 1 < l.length ∧ (duAt l (kid l i l.length)).lt (duAt l i))) : down m l i = l := by
  cases m with
  | zero => rfl
  | succ m => unfold down; rw [if_neg h]
theorem down_on {l : List Du} {i m : Nat} (hm : l.length = m) (h : 2 * i + 1 < l.length) (hl : (duAt l (kid l i l.length)).lt (duAt l i)) : down m l i = down m (swp l i (kid l i l.length)) (kid l i l.length) := by
  have hk := kid_in h
  cases m with
  | zero => omega
  | succ m =>
    rw [show down (m + 1) l i = if 2 * i + 1 < l.length ∧ (duAt l (kid l i l.length)).lt (duAt l i) then down m (swp l i (kid l i l.length)) (kid l i l.length) else l from rfl, if_pos ⟨h, hl⟩]
    exact down_fuel _ _ _ _ (by rw [swp_len]; omega) (by rw [swp_len]; omega)
/-- What lies while a heap is set right: the list, the answer's variable. -/
structure DuT (w : World) (g c : Nat) (cur : List Du) (x : World) : Prop where
  o : DuO w g c cur x
  res : Boxed x w.heap.size #[.int .i64 0, .int .i64 0] 26
theorem DuT.below {w x x' : World} {g c : Nat} {cur : List Du} (h : DuT w g c cur x) (q : Below x.heap.size x x') : DuT w g c cur x' := ⟨h.o.below q, h.res.below h.res.under q⟩
theorem DuT.put {w x : World} {g c : Nat} {cur : List Du} (h : DuT w g c cur x) (k : Nat) (r : Du) : DuT w g c (cur.set k r) ((x.setCell ⟨g, k * 2, none⟩ (.int .i64 r.time)).setCell ⟨g, k * 2 + 1, none⟩ (.int .i64 r.id)) := by
  have hu := h.o.under
  exact ⟨h.o.put k r, (h.res.far (by omega) _ _).far (by omega) _ _⟩
/-- What a round of the steps down finds. -/
def DuW (w : World) (g c m : Nat) (R : List Du) (i : Nat) (x : World) : Prop := ∃ cur, DuT w g c cur x ∧ cur.length = m ∧ down m cur i = R

set_option maxHeartbeats 6400000 in
set_option maxRecDepth 100000 in
theorem specHeapTake (a : Option Addr) (cap : Nat) (l : List Du) (w : World) (hT : l.length ≤ 1048576) (hcap : l.length ≤ cap) (h : Hid (DusAt w a l)) :
    Calls Try.prog 13 #[.slice a l.length cap] w fun e w' => (∃ v, e = .returned (.tuple #[v, (takeD l).val, .bool (mayTake l)]) ∧ DuRow w.heap.size w' v (takeH l)) ∧ Below w.heap.size w w' := by
  have A1 := fun w h => specHeapOk a cap l w hT hcap h
  have Hv : Hid (takeH l = if mayTake l = true then down (l.length - 1) (hmoved l) 0 else []) := rfl
  have Hd : Hid (takeD l = if mayTake l = true then duAt l 0 else ⟨0, 0⟩) := rfl
  have Hm : Hid (mayTake l = (hok l && !decide (l.length = 0))) := rfl
  have H60 : Hid (hok l = true → l.length ≤ 60) := fun hk => (hok_iff.1 hk).1
  have Hmv : Hid (hmoved l = (l.take (l.length - 1)).set 0 (duAt l (l.length - 1))) := rfl
  have Hml : Hid ((hmoved l).length = l.length - 1) := hmoved_len l
  generalize takeH l = F at Hv ⊢
  generalize takeD l = dd at Hd ⊢
  generalize mayTake l = may at Hv Hd Hm ⊢
  generalize hok l = ok at A1 Hm H60
  generalize hmoved l = mvd at Hv Hmv Hml
  obtain ⟨n, hn⟩ : ∃ n, l.length = n := ⟨_, rfl⟩
  have Hn : Hid (l.length = n) := hn
  rw [hn] at A1 Hv Hm H60 Hmv Hml hT hcap ⊢
  clear hn
  have A1' : Hid _ := A1
  clear A1
  have X : Hid (DusAt (w.alloc (.cells #[.int .i64 0, .int .i64 0] 26)) a l ∧ Boxed (w.alloc (.cells #[.int .i64 0, .int .i64 0] 26)) w.heap.size #[.int .i64 0, .int .i64 0] 26 ∧ Below w.heap.size w (w.alloc (.cells #[.int .i64 0, .int .i64 0] 26))) := ⟨h.out.alloc _, Boxed.new _ _ _, (Below.refl _ _).alloc (Nat.le_refl _) _⟩
  go_enter Try.func13, Try.ntmps13
  go_wp2_with fail
  refine (A1'.out _ X.out.1).mono ?_
  rintro e w1 ⟨rfl, q⟩
  have X1 : Hid (DusAt w1 a l ∧ Boxed w1 w.heap.size #[.int .i64 0, .int .i64 0] 26 ∧ Below w.heap.size w w1) := ⟨X.out.1.below q, X.out.2.1.below X.out.2.1.under q, X.out.2.2.trans (q.mono X.out.2.2.size)⟩
  clear q X A1'
  by_cases hbad : ok = false ∨ n = 0
  · have e0 : may = false := by rw [Hm.out]; rcases hbad with rfl | q; rfl; rw [decide_eq_true q]; simp
    have e1 : F = [] := by rw [Hv.out, e0]; rfl
    have e2 : dd = ⟨0, 0⟩ := by rw [Hd.out, e0]; rfl
    subst e0 e1 e2
    have R : Hid (DuRow w.heap.size ((w1.alloc (.cells #[] 26)).setRow w.heap.size #[.int .i64 0, .int .i64 0]) (.slice (some ⟨w1.heap.size, 0, none⟩) 0 0) [] ∧ Below w.heap.size w ((w1.alloc (.cells #[] 26)).setRow w.heap.size #[.int .i64 0, .int .i64 0]) ∧ Boxed (w1.alloc (.cells #[] 26)) w.heap.size #[.int .i64 0, .int .i64 0] 26) := by
      have hs := X1.out.2.1.under
      exact ⟨(du_built w1 w.heap.size X1.out.2.2.size).carry fun k hk _ => setRow_other _ _ _ _ (show k ≠ w.heap.size from by have e : some w1.heap.size = some k := hk; injection e with e; omega), below_setRow (X1.out.2.2.alloc X1.out.2.2.size _) (Nat.le_refl _) _, X1.out.2.1.more _⟩
    have Hbad : Hid (ok = false ∨ n = 0) := hbad
    clear hbad
    cases ok
    · go_upto_region 2 with fail
      go_wp2_with (refine wpList_store_row rfl 26 (.tmp 3) (.tmp 19) rfl w.heap.size #[.int .i64 0, .int .i64 0] rfl rfl _ _ R.out.2.2 (by kernel_rfl) rfl (by simp [Value.oneCell']) ?_)
      exact bodyPost_ret (results_tmp_row_tmp Try.results13 _ _ w.heap.size _ _ _ _ (.slice (some ⟨w1.heap.size, 0, none⟩) 0 0) (.bool false) rfl rfl rfl (setRow_heap _ w.heap.size _ _ _ _ R.out.2.2) Try.underlying26 rfl (by kernel_rfl)) rfl ⟨⟨_, rfl, R.out.1⟩, R.out.2.1⟩
    · have hn0 : n = 0 := by rcases Hbad.out with q | q; cases q; exact q
      subst hn0
      go_upto_region 2 with fail
      go_wp2_with (refine wpList_store_row rfl 26 (.tmp 3) (.tmp 19) rfl w.heap.size #[.int .i64 0, .int .i64 0] rfl rfl _ _ R.out.2.2 (by kernel_rfl) rfl (by simp [Value.oneCell']) ?_)
      exact bodyPost_ret (results_tmp_row_tmp Try.results13 _ _ w.heap.size _ _ _ _ (.slice (some ⟨w1.heap.size, 0, none⟩) 0 0) (.bool false) rfl rfl rfl (setRow_heap _ w.heap.size _ _ _ _ R.out.2.2) Try.underlying26 rfl (by kernel_rfl)) rfl ⟨⟨_, rfl, R.out.1⟩, R.out.2.1⟩
  obtain ⟨hok', hn0⟩ : ok = true ∧ 0 < n := ⟨by cases ok with | true => rfl | false => exact absurd (.inl rfl) hbad, by omega⟩
  clear hbad
  subst hok'
  have hn60 : n ≤ 60 := H60.out (by first | exact trivial | exact rfl)
  have e0 : may = true := by rw [Hm.out, decide_eq_false (show ¬ n = 0 by omega)]; rfl
  obtain ⟨u0, u1, hu⟩ : ∃ u0 u1, duAt l 0 = ⟨u0, u1⟩ := ⟨_, _, rfl⟩
  have e2 : dd = ⟨u0, u1⟩ := by rw [← hu, Hd.out, e0]; rfl
  have Hu : Hid (duAt l 0 = ⟨u0, u1⟩) := hu
  clear hu
  obtain ⟨m, hm⟩ : ∃ m, n = m + 1 := ⟨n - 1, by omega⟩
  have HF : Hid (F = down m mvd 0) := by show F = _; rw [Hv.out, e0, hm]; rfl
  subst e0 e2
  subst hm
  rw [Nat.add_sub_cancel] at Hmv Hml
  clear Hv Hd Hm H60
  obtain ⟨b0, o0, ha0, hb0, -⟩ := X1.out.1 0 (by rw [Hn.out]; omega)
  subst ha0
  have hm1 : IntKind.i64.wrap (((m + 1 : Nat) : Int) - 1) = (m : Int) := by rw [IntKind.wrap_i64]; omega
  have hn1 : ((((m + 1 : Nat) : Int)) == 0) = false := by simp; omega
  have hmc : m ≤ cap := by omega
  have B2 : Hid (DuRow (w.heap.size + 1) (w1.alloc (.cells #[] 26)) (.slice (some ⟨w1.heap.size, 0, none⟩) 0 0) [] ∧ DusAt (w1.alloc (.cells #[] 26)) (some ⟨b0, o0, none⟩) (l.take m) ∧ w.heap.size + 1 ≤ (w1.alloc (.cells #[] 26)).heap.size ∧ DusAt (w1.alloc (.cells #[] 26)) (some ⟨b0, o0, none⟩) l ∧ Boxed (w1.alloc (.cells #[] 26)) w.heap.size #[.int .i64 0, .int .i64 0] 26 ∧ Below w.heap.size w (w1.alloc (.cells #[] 26))) := by
    have hs := X1.out.2.1.under
    exact ⟨du_built w1 (w.heap.size + 1) (by omega), (X1.out.1.alloc _).take m, by simp; omega, X1.out.1.alloc _, X1.out.2.1.more _, X1.out.2.2.alloc X1.out.2.2.size _⟩
  have Htm : Hid ((l.take m).length = m) := by show (l.take m).length = m; rw [List.length_take, Hn.out]; omega
  have Hin : Hid (∀ x, Below w.heap.size w x → DusAt x (some ⟨b0, o0, none⟩) l) := fun x q => by
    exact h.out.below q
  go_upto_if 29 with (at_builtin; refine du_app rfl (.tmp 23) (.tmp 26) rfl (w.heap.size + 1) _ [] (some ⟨b0, o0, none⟩) m cap (l.take m) Htm.out rfl rfl B2.out.1 B2.out.2.1 (fun q => by cases q) (by rw [Htm.out]; simp; omega) B2.out.2.2.1 ?_; intro v' w2 q1 q2 q3 q4; have R2 : Hid (DuRow (w.heap.size + 1) w2 v' (l.take m) ∧ Boxed w2 w.heap.size #[.int .i64 0, .int .i64 0] 26 ∧ Below w.heap.size w w2 ∧ v' ≠ .slice none 0 0) := ⟨by simpa using q1, B2.out.2.2.2.2.1.below (by omega) q2, B2.out.2.2.2.2.2.trans (q2.mono (by omega)), fun q => by have := q4 q; cases this⟩; obtain ⟨g, c, ev⟩ := (show DuRow (w.heap.size + 1) w2 v' (l.take m) from R2.out.1).some R2.out.2.2.2; rw [Htm.out] at ev; subst ev; clear q1 q2 q3 q4)
  clear B2 hb0 X1
  have T2 : Hid (DuT w g c (l.take m) w2) := ⟨⟨by rw [Htm.out]; exact R2.out.1, R2.out.2.2.1⟩, R2.out.2.1⟩
  clear R2 h
  go_cut [] (fun wc => Hid (DuT w g c mvd wc))
  case first =>
    by_cases hm0 : m = 0
    · have e : mvd = l.take m := by rw [Hmv.out, hm0]; simp
      have T3 : Hid (DuT w g c mvd w2) := by rw [e]; exact T2
      have hm2 : ¬ (0 : Int) < (m : Int) := by omega
      have hm3 : ¬ 0 < m := by omega
      have Hm0 : Hid (m = 0) := hm0
      clear hm0 T2 e
      go_wp2_with fail
      go_meet
      exact T3.out
    · have hm2 : (0 : Int) < (m : Int) := by omega
      have hm3 : 0 < m := by omega
      have cl := (Hin.out w2 T2.out.o.bel).cells (k := m) (by rw [Hn.out]; omega)
      have c9 := T2.out.o.cell (k := 0) (by rw [Htm.out]; exact hm3)
      have z0 := T2.out.o.ice 0
      have z1 := T2.out.o.ice 1
      have lg : g < w2.heap.size := T2.out.o.under.2
      have T3 : Hid (DuT w g c ((l.take m).set 0 (duAt l m)) ((w2.setCell ⟨g, 0 * 2, none⟩ (.int .i64 (duAt l m).time)).setCell ⟨g, 0 * 2 + 1, none⟩ (.int .i64 (duAt l m).id))) := T2.out.put 0 (duAt l m)
      rw [← Hmv.out, Nat.zero_mul, Nat.zero_add] at T3
      generalize duAt (l.take m) 0 = u at c9
      generalize duAt l m = y at cl T3
      obtain ⟨y0, y1⟩ := y
      obtain ⟨u0, u1⟩ := u
      simp only [Nat.zero_mul, Nat.zero_add] at cl c9 T3
      obtain ⟨cl0, cl1⟩ := cl
      obtain ⟨c90, c91⟩ := c9
      have hmn : (m : Int) < ((m + 1 : Nat) : Int) := by omega
      go_wp2_with fail
      go_meet
      exact T3.out
  case rest =>
  have T4 : Hid (DuT w g c mvd wc) := hcut.out
  clear hcut T2 hn1 Hmv
  have H0 : Hid (DuW w g c m F 0 wc) := ⟨mvd, T4.out, Hml.out, HF.out.symm⟩
  clear T4 HF
  go_wp2_with fail
  clear hm1
  go_loopg [7, 8, 9] m (fun gh s7 _ _ wx => ∃ i : Nat, m ≤ i + gh ∧ i ≤ m ∧ s7 = .int .i64 i ∧ Hid (DuW w g c m F i wx))
  case atStart => exact ⟨0, by omega, by omega, rfl, H0.out⟩
  case round =>
    obtain ⟨i, hig, him, rfl, HE⟩ := hrel
    clear H0
    obtain ⟨cur, HU⟩ : ∃ cur, Hid (DuT w g c cur wr ∧ cur.length = m ∧ down m cur i = F) := HE.out
    clear HE
    obtain ⟨wo, rfl⟩ : ∃ wo, wo = wr := ⟨_, rfl⟩
    have kw1 : IntKind.i64.wrap (2 * (i : Int)) = 2 * (i : Int) := by rw [IntKind.wrap_i64]; omega
    obtain ⟨j, hj⟩ : ∃ j, j = 2 * i + 1 := ⟨_, rfl⟩
    have kw2 : IntKind.i64.wrap (2 * (i : Int) + 1) = (j : Int) := by rw [IntKind.wrap_i64]; omega
    have Hj : Hid (j = 2 * i + 1) := hj
    clear hj
    have Rt : Hid (∀ x, Below w.heap.size w x → x.cell? ⟨b0, o0, none⟩ = some (.int .i64 u0) ∧ x.cell? ⟨b0, o0 + 1, none⟩ = some (.int .i64 u1)) := fun x hx => by
      have := (Hin.out x hx).cells (k := 0) (by rw [Hn.out]; omega)
      rw [Nat.zero_mul, Nat.add_zero, Hu.out] at this
      exact this
    have h01 : (0 : Int) < ((m + 1 : Nat) : Int) := by omega
    by_cases hA : m ≤ j
    · have hA' : (m : Int) ≤ (j : Int) := by omega
      have e : F = cur := by rw [← HU.out.2.2]; exact down_here (by have q1 := Hj.out; rw [HU.out.2.1]; omega)
      have TF : Hid (DuT w g c F wo) := by rw [e]; exact HU.out.1
      have HL : Hid (F.length = m) := by rw [e]; exact HU.out.2.1
      clear e HU
      go_upto_region 10 with fail
      have f0 := (Rt.out wo TF.out.o.bel).1
      have f1 := (Rt.out wo TF.out.o.bel).2
      have r0 : wo.cell? ⟨w.heap.size, 0, none⟩ = some (.int .i64 0) := TF.out.res.cell 0 rfl
      have r1 : wo.cell? ⟨w.heap.size, 1, none⟩ = some (.int .i64 0) := TF.out.res.cell 1 rfl
      have i0 := TF.out.res.ice 0
      have i1 := TF.out.res.ice 1
      have lr : w.heap.size < wo.heap.size := TF.out.res.under
      have BF : Hid (Boxed ((wo.setCell ⟨w.heap.size, 0, none⟩ (.int .i64 u0)).setCell ⟨w.heap.size, 1, none⟩ (.int .i64 u1)).drew w.heap.size #[.int .i64 u0, .int .i64 u1] 26 ∧ DuRow w.heap.size ((wo.setCell ⟨w.heap.size, 0, none⟩ (.int .i64 u0)).setCell ⟨w.heap.size, 1, none⟩ (.int .i64 u1)).drew (.slice (some ⟨g, 0, none⟩) m c) F ∧ Below w.heap.size w ((wo.setCell ⟨w.heap.size, 0, none⟩ (.int .i64 u0)).setCell ⟨w.heap.size, 1, none⟩ (.int .i64 u1)).drew) := by
        have hu := TF.out.o.under
        have hr := TF.out.o.row
        rw [HL.out] at hr
        refine ⟨(TF.out.res.put 0 _).put 1 _, (DuRow.carry hr fun k hk _ => ?_).mono (by omega), ((TF.out.o.bel.setCell (Nat.le_refl _) _).setCell (Nat.le_refl _) _).drew⟩
        have e : some g = some k := hk
        injection e with e
        show ((wo.setCell ⟨w.heap.size, 0, none⟩ (.int .i64 u0)).setCell ⟨w.heap.size, 1, none⟩ (.int .i64 u1)).heap[k]? = _
        rw [Below.heap_setCell _ _ _ _ (by show k ≠ w.heap.size; omega), Below.heap_setCell _ _ _ _ (by show k ≠ w.heap.size; omega)]
      clear TF
      go_region
      go_wp2_with fail
      exact bodyPost_ret (results_tmp_row_tmp Try.results13 _ _ w.heap.size _ _ _ _ (.slice (some ⟨g, 0, none⟩) m c) (.bool true) rfl rfl rfl BF.out.1 Try.underlying26 rfl (by kernel_rfl)) rfl ⟨⟨_, rfl, BF.out.2.1⟩, BF.out.2.2⟩
    have hA1 : j < m := by omega
    have hij : i < m := by have q1 := Hj.out; omega
    have hA' : ¬ (m : Int) ≤ (j : Int) := by omega
    have hAd : decide ((m : Int) ≤ (j : Int)) = false := decide_eq_false hA'
    obtain ⟨gz, hgz⟩ : ∃ gz, gk = gz + 1 := ⟨gk - 1, by omega⟩
    subst hgz
    obtain ⟨j2, hj2⟩ : ∃ j2, j2 = j + 1 := ⟨_, rfl⟩
    have kw3 : IntKind.i64.wrap ((j : Int) + 1) = (j2 : Int) := by rw [IntKind.wrap_i64]; omega
    have Hj2 : Hid (j2 = j + 1) := hj2
    clear hj2
    have hlen := HU.out.2.1
    obtain ⟨kk, hkk⟩ : ∃ kk, kk = kid cur i cur.length := ⟨_, rfl⟩
    obtain ⟨k1, k2, k3⟩ := kid_in (l := cur) (i := i) (by have q1 := Hj.out; omega)
    rw [← hkk] at k1 k2 k3
    rw [hlen] at k2
    have Hkk : Hid (kk = if j2 < m ∧ (duAt cur j2).lt (duAt cur j) then j2 else j) := by show kk = _; rw [hkk, hlen, Hj2.out, Hj.out]; rfl
    have Hno : Hid (¬ (duAt cur kk).lt (duAt cur i) → F = cur) := fun q => by rw [← HU.out.2.2]; exact down_here (fun z => q (by rw [hkk]; exact z.2))
    have Hon : Hid ((duAt cur kk).lt (duAt cur i) → down m (swp cur i kk) kk = F) := fun q => by rw [← HU.out.2.2, hkk]; exact (down_on hlen (by have q1 := Hj.out; omega) (by rw [← hkk]; exact q)).symm
    have Hlen : Hid (cur.length = m) := hlen
    have T0 : Hid (DuT w g c cur wo) := HU.out.1
    clear HU hlen hkk hA
    have hj1 : j < cur.length := by rw [Hlen.out]; exact hA1
    have hi1 : i < cur.length := by rw [Hlen.out]; exact hij
    have hkl : kk < cur.length := by rw [Hlen.out]; exact k2
    have him' : (i : Int) < (m : Int) := by omega
    have hkm' : (kk : Int) < (m : Int) := by omega
    have hjm' : (j : Int) < (m : Int) := by omega
    go_upto_region 11 with fail
    by_cases h2 : j2 < m
    rotate_left
    · have h2' : ¬ (j2 : Int) < (m : Int) := by omega
      have h2d : decide ((j2 : Int) < (m : Int)) = false := decide_eq_false h2'
      have ek : kk = j := by rw [Hkk.out, if_neg (fun q => h2 q.1)]
      have Ek : Hid (kk = j) := ek
      clear ek
      haveI : Nonempty (BelW wo.heap.size wo) := ⟨⟨wo, Below.refl _ _⟩⟩
      refine region_below wo.heap.size (by kernel_rfl) (by kernel_rfl) ?_
      repeat (go_big_quiet_step ((fail)))
      refine wpQuiet_nil ?_
      intro w2 hx
      have T2 : Hid (DuT w g c cur w2) := T0.out.below (BelW.out hx)
      clear hx T0
      go_upto_region 13 with fail
      rw [← Ek.out]
      clear Ek kw2 kw3
      haveI : Nonempty (BelW w2.heap.size w2) := ⟨⟨w2, Below.refl _ _⟩⟩
      have Lie2 : Hid (∀ p : BelW w2.heap.size w2, DuT w g c cur p.w') := fun p => T2.out.below p.h
      have c0 : ∀ p : BelW w2.heap.size w2, p.w'.cell? ⟨g, kk * 2, none⟩ = some (.int .i64 (duAt cur kk).time) := fun p => ((Lie2.out p).o.cell hkl).1
      have c1 : ∀ p : BelW w2.heap.size w2, p.w'.cell? ⟨g, kk * 2 + 1, none⟩ = some (.int .i64 (duAt cur kk).id) := fun p => ((Lie2.out p).o.cell hkl).2
      have e0 : ∀ p : BelW w2.heap.size w2, p.w'.cell? ⟨g, i * 2, none⟩ = some (.int .i64 (duAt cur i).time) := fun p => ((Lie2.out p).o.cell hi1).1
      have e1 : ∀ p : BelW w2.heap.size w2, p.w'.cell? ⟨g, i * 2 + 1, none⟩ = some (.int .i64 (duAt cur i).id) := fun p => ((Lie2.out p).o.cell hi1).2
      have B3 := fun w => specBefore (duAt cur kk) (duAt cur i) w
      by_cases hl2 : (duAt cur kk).lt (duAt cur i)
      rotate_left
      · rw [decide_eq_false hl2] at B3
        have e : F = cur := Hno.out hl2
        have TF0 : Hid (∀ x, Below w2.heap.size w2 x → DuT w g c F x) := fun x q => by rw [e]; exact T2.out.below q
        have HL : Hid (F.length = m) := by rw [e]; exact Hlen.out
        clear e hl2 Hno Hon
        generalize duAt cur kk = x at c0 c1 B3
        generalize duAt cur i = y at e0 e1 B3
        obtain ⟨x0, x1⟩ := x
        obtain ⟨y0, y1⟩ := y
        simp only [Du.val] at c0 c1 e0 e1 B3
        have A3' : Hid _ := B3
        clear B3
        refine region_below w2.heap.size (by kernel_rfl) (by kernel_rfl) ?_
        repeat (go_big_quiet_step ((go_at_call 30; with_reducible refine quiet_below (Nat.le_refl _) (A3'.out _))))
        refine wpQuiet_nil ?_
        intro w3 hx
        obtain ⟨wo, rfl⟩ : ∃ wo, wo = w3 := ⟨_, rfl⟩
        have TF : Hid (DuT w g c F wo) := TF0.out wo (BelW.out hx)
        clear hx TF0 Lie2 c0 c1 e0 e1 A3' T2
        go_upto_region 14 with fail
        have f0 := (Rt.out wo TF.out.o.bel).1
        have f1 := (Rt.out wo TF.out.o.bel).2
        have r0 : wo.cell? ⟨w.heap.size, 0, none⟩ = some (.int .i64 0) := TF.out.res.cell 0 rfl
        have r1 : wo.cell? ⟨w.heap.size, 1, none⟩ = some (.int .i64 0) := TF.out.res.cell 1 rfl
        have i0 := TF.out.res.ice 0
        have i1 := TF.out.res.ice 1
        have lr : w.heap.size < wo.heap.size := TF.out.res.under
        have BF : Hid (Boxed ((wo.setCell ⟨w.heap.size, 0, none⟩ (.int .i64 u0)).setCell ⟨w.heap.size, 1, none⟩ (.int .i64 u1)).drew w.heap.size #[.int .i64 u0, .int .i64 u1] 26 ∧ DuRow w.heap.size ((wo.setCell ⟨w.heap.size, 0, none⟩ (.int .i64 u0)).setCell ⟨w.heap.size, 1, none⟩ (.int .i64 u1)).drew (.slice (some ⟨g, 0, none⟩) m c) F ∧ Below w.heap.size w ((wo.setCell ⟨w.heap.size, 0, none⟩ (.int .i64 u0)).setCell ⟨w.heap.size, 1, none⟩ (.int .i64 u1)).drew) := by
          have hu := TF.out.o.under
          have hr := TF.out.o.row
          rw [HL.out] at hr
          refine ⟨(TF.out.res.put 0 _).put 1 _, (DuRow.carry hr fun k hk _ => ?_).mono (by omega), ((TF.out.o.bel.setCell (Nat.le_refl _) _).setCell (Nat.le_refl _) _).drew⟩
          have e : some g = some k := hk
          injection e with e
          show ((wo.setCell ⟨w.heap.size, 0, none⟩ (.int .i64 u0)).setCell ⟨w.heap.size, 1, none⟩ (.int .i64 u1)).heap[k]? = _
          rw [Below.heap_setCell _ _ _ _ (by show k ≠ w.heap.size; omega), Below.heap_setCell _ _ _ _ (by show k ≠ w.heap.size; omega)]
        clear TF
        go_region
        go_wp2_with fail
        exact bodyPost_ret (results_tmp_row_tmp Try.results13 _ _ w.heap.size _ _ _ _ (.slice (some ⟨g, 0, none⟩) m c) (.bool true) rfl rfl rfl BF.out.1 Try.underlying26 rfl (by kernel_rfl)) rfl ⟨⟨_, rfl, BF.out.2.1⟩, BF.out.2.2⟩
      rw [decide_eq_true hl2] at B3
      have Hdn : Hid (down m (swp cur i kk) kk = F) := Hon.out hl2
      have Hw : Hid (swp cur i kk = (cur.set i (duAt cur kk)).set kk (duAt cur i)) := rfl
      clear hl2 Hno Hon
      have HC0 : Hid (∀ x, DuT w g c cur x → x.cell? ⟨g, i * 2, none⟩ = some (.int .i64 (duAt cur i).time) ∧ x.cell? ⟨g, i * 2 + 1, none⟩ = some (.int .i64 (duAt cur i).id)) := fun x hx => hx.o.cell hi1
      have HC1 : Hid (∀ x, DuT w g c cur x → x.cell? ⟨g, kk * 2, none⟩ = some (.int .i64 (duAt cur kk).time) ∧ x.cell? ⟨g, kk * 2 + 1, none⟩ = some (.int .i64 (duAt cur kk).id)) := fun x hx => hx.o.cell hkl
      have HC2 : Hid (∀ x r1, DuT w g c (cur.set i r1) x → x.cell? ⟨g, kk * 2, none⟩ = some (.int .i64 (duAt (cur.set i r1) kk).time) ∧ x.cell? ⟨g, kk * 2 + 1, none⟩ = some (.int .i64 (duAt (cur.set i r1) kk).id)) := fun x r1 hx => hx.o.cell (by rw [List.length_set]; exact hkl)
      have Pt : Hid (∀ x (r1 r2 : Du), DuT w g c cur x → DuT w g c ((cur.set i r1).set kk r2) ((((x.setCell ⟨g, i * 2, none⟩ (.int .i64 r1.time)).setCell ⟨g, i * 2 + 1, none⟩ (.int .i64 r1.id)).setCell ⟨g, kk * 2, none⟩ (.int .i64 r2.time)).setCell ⟨g, kk * 2 + 1, none⟩ (.int .i64 r2.id)) ∧ DuT w g c (cur.set i r1) ((x.setCell ⟨g, i * 2, none⟩ (.int .i64 r1.time)).setCell ⟨g, i * 2 + 1, none⟩ (.int .i64 r1.id))) := fun x r1 r2 hx => ⟨(hx.put i r1).put kk r2, hx.put i r1⟩
      generalize duAt cur kk = x at c0 c1 B3 HC1 Hw
      generalize duAt cur i = y at e0 e1 B3 HC0 Hw
      obtain ⟨x0, x1⟩ := x
      obtain ⟨y0, y1⟩ := y
      simp only [Du.val] at c0 c1 e0 e1 B3 HC0 HC1
      have A3' : Hid _ := B3
      clear B3
      refine region_below w2.heap.size (by kernel_rfl) (by kernel_rfl) ?_
      repeat (go_big_quiet_step ((go_at_call 30; with_reducible refine quiet_below (Nat.le_refl _) (A3'.out _))))
      refine wpQuiet_nil ?_
      intro w3 hx
      have T3 : Hid (DuT w g c cur w3) := T2.out.below (BelW.out hx)
      clear hx Lie2 c0 c1 e0 e1 A3' T2
      obtain ⟨f0, f1⟩ := HC0.out w3 T3.out
      have lg3 : g < w3.heap.size := T3.out.o.under.2
      have N : Hid (Boxed (w3.alloc (.cells #[.int .i64 0, .int .i64 0] 26)) w3.heap.size #[.int .i64 0, .int .i64 0] 26) := Boxed.new _ _ _
      obtain ⟨w4, hw4⟩ : ∃ w4, (w3.alloc (.cells #[.int .i64 0, .int .i64 0] 26)).setRow w3.heap.size #[.int .i64 y0, .int .i64 y1] = w4 := ⟨_, rfl⟩
      have b4 : Below w3.heap.size w3 w4 := by rw [← hw4]; exact below_setRow ((Below.refl _ _).alloc (Nat.le_refl _) _) (Nat.le_refl _) _
      have V4 : Hid (Boxed w4 w3.heap.size #[.int .i64 y0, .int .i64 y1] 26) := by rw [← hw4]; exact setRow_heap _ _ _ _ _ _ N.out
      have T4 : Hid (DuT w g c cur w4) := T3.out.below b4
      have HW4 : Hid _ := hw4
      clear b4 hw4 T3
      go_upto_region 16 with (refine wpList_store_row rfl 26 (.tmp 9) (.tmp 81) rfl w3.heap.size #[.int .i64 y0, .int .i64 y1] rfl rfl _ _ N.out (by kernel_rfl) rfl (by simp [Value.oneCell']) ?_)
      rw [HW4.out]
      clear N HW4 f0 f1
      generalize w3.heap.size = bx at V4 lg3 ⊢
      obtain ⟨f0, f1⟩ := HC1.out w4 T4.out
      obtain ⟨g0, g1⟩ := HC0.out w4 T4.out
      have z0 := T4.out.o.ice (i * 2)
      have z1 := T4.out.o.ice (i * 2 + 1)
      have lg4 : g < w4.heap.size := T4.out.o.under.2
      have H5 := Pt.out w4 ⟨x0, x1⟩ ⟨y0, y1⟩ T4.out
      have T5 : Hid (DuT w g c (cur.set i ⟨x0, x1⟩) ((w4.setCell ⟨g, i * 2, none⟩ (.int .i64 x0)).setCell ⟨g, i * 2 + 1, none⟩ (.int .i64 x1))) := H5.2
      have T6 : Hid (DuT w g c (swp cur i kk) ((((w4.setCell ⟨g, i * 2, none⟩ (.int .i64 x0)).setCell ⟨g, i * 2 + 1, none⟩ (.int .i64 x1)).setCell ⟨g, kk * 2, none⟩ (.int .i64 y0)).setCell ⟨g, kk * 2 + 1, none⟩ (.int .i64 y1))) := by rw [Hw.out]; exact H5.1
      have V5 : Hid (Boxed ((w4.setCell ⟨g, i * 2, none⟩ (.int .i64 x0)).setCell ⟨g, i * 2 + 1, none⟩ (.int .i64 x1)) bx #[.int .i64 y0, .int .i64 y1] 26) := (V4.out.far (by omega) _ _).far (by omega) _ _
      clear H5 Pt Hw
      go_upto_region 17 with fail
      generalize (w4.setCell ⟨g, i * 2, none⟩ (.int .i64 x0)).setCell ⟨g, i * 2 + 1, none⟩ (.int .i64 x1) = w5 at T5 T6 V5 ⊢
      clear f0 f1 g0 g1 z0 z1 lg4 T4 V4
      obtain ⟨f0, f1⟩ := HC2.out w5 _ T5.out
      have z0 := T5.out.o.ice (kk * 2)
      have z1 := T5.out.o.ice (kk * 2 + 1)
      have lg5 : g < w5.heap.size := T5.out.o.under.2
      have v0 : w5.cell? ⟨bx, 0, none⟩ = some (.int .i64 y0) := V5.out.cell 0 rfl
      have v1 : w5.cell? ⟨bx, 1, none⟩ = some (.int .i64 y1) := V5.out.cell 1 rfl
      have HD : Hid (DuW w g c m F kk ((w5.setCell ⟨g, kk * 2, none⟩ (.int .i64 y0)).setCell ⟨g, kk * 2 + 1, none⟩ (.int .i64 y1))) := ⟨_, T6.out, by rw [swp_len]; exact Hlen.out, Hdn.out⟩
      clear T6 Hdn
      go_wp2
      go_roundg gz
      case measure => omega
      case rel => exact ⟨kk, by omega, by omega, rfl, HD⟩
    have h2' : (j2 : Int) < (m : Int) := by omega
    have hj2 : j2 < cur.length := by rw [Hlen.out]; exact h2
    haveI : Nonempty (BelW wo.heap.size wo) := ⟨⟨wo, Below.refl _ _⟩⟩
    have Lie : Hid (∀ p : BelW wo.heap.size wo, DuT w g c cur p.w') := fun p => T0.out.below p.h
    have c0 : ∀ p : BelW wo.heap.size wo, p.w'.cell? ⟨g, j * 2, none⟩ = some (.int .i64 (duAt cur j).time) := fun p => ((Lie.out p).o.cell hj1).1
    have c1 : ∀ p : BelW wo.heap.size wo, p.w'.cell? ⟨g, j * 2 + 1, none⟩ = some (.int .i64 (duAt cur j).id) := fun p => ((Lie.out p).o.cell hj1).2
    have e0 : ∀ p : BelW wo.heap.size wo, p.w'.cell? ⟨g, j2 * 2, none⟩ = some (.int .i64 (duAt cur j2).time) := fun p => ((Lie.out p).o.cell hj2).1
    have e1 : ∀ p : BelW wo.heap.size wo, p.w'.cell? ⟨g, j2 * 2 + 1, none⟩ = some (.int .i64 (duAt cur j2).id) := fun p => ((Lie.out p).o.cell hj2).2
    have A3 := fun w => specBefore (duAt cur j2) (duAt cur j) w
    have Hkk2 : Hid (kk = if (duAt cur j2).lt (duAt cur j) then j2 else j) := by
      show kk = _
      rw [Hkk.out]
      by_cases q : (duAt cur j2).lt (duAt cur j)
      · rw [if_pos ⟨h2, q⟩, if_pos q]
      · rw [if_neg (fun z => q z.2), if_neg q]
    by_cases hlt : (duAt cur j2).lt (duAt cur j)
    · rw [decide_eq_true hlt] at A3
      have Ek : Hid (kk = j2) := by show kk = _; rw [Hkk2.out, if_pos hlt]
      clear hlt Hkk2 Hkk
      generalize duAt cur j2 = x at e0 e1 A3
      generalize duAt cur j = y at c0 c1 A3
      obtain ⟨x0, x1⟩ := x
      obtain ⟨y0, y1⟩ := y
      simp only [Du.val] at c0 c1 e0 e1 A3
      have A3' : Hid _ := A3
      clear A3
      refine region_below wo.heap.size (by kernel_rfl) (by kernel_rfl) ?_
      repeat (go_big_quiet_step ((go_at_call 30; with_reducible refine quiet_below (Nat.le_refl _) (A3'.out _))))
      refine wpQuiet_nil ?_
      intro w2 hx
      have T2 : Hid (DuT w g c cur w2) := T0.out.below (BelW.out hx)
      clear hx T0 Lie c0 c1 e0 e1 A3'
      go_upto_region 13 with fail
      rw [← Ek.out]
      clear Ek kw2 kw3
      haveI : Nonempty (BelW w2.heap.size w2) := ⟨⟨w2, Below.refl _ _⟩⟩
      have Lie2 : Hid (∀ p : BelW w2.heap.size w2, DuT w g c cur p.w') := fun p => T2.out.below p.h
      have c0 : ∀ p : BelW w2.heap.size w2, p.w'.cell? ⟨g, kk * 2, none⟩ = some (.int .i64 (duAt cur kk).time) := fun p => ((Lie2.out p).o.cell hkl).1
      have c1 : ∀ p : BelW w2.heap.size w2, p.w'.cell? ⟨g, kk * 2 + 1, none⟩ = some (.int .i64 (duAt cur kk).id) := fun p => ((Lie2.out p).o.cell hkl).2
      have e0 : ∀ p : BelW w2.heap.size w2, p.w'.cell? ⟨g, i * 2, none⟩ = some (.int .i64 (duAt cur i).time) := fun p => ((Lie2.out p).o.cell hi1).1
      have e1 : ∀ p : BelW w2.heap.size w2, p.w'.cell? ⟨g, i * 2 + 1, none⟩ = some (.int .i64 (duAt cur i).id) := fun p => ((Lie2.out p).o.cell hi1).2
      have B3 := fun w => specBefore (duAt cur kk) (duAt cur i) w
      by_cases hl2 : (duAt cur kk).lt (duAt cur i)
      rotate_left
      · rw [decide_eq_false hl2] at B3
        have e : F = cur := Hno.out hl2
        have TF0 : Hid (∀ x, Below w2.heap.size w2 x → DuT w g c F x) := fun x q => by rw [e]; exact T2.out.below q
        have HL : Hid (F.length = m) := by rw [e]; exact Hlen.out
        clear e hl2 Hno Hon
        generalize duAt cur kk = x at c0 c1 B3
        generalize duAt cur i = y at e0 e1 B3
        obtain ⟨x0, x1⟩ := x
        obtain ⟨y0, y1⟩ := y
        simp only [Du.val] at c0 c1 e0 e1 B3
        have A3' : Hid _ := B3
        clear B3
        refine region_below w2.heap.size (by kernel_rfl) (by kernel_rfl) ?_
        repeat (go_big_quiet_step ((go_at_call 30; with_reducible refine quiet_below (Nat.le_refl _) (A3'.out _))))
        refine wpQuiet_nil ?_
        intro w3 hx
        obtain ⟨wo, rfl⟩ : ∃ wo, wo = w3 := ⟨_, rfl⟩
        have TF : Hid (DuT w g c F wo) := TF0.out wo (BelW.out hx)
        clear hx TF0 Lie2 c0 c1 e0 e1 A3' T2
        go_upto_region 14 with fail
        have f0 := (Rt.out wo TF.out.o.bel).1
        have f1 := (Rt.out wo TF.out.o.bel).2
        have r0 : wo.cell? ⟨w.heap.size, 0, none⟩ = some (.int .i64 0) := TF.out.res.cell 0 rfl
        have r1 : wo.cell? ⟨w.heap.size, 1, none⟩ = some (.int .i64 0) := TF.out.res.cell 1 rfl
        have i0 := TF.out.res.ice 0
        have i1 := TF.out.res.ice 1
        have lr : w.heap.size < wo.heap.size := TF.out.res.under
        have BF : Hid (Boxed ((wo.setCell ⟨w.heap.size, 0, none⟩ (.int .i64 u0)).setCell ⟨w.heap.size, 1, none⟩ (.int .i64 u1)).drew w.heap.size #[.int .i64 u0, .int .i64 u1] 26 ∧ DuRow w.heap.size ((wo.setCell ⟨w.heap.size, 0, none⟩ (.int .i64 u0)).setCell ⟨w.heap.size, 1, none⟩ (.int .i64 u1)).drew (.slice (some ⟨g, 0, none⟩) m c) F ∧ Below w.heap.size w ((wo.setCell ⟨w.heap.size, 0, none⟩ (.int .i64 u0)).setCell ⟨w.heap.size, 1, none⟩ (.int .i64 u1)).drew) := by
          have hu := TF.out.o.under
          have hr := TF.out.o.row
          rw [HL.out] at hr
          refine ⟨(TF.out.res.put 0 _).put 1 _, (DuRow.carry hr fun k hk _ => ?_).mono (by omega), ((TF.out.o.bel.setCell (Nat.le_refl _) _).setCell (Nat.le_refl _) _).drew⟩
          have e : some g = some k := hk
          injection e with e
          show ((wo.setCell ⟨w.heap.size, 0, none⟩ (.int .i64 u0)).setCell ⟨w.heap.size, 1, none⟩ (.int .i64 u1)).heap[k]? = _
          rw [Below.heap_setCell _ _ _ _ (by show k ≠ w.heap.size; omega), Below.heap_setCell _ _ _ _ (by show k ≠ w.heap.size; omega)]
        clear TF
        go_region
        go_wp2_with fail
        exact bodyPost_ret (results_tmp_row_tmp Try.results13 _ _ w.heap.size _ _ _ _ (.slice (some ⟨g, 0, none⟩) m c) (.bool true) rfl rfl rfl BF.out.1 Try.underlying26 rfl (by kernel_rfl)) rfl ⟨⟨_, rfl, BF.out.2.1⟩, BF.out.2.2⟩
      rw [decide_eq_true hl2] at B3
      have Hdn : Hid (down m (swp cur i kk) kk = F) := Hon.out hl2
      have Hw : Hid (swp cur i kk = (cur.set i (duAt cur kk)).set kk (duAt cur i)) := rfl
      clear hl2 Hno Hon
      have HC0 : Hid (∀ x, DuT w g c cur x → x.cell? ⟨g, i * 2, none⟩ = some (.int .i64 (duAt cur i).time) ∧ x.cell? ⟨g, i * 2 + 1, none⟩ = some (.int .i64 (duAt cur i).id)) := fun x hx => hx.o.cell hi1
      have HC1 : Hid (∀ x, DuT w g c cur x → x.cell? ⟨g, kk * 2, none⟩ = some (.int .i64 (duAt cur kk).time) ∧ x.cell? ⟨g, kk * 2 + 1, none⟩ = some (.int .i64 (duAt cur kk).id)) := fun x hx => hx.o.cell hkl
      have HC2 : Hid (∀ x r1, DuT w g c (cur.set i r1) x → x.cell? ⟨g, kk * 2, none⟩ = some (.int .i64 (duAt (cur.set i r1) kk).time) ∧ x.cell? ⟨g, kk * 2 + 1, none⟩ = some (.int .i64 (duAt (cur.set i r1) kk).id)) := fun x r1 hx => hx.o.cell (by rw [List.length_set]; exact hkl)
      have Pt : Hid (∀ x (r1 r2 : Du), DuT w g c cur x → DuT w g c ((cur.set i r1).set kk r2) ((((x.setCell ⟨g, i * 2, none⟩ (.int .i64 r1.time)).setCell ⟨g, i * 2 + 1, none⟩ (.int .i64 r1.id)).setCell ⟨g, kk * 2, none⟩ (.int .i64 r2.time)).setCell ⟨g, kk * 2 + 1, none⟩ (.int .i64 r2.id)) ∧ DuT w g c (cur.set i r1) ((x.setCell ⟨g, i * 2, none⟩ (.int .i64 r1.time)).setCell ⟨g, i * 2 + 1, none⟩ (.int .i64 r1.id))) := fun x r1 r2 hx => ⟨(hx.put i r1).put kk r2, hx.put i r1⟩
      generalize duAt cur kk = x at c0 c1 B3 HC1 Hw
      generalize duAt cur i = y at e0 e1 B3 HC0 Hw
      obtain ⟨x0, x1⟩ := x
      obtain ⟨y0, y1⟩ := y
      simp only [Du.val] at c0 c1 e0 e1 B3 HC0 HC1
      have A3' : Hid _ := B3
      clear B3
      refine region_below w2.heap.size (by kernel_rfl) (by kernel_rfl) ?_
      repeat (go_big_quiet_step ((go_at_call 30; with_reducible refine quiet_below (Nat.le_refl _) (A3'.out _))))
      refine wpQuiet_nil ?_
      intro w3 hx
      have T3 : Hid (DuT w g c cur w3) := T2.out.below (BelW.out hx)
      clear hx Lie2 c0 c1 e0 e1 A3' T2
      obtain ⟨f0, f1⟩ := HC0.out w3 T3.out
      have lg3 : g < w3.heap.size := T3.out.o.under.2
      have N : Hid (Boxed (w3.alloc (.cells #[.int .i64 0, .int .i64 0] 26)) w3.heap.size #[.int .i64 0, .int .i64 0] 26) := Boxed.new _ _ _
      obtain ⟨w4, hw4⟩ : ∃ w4, (w3.alloc (.cells #[.int .i64 0, .int .i64 0] 26)).setRow w3.heap.size #[.int .i64 y0, .int .i64 y1] = w4 := ⟨_, rfl⟩
      have b4 : Below w3.heap.size w3 w4 := by rw [← hw4]; exact below_setRow ((Below.refl _ _).alloc (Nat.le_refl _) _) (Nat.le_refl _) _
      have V4 : Hid (Boxed w4 w3.heap.size #[.int .i64 y0, .int .i64 y1] 26) := by rw [← hw4]; exact setRow_heap _ _ _ _ _ _ N.out
      have T4 : Hid (DuT w g c cur w4) := T3.out.below b4
      have HW4 : Hid _ := hw4
      clear b4 hw4 T3
      go_upto_region 16 with (refine wpList_store_row rfl 26 (.tmp 9) (.tmp 81) rfl w3.heap.size #[.int .i64 y0, .int .i64 y1] rfl rfl _ _ N.out (by kernel_rfl) rfl (by simp [Value.oneCell']) ?_)
      rw [HW4.out]
      clear N HW4 f0 f1
      generalize w3.heap.size = bx at V4 lg3 ⊢
      obtain ⟨f0, f1⟩ := HC1.out w4 T4.out
      obtain ⟨g0, g1⟩ := HC0.out w4 T4.out
      have z0 := T4.out.o.ice (i * 2)
      have z1 := T4.out.o.ice (i * 2 + 1)
      have lg4 : g < w4.heap.size := T4.out.o.under.2
      have H5 := Pt.out w4 ⟨x0, x1⟩ ⟨y0, y1⟩ T4.out
      have T5 : Hid (DuT w g c (cur.set i ⟨x0, x1⟩) ((w4.setCell ⟨g, i * 2, none⟩ (.int .i64 x0)).setCell ⟨g, i * 2 + 1, none⟩ (.int .i64 x1))) := H5.2
      have T6 : Hid (DuT w g c (swp cur i kk) ((((w4.setCell ⟨g, i * 2, none⟩ (.int .i64 x0)).setCell ⟨g, i * 2 + 1, none⟩ (.int .i64 x1)).setCell ⟨g, kk * 2, none⟩ (.int .i64 y0)).setCell ⟨g, kk * 2 + 1, none⟩ (.int .i64 y1))) := by rw [Hw.out]; exact H5.1
      have V5 : Hid (Boxed ((w4.setCell ⟨g, i * 2, none⟩ (.int .i64 x0)).setCell ⟨g, i * 2 + 1, none⟩ (.int .i64 x1)) bx #[.int .i64 y0, .int .i64 y1] 26) := (V4.out.far (by omega) _ _).far (by omega) _ _
      clear H5 Pt Hw
      go_upto_region 17 with fail
      generalize (w4.setCell ⟨g, i * 2, none⟩ (.int .i64 x0)).setCell ⟨g, i * 2 + 1, none⟩ (.int .i64 x1) = w5 at T5 T6 V5 ⊢
      clear f0 f1 g0 g1 z0 z1 lg4 T4 V4
      obtain ⟨f0, f1⟩ := HC2.out w5 _ T5.out
      have z0 := T5.out.o.ice (kk * 2)
      have z1 := T5.out.o.ice (kk * 2 + 1)
      have lg5 : g < w5.heap.size := T5.out.o.under.2
      have v0 : w5.cell? ⟨bx, 0, none⟩ = some (.int .i64 y0) := V5.out.cell 0 rfl
      have v1 : w5.cell? ⟨bx, 1, none⟩ = some (.int .i64 y1) := V5.out.cell 1 rfl
      have HD : Hid (DuW w g c m F kk ((w5.setCell ⟨g, kk * 2, none⟩ (.int .i64 y0)).setCell ⟨g, kk * 2 + 1, none⟩ (.int .i64 y1))) := ⟨_, T6.out, by rw [swp_len]; exact Hlen.out, Hdn.out⟩
      clear T6 Hdn
      go_wp2
      go_roundg gz
      case measure => omega
      case rel => exact ⟨kk, by omega, by omega, rfl, HD⟩
    · rw [decide_eq_false hlt] at A3
      have Ek : Hid (kk = j) := by show kk = _; rw [Hkk2.out, if_neg hlt]
      clear hlt Hkk2 Hkk
      generalize duAt cur j2 = x at e0 e1 A3
      generalize duAt cur j = y at c0 c1 A3
      obtain ⟨x0, x1⟩ := x
      obtain ⟨y0, y1⟩ := y
      simp only [Du.val] at c0 c1 e0 e1 A3
      have A3' : Hid _ := A3
      clear A3
      refine region_below wo.heap.size (by kernel_rfl) (by kernel_rfl) ?_
      repeat (go_big_quiet_step ((go_at_call 30; with_reducible refine quiet_below (Nat.le_refl _) (A3'.out _))))
      refine wpQuiet_nil ?_
      intro w2 hx
      have T2 : Hid (DuT w g c cur w2) := T0.out.below (BelW.out hx)
      clear hx T0 Lie c0 c1 e0 e1 A3'
      go_upto_region 13 with fail
      rw [← Ek.out]
      clear Ek kw2 kw3
      haveI : Nonempty (BelW w2.heap.size w2) := ⟨⟨w2, Below.refl _ _⟩⟩
      have Lie2 : Hid (∀ p : BelW w2.heap.size w2, DuT w g c cur p.w') := fun p => T2.out.below p.h
      have c0 : ∀ p : BelW w2.heap.size w2, p.w'.cell? ⟨g, kk * 2, none⟩ = some (.int .i64 (duAt cur kk).time) := fun p => ((Lie2.out p).o.cell hkl).1
      have c1 : ∀ p : BelW w2.heap.size w2, p.w'.cell? ⟨g, kk * 2 + 1, none⟩ = some (.int .i64 (duAt cur kk).id) := fun p => ((Lie2.out p).o.cell hkl).2
      have e0 : ∀ p : BelW w2.heap.size w2, p.w'.cell? ⟨g, i * 2, none⟩ = some (.int .i64 (duAt cur i).time) := fun p => ((Lie2.out p).o.cell hi1).1
      have e1 : ∀ p : BelW w2.heap.size w2, p.w'.cell? ⟨g, i * 2 + 1, none⟩ = some (.int .i64 (duAt cur i).id) := fun p => ((Lie2.out p).o.cell hi1).2
      have B3 := fun w => specBefore (duAt cur kk) (duAt cur i) w
      by_cases hl2 : (duAt cur kk).lt (duAt cur i)
      rotate_left
      · rw [decide_eq_false hl2] at B3
        have e : F = cur := Hno.out hl2
        have TF0 : Hid (∀ x, Below w2.heap.size w2 x → DuT w g c F x) := fun x q => by rw [e]; exact T2.out.below q
        have HL : Hid (F.length = m) := by rw [e]; exact Hlen.out
        clear e hl2 Hno Hon
        generalize duAt cur kk = x at c0 c1 B3
        generalize duAt cur i = y at e0 e1 B3
        obtain ⟨x0, x1⟩ := x
        obtain ⟨y0, y1⟩ := y
        simp only [Du.val] at c0 c1 e0 e1 B3
        have A3' : Hid _ := B3
        clear B3
        refine region_below w2.heap.size (by kernel_rfl) (by kernel_rfl) ?_
        repeat (go_big_quiet_step ((go_at_call 30; with_reducible refine quiet_below (Nat.le_refl _) (A3'.out _))))
        refine wpQuiet_nil ?_
        intro w3 hx
        obtain ⟨wo, rfl⟩ : ∃ wo, wo = w3 := ⟨_, rfl⟩
        have TF : Hid (DuT w g c F wo) := TF0.out wo (BelW.out hx)
        clear hx TF0 Lie2 c0 c1 e0 e1 A3' T2
        go_upto_region 14 with fail
        have f0 := (Rt.out wo TF.out.o.bel).1
        have f1 := (Rt.out wo TF.out.o.bel).2
        have r0 : wo.cell? ⟨w.heap.size, 0, none⟩ = some (.int .i64 0) := TF.out.res.cell 0 rfl
        have r1 : wo.cell? ⟨w.heap.size, 1, none⟩ = some (.int .i64 0) := TF.out.res.cell 1 rfl
        have i0 := TF.out.res.ice 0
        have i1 := TF.out.res.ice 1
        have lr : w.heap.size < wo.heap.size := TF.out.res.under
        have BF : Hid (Boxed ((wo.setCell ⟨w.heap.size, 0, none⟩ (.int .i64 u0)).setCell ⟨w.heap.size, 1, none⟩ (.int .i64 u1)).drew w.heap.size #[.int .i64 u0, .int .i64 u1] 26 ∧ DuRow w.heap.size ((wo.setCell ⟨w.heap.size, 0, none⟩ (.int .i64 u0)).setCell ⟨w.heap.size, 1, none⟩ (.int .i64 u1)).drew (.slice (some ⟨g, 0, none⟩) m c) F ∧ Below w.heap.size w ((wo.setCell ⟨w.heap.size, 0, none⟩ (.int .i64 u0)).setCell ⟨w.heap.size, 1, none⟩ (.int .i64 u1)).drew) := by
          have hu := TF.out.o.under
          have hr := TF.out.o.row
          rw [HL.out] at hr
          refine ⟨(TF.out.res.put 0 _).put 1 _, (DuRow.carry hr fun k hk _ => ?_).mono (by omega), ((TF.out.o.bel.setCell (Nat.le_refl _) _).setCell (Nat.le_refl _) _).drew⟩
          have e : some g = some k := hk
          injection e with e
          show ((wo.setCell ⟨w.heap.size, 0, none⟩ (.int .i64 u0)).setCell ⟨w.heap.size, 1, none⟩ (.int .i64 u1)).heap[k]? = _
          rw [Below.heap_setCell _ _ _ _ (by show k ≠ w.heap.size; omega), Below.heap_setCell _ _ _ _ (by show k ≠ w.heap.size; omega)]
        clear TF
        go_region
        go_wp2_with fail
        exact bodyPost_ret (results_tmp_row_tmp Try.results13 _ _ w.heap.size _ _ _ _ (.slice (some ⟨g, 0, none⟩) m c) (.bool true) rfl rfl rfl BF.out.1 Try.underlying26 rfl (by kernel_rfl)) rfl ⟨⟨_, rfl, BF.out.2.1⟩, BF.out.2.2⟩
      rw [decide_eq_true hl2] at B3
      have Hdn : Hid (down m (swp cur i kk) kk = F) := Hon.out hl2
      have Hw : Hid (swp cur i kk = (cur.set i (duAt cur kk)).set kk (duAt cur i)) := rfl
      clear hl2 Hno Hon
      have HC0 : Hid (∀ x, DuT w g c cur x → x.cell? ⟨g, i * 2, none⟩ = some (.int .i64 (duAt cur i).time) ∧ x.cell? ⟨g, i * 2 + 1, none⟩ = some (.int .i64 (duAt cur i).id)) := fun x hx => hx.o.cell hi1
      have HC1 : Hid (∀ x, DuT w g c cur x → x.cell? ⟨g, kk * 2, none⟩ = some (.int .i64 (duAt cur kk).time) ∧ x.cell? ⟨g, kk * 2 + 1, none⟩ = some (.int .i64 (duAt cur kk).id)) := fun x hx => hx.o.cell hkl
      have HC2 : Hid (∀ x r1, DuT w g c (cur.set i r1) x → x.cell? ⟨g, kk * 2, none⟩ = some (.int .i64 (duAt (cur.set i r1) kk).time) ∧ x.cell? ⟨g, kk * 2 + 1, none⟩ = some (.int .i64 (duAt (cur.set i r1) kk).id)) := fun x r1 hx => hx.o.cell (by rw [List.length_set]; exact hkl)
      have Pt : Hid (∀ x (r1 r2 : Du), DuT w g c cur x → DuT w g c ((cur.set i r1).set kk r2) ((((x.setCell ⟨g, i * 2, none⟩ (.int .i64 r1.time)).setCell ⟨g, i * 2 + 1, none⟩ (.int .i64 r1.id)).setCell ⟨g, kk * 2, none⟩ (.int .i64 r2.time)).setCell ⟨g, kk * 2 + 1, none⟩ (.int .i64 r2.id)) ∧ DuT w g c (cur.set i r1) ((x.setCell ⟨g, i * 2, none⟩ (.int .i64 r1.time)).setCell ⟨g, i * 2 + 1, none⟩ (.int .i64 r1.id))) := fun x r1 r2 hx => ⟨(hx.put i r1).put kk r2, hx.put i r1⟩
      generalize duAt cur kk = x at c0 c1 B3 HC1 Hw
      generalize duAt cur i = y at e0 e1 B3 HC0 Hw
      obtain ⟨x0, x1⟩ := x
      obtain ⟨y0, y1⟩ := y
      simp only [Du.val] at c0 c1 e0 e1 B3 HC0 HC1
      have A3' : Hid _ := B3
      clear B3
      refine region_below w2.heap.size (by kernel_rfl) (by kernel_rfl) ?_
      repeat (go_big_quiet_step ((go_at_call 30; with_reducible refine quiet_below (Nat.le_refl _) (A3'.out _))))
      refine wpQuiet_nil ?_
      intro w3 hx
      have T3 : Hid (DuT w g c cur w3) := T2.out.below (BelW.out hx)
      clear hx Lie2 c0 c1 e0 e1 A3' T2
      obtain ⟨f0, f1⟩ := HC0.out w3 T3.out
      have lg3 : g < w3.heap.size := T3.out.o.under.2
      have N : Hid (Boxed (w3.alloc (.cells #[.int .i64 0, .int .i64 0] 26)) w3.heap.size #[.int .i64 0, .int .i64 0] 26) := Boxed.new _ _ _
      obtain ⟨w4, hw4⟩ : ∃ w4, (w3.alloc (.cells #[.int .i64 0, .int .i64 0] 26)).setRow w3.heap.size #[.int .i64 y0, .int .i64 y1] = w4 := ⟨_, rfl⟩
      have b4 : Below w3.heap.size w3 w4 := by rw [← hw4]; exact below_setRow ((Below.refl _ _).alloc (Nat.le_refl _) _) (Nat.le_refl _) _
      have V4 : Hid (Boxed w4 w3.heap.size #[.int .i64 y0, .int .i64 y1] 26) := by rw [← hw4]; exact setRow_heap _ _ _ _ _ _ N.out
      have T4 : Hid (DuT w g c cur w4) := T3.out.below b4
      have HW4 : Hid _ := hw4
      clear b4 hw4 T3
      go_upto_region 16 with (refine wpList_store_row rfl 26 (.tmp 9) (.tmp 81) rfl w3.heap.size #[.int .i64 y0, .int .i64 y1] rfl rfl _ _ N.out (by kernel_rfl) rfl (by simp [Value.oneCell']) ?_)
      rw [HW4.out]
      clear N HW4 f0 f1
      generalize w3.heap.size = bx at V4 lg3 ⊢
      obtain ⟨f0, f1⟩ := HC1.out w4 T4.out
      obtain ⟨g0, g1⟩ := HC0.out w4 T4.out
      have z0 := T4.out.o.ice (i * 2)
      have z1 := T4.out.o.ice (i * 2 + 1)
      have lg4 : g < w4.heap.size := T4.out.o.under.2
      have H5 := Pt.out w4 ⟨x0, x1⟩ ⟨y0, y1⟩ T4.out
      have T5 : Hid (DuT w g c (cur.set i ⟨x0, x1⟩) ((w4.setCell ⟨g, i * 2, none⟩ (.int .i64 x0)).setCell ⟨g, i * 2 + 1, none⟩ (.int .i64 x1))) := H5.2
      have T6 : Hid (DuT w g c (swp cur i kk) ((((w4.setCell ⟨g, i * 2, none⟩ (.int .i64 x0)).setCell ⟨g, i * 2 + 1, none⟩ (.int .i64 x1)).setCell ⟨g, kk * 2, none⟩ (.int .i64 y0)).setCell ⟨g, kk * 2 + 1, none⟩ (.int .i64 y1))) := by rw [Hw.out]; exact H5.1
      have V5 : Hid (Boxed ((w4.setCell ⟨g, i * 2, none⟩ (.int .i64 x0)).setCell ⟨g, i * 2 + 1, none⟩ (.int .i64 x1)) bx #[.int .i64 y0, .int .i64 y1] 26) := (V4.out.far (by omega) _ _).far (by omega) _ _
      clear H5 Pt Hw
      go_upto_region 17 with fail
      generalize (w4.setCell ⟨g, i * 2, none⟩ (.int .i64 x0)).setCell ⟨g, i * 2 + 1, none⟩ (.int .i64 x1) = w5 at T5 T6 V5 ⊢
      clear f0 f1 g0 g1 z0 z1 lg4 T4 V4
      obtain ⟨f0, f1⟩ := HC2.out w5 _ T5.out
      have z0 := T5.out.o.ice (kk * 2)
      have z1 := T5.out.o.ice (kk * 2 + 1)
      have lg5 : g < w5.heap.size := T5.out.o.under.2
      have v0 : w5.cell? ⟨bx, 0, none⟩ = some (.int .i64 y0) := V5.out.cell 0 rfl
      have v1 : w5.cell? ⟨bx, 1, none⟩ = some (.int .i64 y1) := V5.out.cell 1 rfl
      have HD : Hid (DuW w g c m F kk ((w5.setCell ⟨g, kk * 2, none⟩ (.int .i64 y0)).setCell ⟨g, kk * 2 + 1, none⟩ (.int .i64 y1))) := ⟨_, T6.out, by rw [swp_len]; exact Hlen.out, Hdn.out⟩
      clear T6 Hdn
      go_wp2
      go_roundg gz
      case measure => omega
      case rel => exact ⟨kk, by omega, by omega, rfl, HD⟩
end Go.Proofs.Ytkocbfikcjgigaa
