/-
  The walk of the program's WheelPut. By the verifier.
-/
import Derived.Test.YtkocbfikcjgigaaGreatM19WhCut
import Derived.Test.YtkocbfikcjgigaaGreatOpStep
import Derived.Test.YtkocbfikcjgigaaGreatWhPu
import Derived.Test.YtkocbfikcjgigaaGreatWhOkW
import Derived.Test.YtkocbfikcjgigaaGreatM21DuSearch
import Derived.Test.YtkocbfikcjgigaaGreatDuInsI
import Derived.BigQuiet
import Derived.Deep.DeepCutAuto
namespace Go.Proofs.YtkocbfikcjgigaaGreat
open Go.RowKit Go.Shelf

theorem put_facts {r : Wh} (h : r.ok = true) : r.slots.length = 8 ∧ (1 ≤ r.step ∧ r.step ≤ 1000) ∧ (∀ i, i < 8 → Rise (dzAt r.slots i) ∧ (dzAt r.slots i).length ≤ 60) := by
  obtain ⟨h1, h2, h3, h4⟩ := Wh.ok_is.1 h
  refine ⟨h2.len, h1, fun i hi => ⟨h2.rise i hi, ?_⟩⟩
  have q := dzSum_one (ls := r.slots) (i := i) (by rw [h2.len]; exact hi)
  have := (Wh.ok_iff.1 h).2.1
  have e8 := h2.len
  rw [e8] at q
  omega
/-- One list put into the wheel. -/
theorem PuW.put {w : World} {f : Int} {a : Option Addr} {c : Nat} {i : Du} {B G g vc : Nat} {vs : List Value} {ls : List (List Du)} {wr wx : World} (h : PuW w f a 8 c i B G (some ⟨g, 0, none⟩) vc vs ls wr) (h8 : ls.length = 8) {j : Nat} (hj : j < 8) {u : Value} {m : List Du} (hu : DuRow G wx u m) (hs : Below G wr wx)
    (g2 : ∀ k, (dzV vs j).ownBlock ≠ some k → k < wr.heap.size → wx.heap[k]? = wr.heap[k]?) (hw : ∀ k, u.ownBlock = some k → (dzV vs j).ownBlock = some k ∨ wr.heap.size ≤ k) :
    PuW w f a 8 c i B G (some ⟨g, 0, none⟩) vc (vs.set j u) (ls.set j m) (wx.setCell ⟨g, j, none⟩ u) := by
  have hgl := World.ownsRow.lt h.g.outer g rfl
  have wv : WvV G B f g vc vs ls wr := ⟨h.out, h.g, by omega, h8⟩
  have lo := h.lo
  have hb : Below G wr (wx.setCell ⟨g, j, none⟩ u) := hs.setCell hgl.1 u
  have wp := wv.put hj hu hs.size g2 hw
  exact ⟨h.box.below (by omega) hb, h.item.below (by omega) hb, h.res.below (by omega) hb, wp.box, wp.mem, h.bel.trans (hb.mono (by omega)), h.lo, h.hi⟩
theorem PuW.wv {w : World} {f : Int} {a : Option Addr} {c : Nat} {i : Du} {B G g vc : Nat} {vs : List Value} {ls : List (List Du)} {wr : World} (h : PuW w f a 8 c i B G (some ⟨g, 0, none⟩) vc vs ls wr) (h8 : ls.length = 8) : WvV G B f g vc vs ls wr := by
  have hgl := World.ownsRow.lt h.g.outer g rfl
  exact ⟨h.out, h.g, by omega, h8⟩

set_option maxHeartbeats 6400000 in
set_option maxRecDepth 100000 in
theorem implWheelPut (r : Wh) (v : Value) (d : Du) (w : World) (hB : r.big ≤ 1048576) (h : Hid (WhAt w v r)) :
    Calls Tryz.prog 8 #[v, d.val] w fun e w' => (∃ v', e = .returned (.tuple #[v', .bool (r.putB d)]) ∧ WhIn w.heap.size w'.heap.size w' v' (r.put d)) ∧ Below w.heap.size w w' := by
  have A1 := fun (w : World) (hh : Hid (WhAt w v r)) => implWheelOk r v w hB hh
  obtain ⟨a, c, rfl, k⟩ := h.out
  have A2 := fun (w : World) (hh : DzAt w a r.slots) => implCpyWh r a c w hB hh
  have A3 := fun (w : World) (hh : DzAt w a r.slots) => implCntWh r a c w hB hh
  have A4 := fun (w : World) => implDueOk d w
  have P1 : Hid (r.ok = false → r.putB d = false ∧ r.put d = ⟨0, []⟩) := fun e => by unfold Wh.putB Wh.put; rw [e]; exact ⟨rfl, rfl⟩
  have P2 : Hid (r.ok = true → (d.ok && (!duHas (dzAt r.slots (slot r.step d).toNat) d && !decide (dzSum r.slots r.slots.length = 60))) = false → r.putB d = false ∧ r.put d = r) := fun e e2 => by
    have e2 : r.mayPut d = false := e2
    unfold Wh.putB Wh.put
    rw [e, e2]
    exact ⟨rfl, rfl⟩
  have P3 : Hid (r.ok = true → (d.ok && (!duHas (dzAt r.slots (slot r.step d).toNat) d && !decide (dzSum r.slots r.slots.length = 60))) = true → r.putB d = true ∧ r.put d = ⟨r.step, r.slots.set (slot r.step d).toNat (ins (dzAt r.slots (slot r.step d).toNat) d)⟩) := fun e e2 => by
    have e2 : r.mayPut d = true := e2
    unfold Wh.putB Wh.put
    rw [e, e2]
    exact ⟨rfl, rfl⟩
  have P4 : Hid (r.ok = true → r.slots.length = 8 ∧ (1 ≤ r.step ∧ r.step ≤ 1000) ∧ (∀ i, i < 8 → Rise (dzAt r.slots i) ∧ (dzAt r.slots i).length ≤ 60)) := fun e => put_facts e
  have HI : Hid (∀ w', Below w.heap.size w w' → WhAt w' (r.val a c) r ∧ DzAt w' a r.slots) := fun w' g => ⟨h.out.below g, k.below g⟩
  generalize r.putB d = pb at P1 P2 P3 ⊢
  generalize r.put d = pr at P1 P2 P3 ⊢
  generalize r.ok = ok at A1 P1 P2 P3 P4
  obtain ⟨dk, hdk⟩ : ∃ dk, d.ok = dk := ⟨_, rfl⟩
  have Hdk : Hid (d.ok = dk) := hdk
  rw [hdk] at A4 P2 P3
  clear hdk
  obtain ⟨f, ls⟩ := r
  simp only [Wh.val] at A1 A2 A3 P1 P2 P3 P4 HI ⊢
  obtain ⟨n, hn⟩ : ∃ n, ls.length = n := ⟨_, rfl⟩
  rw [hn] at A1 A2 A3 P2 P3 P4 HI ⊢
  have Hn : Hid (ls.length = n) := hn
  generalize dzSum ls n = cnt at A3 P2 P3
  obtain ⟨d0, d1⟩ := d
  simp only [Du.val] at A4 ⊢
  have A1' : Hid _ := A1
  have A2' : Hid _ := A2
  have A3' : Hid _ := A3
  have A4' : Hid _ := A4
  clear A1 A2 A3 A4 h k hB hn
  obtain ⟨W, hW⟩ : ∃ W, W = ((w.alloc (.cells #[.int .i64 f, .slice a n c] 29)).alloc (.cells #[.int .i64 d0, .int .i64 d1] 33)).alloc (.cells #[.int .i64 0, .slice none 0 0] 29) := ⟨_, rfl⟩
  have X : Hid (Boxed W w.heap.size #[.int .i64 f, .slice a n c] 29 ∧ Boxed W (w.heap.size + 1) #[.int .i64 d0, .int .i64 d1] 33 ∧ Boxed W (w.heap.size + 1 + 1) #[.int .i64 0, .slice none 0 0] 29 ∧ Below w.heap.size w W) := by
    rw [hW]
    refine ⟨((Boxed.new w _ _).more _).more _, ?_, ?_, (((Below.refl _ _).alloc (Nat.le_refl _) _).alloc (by simp) _).alloc (by simp; omega) _⟩
    · have := (Boxed.new (w.alloc (.cells #[.int .i64 f, .slice a n c] 29)) #[.int .i64 d0, .int .i64 d1] 33).more (.cells #[.int .i64 0, .slice none 0 0] 29)
      simpa using this
    · have := Boxed.new ((w.alloc (.cells #[.int .i64 f, .slice a n c] 29)).alloc (.cells #[.int .i64 d0, .int .i64 d1] 33)) #[.int .i64 0, .slice none 0 0] 29
      simpa using this
  have HW : Hid (W = _) := hW
  clear hW
  go_enter Tryz.func8, Tryz.ntmps8
  go_upto_region 1 with fail
  rw [← HW.out]
  clear HW
  have c0 : W.cell? ⟨w.heap.size, 0, none⟩ = some (.int .i64 f) := X.out.1.cell 0 rfl
  have c1 : W.cell? ⟨w.heap.size, 1, none⟩ = some (.slice a n c) := X.out.1.cell 1 rfl
  go_wp2_with fail
  refine (A1'.out _ (HI.out _ X.out.2.2.2).1).mono ?_
  rintro e w1 ⟨rfl, q⟩
  have X1 : Hid (Boxed w1 w.heap.size #[.int .i64 f, .slice a n c] 29 ∧ Boxed w1 (w.heap.size + 1) #[.int .i64 d0, .int .i64 d1] 33 ∧ Boxed w1 (w.heap.size + 1 + 1) #[.int .i64 0, .slice none 0 0] 29 ∧ Below w.heap.size w w1) :=
    ⟨X.out.1.below X.out.1.under q, X.out.2.1.below X.out.2.1.under q, X.out.2.2.1.below X.out.2.2.1.under q, X.out.2.2.2.trans (q.mono X.out.2.2.2.size)⟩
  clear q X A1' c0 c1
  cases ok
  · obtain ⟨e1, e2⟩ := P1.out (by first | exact trivial | exact rfl)
    subst e1
    subst e2
    go_wp2_with (refine wpList_store_row rfl 29 (.tmp 4) (.tmp 13) rfl (w.heap.size + 1 + 1) #[.int .i64 0, .slice none 0 0] rfl rfl _ _ X1.out.2.2.1 (by kernel_rfl) rfl (by simp [Value.oneCell']) ?_)
    refine bodyPost_ret (results_row_tmp Tryz.results8 _ _ (w.heap.size + 1 + 1) _ #[.int .i64 0, .slice none 0 0] _ _ (.bool false) rfl rfl (setRow_heap w1 (w.heap.size + 1 + 1) _ _ _ _ X1.out.2.2.1) Tryz.underlying29 rfl (by kernel_rfl)) rfl ⟨⟨_, rfl, none, 0, rfl, dzIn_nil _ _ _⟩, below_setRow X1.out.2.2.2 (by omega) _⟩
  have c0 : w1.cell? ⟨w.heap.size, 0, none⟩ = some (.int .i64 f) := X1.out.1.cell 0 rfl
  have c1 : w1.cell? ⟨w.heap.size, 1, none⟩ = some (.slice a n c) := X1.out.1.cell 1 rfl
  go_wp2_with fail
  refine (A2'.out _ (HI.out _ X1.out.2.2.2).2).mono ?_
  rintro e w2 ⟨⟨v2, vs, rfl, g2, tg⟩, q⟩
  obtain ⟨e8, hst, hris⟩ := P4.out (by first | exact trivial | exact rfl)
  subst e8
  obtain ⟨g, vc, ev⟩ : ∃ g vc, v2 = .slice (some ⟨g, 0, none⟩) 8 vc := by
    have ho := g2.outer
    rw [Hn.out] at ho
    rcases ho.2 with ⟨-, e⟩ | ⟨g, vc, cur, e, -⟩
    · cases e
    · exact ⟨g, vc, e⟩
  subst ev
  have X2 : Hid (PuW w f a 8 c ⟨d0, d1⟩ w2.heap.size (w1.heap.size + 2) (some ⟨g, 0, none⟩) vc vs ls (w2.alloc (.cells #[.int .i64 f, .slice (some ⟨g, 0, none⟩) 8 vc] 29))) := by
    have s1 := X1.out.2.2.1.under
    have s2 := q.size
    refine ⟨(X1.out.1.below X1.out.1.under q).more _, (X1.out.2.1.below X1.out.2.1.under q).more _, (X1.out.2.2.1.below X1.out.2.2.1.under q).more _, Boxed.new _ _ _, g2.below ((Below.refl _ _).alloc (Nat.le_refl _) _), ?_, by omega, by omega⟩
    have b := X1.out.2.2.2.trans (q.mono X1.out.2.2.2.size)
    exact b.alloc b.size _
  have Tg : Hid (Tight vs) := tg
  have HR : Hid (∀ i, i < 8 → Rise (dzAt ls i) ∧ (dzAt ls i).length ≤ 60) := hris
  clear q g2 tg X1 c0 c1 A2' P4 hris P1
  go_upto_region 4 with fail
  generalize w2.alloc (.cells #[.int .i64 f, .slice (some ⟨g, 0, none⟩) 8 vc] 29) = w3 at X2 ⊢
  generalize w2.heap.size = B at X2 ⊢
  generalize w1.heap.size + 2 = G at X2
  have Out : Hid (∀ wz, PuW w f a 8 c ⟨d0, d1⟩ B G (some ⟨g, 0, none⟩) vc vs ls wz → WhIn w.heap.size (wz.setRow (w.heap.size + 1 + 1) #[.int .i64 f, .slice (some ⟨g, 0, none⟩) 8 vc]).heap.size (wz.setRow (w.heap.size + 1 + 1) #[.int .i64 f, .slice (some ⟨g, 0, none⟩) 8 vc]) (.agg #[.int .i64 f, .slice (some ⟨g, 0, none⟩) 8 vc]) ⟨f, ls⟩ ∧ Below w.heap.size w (wz.setRow (w.heap.size + 1 + 1) #[.int .i64 f, .slice (some ⟨g, 0, none⟩) 8 vc])) := fun wz hz => hz.done Hn.out
  go_cut [23] (fun s wc => Hid (s = .bool (!dk || decide (cnt = 60)) ∧ PuW w f a 8 c ⟨d0, d1⟩ B G (some ⟨g, 0, none⟩) vc vs ls wc))
  case first =>
    have i0 : w3.cell? ⟨w.heap.size + 1, 0, none⟩ = some (.int .i64 d0) := X2.out.item.cell 0 rfl
    have i1 : w3.cell? ⟨w.heap.size + 1, 1, none⟩ = some (.int .i64 d1) := X2.out.item.cell 1 rfl
    go_wp2_with fail
    refine (A4'.out _).mono ?_
    rintro e w4 ⟨rfl, q⟩
    have X4 : Hid (PuW w f a 8 c ⟨d0, d1⟩ B G (some ⟨g, 0, none⟩) vc vs ls w4) := X2.out.below q
    clear q X2 i0 i1
    cases dk
    · go_wp2_with fail
      go_meet
      exact ⟨rfl, X4.out⟩
    have c0 : w4.cell? ⟨w.heap.size, 0, none⟩ = some (.int .i64 f) := X4.out.box.cell 0 rfl
    have c1 : w4.cell? ⟨w.heap.size, 1, none⟩ = some (.slice a 8 c) := X4.out.box.cell 1 rfl
    go_wp2_with fail
    refine (A3'.out _ (HI.out _ X4.out.bel).2).mono ?_
    rintro e w5 ⟨rfl, q⟩
    have X5 : Hid (PuW w f a 8 c ⟨d0, d1⟩ B G (some ⟨g, 0, none⟩) vc vs ls w5) := X4.out.below q
    clear q X4 c0 c1
    by_cases hc : cnt = 60
    · have hc' : ((cnt : Nat) : Int) = 60 := by omega
      go_wp2_with fail
      go_meet
      exact ⟨by rw [decide_eq_true hc]; rfl, X5.out⟩
    · have hc' : ¬ ((cnt : Nat) : Int) = 60 := by omega
      have hc2 : (((cnt : Nat) : Int) == 60) = false := by simpa using hc'
      go_wp2_with fail
      go_meet
      exact ⟨by rw [decide_eq_false hc]; rfl, X5.out⟩
  case rest =>
  obtain ⟨rfl, hX⟩ := hcut.out
  obtain ⟨w5, rfl⟩ : ∃ w5, w5 = wc := ⟨_, rfl⟩
  have X5 : Hid (PuW w f a 8 c ⟨d0, d1⟩ B G (some ⟨g, 0, none⟩) vc vs ls w5) := hX
  clear hcut hX X2 A3' A4' HI
  obtain ⟨bb, hbb⟩ : ∃ bb, (!dk || decide (cnt = 60)) = bb := ⟨_, rfl⟩
  rw [hbb]
  have hi := X5.out.hi
  cases bb
  case true =>
    obtain ⟨e1, e2⟩ := P2.out (by first | exact trivial | exact rfl) (by cases dk <;> simp_all)
    subst e1
    subst e2
    go_wp2_with (first | (refine wpList_load_row rfl 29 (.tmp 6) rfl B rfl _ _ _ _ X5.out.out Tryz.underlying29 rfl (by kernel_rfl) ?_) | (refine wpList_store_row rfl 29 (.tmp 4) (.tmp 24) rfl (w.heap.size + 1 + 1) _ rfl rfl _ _ X5.out.res (by kernel_rfl) rfl (by simp [Value.oneCell']) ?_))
    have D := Out.out _ X5.out
    refine bodyPost_ret (results_row_tmp Tryz.results8 _ _ (w.heap.size + 1 + 1) _ #[.int .i64 f, .slice (some ⟨g, 0, none⟩) 8 vc] _ _ (.bool false) rfl rfl (setRow_heap w5 (w.heap.size + 1 + 1) _ _ _ _ X5.out.res) Tryz.underlying29 rfl (by kernel_rfl)) rfl ⟨⟨_, rfl, D.1⟩, D.2⟩
  obtain ⟨hd1, hd2⟩ : dk = true ∧ decide (cnt = 60) = false := by cases dk <;> simp_all
  subst hd1
  rw [hd2] at P2 P3
  clear hbb hd2
  have hdk := Hdk.out
  have A5 := fun w => implSlot f ⟨d0, d1⟩ w hst hdk
  have hsl := slot_in f ⟨d0, d1⟩
  obtain ⟨j, hj⟩ : ∃ j, (slot f ⟨d0, d1⟩).toNat = j := ⟨_, rfl⟩
  have hjs : slot f ⟨d0, d1⟩ = (j : Int) := by omega
  have hj8 : j < 8 := by omega
  have hj8' : (j : Int) < 8 := by omega
  rw [hj] at P2 P3
  rw [hjs] at A5
  unfold Du.val at A5
  simp only [] at A5
  have A5' : Hid _ := A5
  clear A5 hsl hj hjs hdk
  go_upto_region 6 with fail
  haveI : Nonempty (BelW w5.heap.size w5) := ⟨⟨w5, Below.refl _ _⟩⟩
  have c0 : ∀ p : BelW w5.heap.size w5, p.w'.cell? ⟨B, 1, none⟩ = some (.slice (some ⟨g, 0, none⟩) 8 vc) := fun p => (X5.out.below p.h).out.cell 1 rfl
  have c1 : ∀ p : BelW w5.heap.size w5, p.w'.cell? ⟨w.heap.size, 0, none⟩ = some (.int .i64 f) := fun p => (X5.out.below p.h).box.cell 0 rfl
  have c2 : ∀ p : BelW w5.heap.size w5, p.w'.cell? ⟨w.heap.size + 1, 0, none⟩ = some (.int .i64 d0) := fun p => (X5.out.below p.h).item.cell 0 rfl
  have c3 : ∀ p : BelW w5.heap.size w5, p.w'.cell? ⟨w.heap.size + 1, 1, none⟩ = some (.int .i64 d1) := fun p => (X5.out.below p.h).item.cell 1 rfl
  refine region_below w5.heap.size (by kernel_rfl) (by kernel_rfl) ?_
  repeat (go_big_quiet_step ((go_at_call 28; with_reducible refine quiet_below (Nat.le_refl _) (A5'.out _))))
  refine wpQuiet_nil ?_
  intro w6 hx
  have X6 : Hid (PuW w f a 8 c ⟨d0, d1⟩ B G (some ⟨g, 0, none⟩) vc vs ls w6) := X5.out.below (BelW.out hx)
  clear hx c0 c1 c2 c3 X5 A5'
  obtain ⟨L9, hL9⟩ : ∃ L9, dzAt ls j = L9 := ⟨_, rfl⟩
  have HL9 : Hid (dzAt ls j = L9) := hL9
  rw [hL9] at P2 P3
  obtain ⟨hris, hl60⟩ := HR.out j hj8
  rw [hL9] at hris hl60
  obtain ⟨n9, hn9⟩ : ∃ n9, L9.length = n9 := ⟨_, rfl⟩
  have Hn9 : Hid (L9.length = n9) := hn9
  obtain ⟨x9, hx9⟩ : ∃ x9, dzV vs j = .slice (some ⟨x9, 0, none⟩) n9 n9 := by
    have wv := X6.out.wv Hn.out
    obtain ⟨x, n0, e⟩ := Tg.out j (by have := wv.mem.len; have := wv.eight; omega)
    obtain ⟨a', c', e'⟩ := (wv.row hj8).shape
    rw [hL9, hn9, e] at e'
    cases e'
    exact ⟨x, e⟩
  have Hx9 : Hid (dzV vs j = .slice (some ⟨x9, 0, none⟩) n9 n9) := hx9
  have RW : Hid (∀ x, Below w6.heap.size w6 x → DuRow G x (.slice (some ⟨x9, 0, none⟩) n9 n9) L9 ∧ x.cell? ⟨g, j, none⟩ = some (.slice (some ⟨x9, 0, none⟩) n9 n9) ∧ DusAt x (some ⟨x9, 0, none⟩) L9) := fun x q => by
    have h1 := (X6.out.below q).wv Hn.out
    have h2 := h1.row hj8
    have h3 := h1.cell hj8
    rw [HL9.out, Hx9.out] at h2
    rw [Hx9.out] at h3
    refine ⟨h2, h3, ?_⟩
    rw [← Hn9.out] at h2
    exact h2.at
  have A6 := fun (x : World) (q : Below w6.heap.size w6 x) => implPlaceOf (some ⟨x9, 0, none⟩) n9 L9 ⟨d0, d1⟩ x (by omega) hris (RW.out x q).2.2
  rw [hn9] at A6 hl60
  have hK := ahead_le L9 ⟨d0, d1⟩
  rw [hn9] at hK
  have Hins : Hid (ins L9 ⟨d0, d1⟩ = L9.take (ahead L9 ⟨d0, d1⟩) ++ ⟨d0, d1⟩ :: L9.drop (ahead L9 ⟨d0, d1⟩)) := rfl
  generalize ins L9 ⟨d0, d1⟩ = IL at P3 Hins
  generalize ahead L9 ⟨d0, d1⟩ = K9 at A6 hK Hins
  generalize duHas L9 ⟨d0, d1⟩ = has at A6 P2 P3
  simp only [Du.val] at A6
  have A6' : Hid _ := A6
  clear A6 hris hx9 hL9 hn9 Tg HR
  go_upto_region 7 with fail
  haveI : Nonempty (BelW w6.heap.size w6) := ⟨⟨w6, Below.refl _ _⟩⟩
  have c0 : ∀ p : BelW w6.heap.size w6, p.w'.cell? ⟨g, j, none⟩ = some (.slice (some ⟨x9, 0, none⟩) n9 n9) := fun p => (RW.out _ p.h).2.1
  have c2 : ∀ p : BelW w6.heap.size w6, p.w'.cell? ⟨w.heap.size + 1, 0, none⟩ = some (.int .i64 d0) := fun p => (X6.out.below p.h).item.cell 0 rfl
  have c3 : ∀ p : BelW w6.heap.size w6, p.w'.cell? ⟨w.heap.size + 1, 1, none⟩ = some (.int .i64 d1) := fun p => (X6.out.below p.h).item.cell 1 rfl
  refine region_below w6.heap.size (by kernel_rfl) (by kernel_rfl) ?_
  repeat (go_big_quiet_step ((go_at_call 34; with_reducible refine quiet_below (Nat.le_refl _) (A6'.out _ (BelW.h _)))))
  refine wpQuiet_nil ?_
  intro w7 hx
  have b7 : Below w6.heap.size w6 w7 := BelW.out hx
  have X7 : Hid (PuW w f a 8 c ⟨d0, d1⟩ B G (some ⟨g, 0, none⟩) vc vs ls w7) := X6.out.below b7
  have RX : Hid (∀ x, Below w7.heap.size w7 x → DuRow G x (.slice (some ⟨x9, 0, none⟩) n9 n9) L9 ∧ x.cell? ⟨g, j, none⟩ = some (.slice (some ⟨x9, 0, none⟩) n9 n9)) := fun x q => by
    have := RW.out x (b7.trans (q.mono b7.size))
    exact ⟨this.1, this.2.1⟩
  clear hx b7 c0 c2 c3 X6 A6' RW
  cases has
  case true =>
    obtain ⟨e1, e2⟩ := P2.out (by first | exact trivial | exact rfl) rfl
    subst e1
    subst e2
    go_wp2_with (first | (refine wpList_load_row rfl 29 (.tmp 6) rfl B rfl _ _ _ _ X7.out.out Tryz.underlying29 rfl (by kernel_rfl) ?_) | (refine wpList_store_row rfl 29 (.tmp 4) (.tmp 41) rfl (w.heap.size + 1 + 1) _ rfl rfl _ _ X7.out.res (by kernel_rfl) rfl (by simp [Value.oneCell']) ?_))
    have D := Out.out _ X7.out
    refine bodyPost_ret (results_row_tmp Tryz.results8 _ _ (w.heap.size + 1 + 1) _ #[.int .i64 f, .slice (some ⟨g, 0, none⟩) 8 vc] _ _ (.bool false) rfl rfl (setRow_heap w7 (w.heap.size + 1 + 1) _ _ _ _ X7.out.res) Tryz.underlying29 rfl (by kernel_rfl)) rfl ⟨⟨_, rfl, D.1⟩, D.2⟩
  obtain ⟨e1, e2⟩ := P3.out (by first | exact trivial | exact rfl) rfl
  subst e1
  subst e2
  clear P2 P3 Out
  go_upto_region 10 with fail
  refine region_lists (G := Unit) (by kernel_rfl) (by kernel_rfl) (by kernel_rfl) (fun i => if i = 7 then 9 else 99) (fun (L : Nat → Bool) (_ : Unit) (x : World) => L 7 = false → x = if L 6 = true then w7.drew.alloc (.cells #[.int .i64 d0, .int .i64 d1] 33) else w7.drew) (fun i _ x _ x' => i ≠ 6 → i ≠ 7 → i ≠ 9 → x' = x) (fun kk y x u => ([fun _ _ u => u = .pointer (some ⟨g, j, none⟩), fun _ _ u => u = .pointer (some ⟨g, j, none⟩), fun _ _ u => u = .pointer (some ⟨g, j, none⟩), fun _ _ u => u = .slice (some ⟨x9, 0, none⟩) n9 n9, fun _ _ u => u = .int .i64 (K9 : Int), fun _ _ u => u = .agg #[.int .i64 d0, .int .i64 d1], fun _ _ u => u = .slice (some ⟨w7.heap.size, 0, none⟩) 1 1, fun _ x u => DuRow G x u IL ∧ Below G w7 x ∧ (∀ k, (dzV vs j).ownBlock ≠ some k → k < w7.heap.size → x.heap[k]? = w7.heap[k]?) ∧ (∀ k, u.ownBlock = some k → (dzV vs j).ownBlock = some k ∨ w7.heap.size ≤ k), fun _ _ u => u = .pointer (some ⟨g, j, none⟩), fun _ x _ => ∃ vs', PuW w f a 8 c ⟨d0, d1⟩ B G (some ⟨g, 0, none⟩) vc vs' (ls.set j IL) x] : List (Unit → World → Value → Prop)).getD kk (fun _ _ _ => True) y x u) ?hR () ?h0 ?step ?last
  case hR =>
    intro i' j' y y' x x' u hi1 hj1 hne hu h1 h2 hp hr
    have hj' : j' < 10 := hj1
    have hcases : j' = 0 ∨ j' = 1 ∨ j' = 2 ∨ j' = 3 ∨ j' = 4 ∨ j' = 5 ∨ j' = 6 ∨ j' = 7 ∨ j' = 8 ∨ j' = 9 := by omega
    rcases hcases with rfl | rfl | rfl | rfl | rfl | rfl | rfl | rfl | rfl | rfl
    case inr.inr.inr.inr.inr.inr.inr.inl =>
      have e : x' = x := hr (by rintro rfl; exact absurd h1 (by decide +kernel)) hne (fun e => hu e.symm)
      subst e
      exact hp
    case inr.inr.inr.inr.inr.inr.inr.inr.inr =>
      have e : x' = x := hr (by rintro rfl; exact absurd h1 (by decide +kernel)) (by rintro rfl; exact absurd h1 (by decide +kernel)) hne
      subst e
      exact hp
    all_goals exact hp
  case h0 => intro _; simp
  case step =>
    intro q o hq ho L a y x hLi hwt hre hkp hI hp
    have s7 : a.tmps.getD 7 undef = .pointer (some ⟨g, j, none⟩) := hkp.slot 7 (by kernel_rfl)
    have s3 : a.tmps.getD 3 undef = .pointer (some ⟨w.heap.size + 1, 0, none⟩) := hkp.slot 3 (by kernel_rfl)
    have s8 : a.tmps.getD 8 undef = .int .i64 (K9 : Int) := hkp.slot 8 (by kernel_rfl)
    have hI' : ∀ k : Nat, k ≠ 6 → k ≠ 7 → (if (7 : Nat) = k then true else L 7) = false → x = if (if (6 : Nat) = k then true else L 6) = true then w7.drew.alloc (.cells #[.int .i64 d0, .int .i64 d1] 33) else w7.drew := by
      intro k n1 n2 z
      have e1 : (if (7 : Nat) = k then true else L 7) = L 7 := if_neg (fun e => n2 e.symm)
      have e2 : (if (6 : Nat) = k then true else L 6) = L 6 := if_neg (fun e => n1 e.symm)
      rw [e1] at z
      rw [e2]
      exact hI z
    have hbel : L 7 = false → Below w7.heap.size w7 x := by
      intro z
      rw [hI z]
      cases L 6
      · exact (Below.refl _ _).drew
      · exact (Below.refl _ _).drew.alloc (Nat.le_refl _) _
    have hq' : q < 10 := hq
    have hcases : q = 0 ∨ q = 1 ∨ q = 2 ∨ q = 3 ∨ q = 4 ∨ q = 5 ∨ q = 6 ∨ q = 7 ∨ q = 8 ∨ q = 9 := by omega
    rcases hcases with rfl | rfl | rfl | rfl | rfl | rfl | rfl | rfl | rfl | rfl
    · cases ho
      refine ⟨wanted_none rfl, op_moveY 7 rfl ?_⟩
      rw [s7]
      exact ⟨_, (), rfl, fun _ _ _ => rfl, hI' 0 (by decide) (by decide), fun u hu => hu (fun h => by cases h)⟩
    · cases ho
      refine ⟨wanted_none rfl, op_moveY 7 rfl ?_⟩
      rw [s7]
      exact ⟨_, (), rfl, fun _ _ _ => rfl, hI' 1 (by decide) (by decide), fun u hu => hu (fun h => by cases h)⟩
    · cases ho
      have e1 : a.tmps.getD 43 undef = .pointer (some ⟨g, j, none⟩) := hp 1 (of_decide_eq_true (by kernel_rfl)) (.inr (by decide))
      exact ⟨wanted_none rfl, op_nilY 43 rfl e1 ⟨_, (), rfl, fun _ _ _ => rfl, hI' 2 (by decide) (by decide), fun u hu => hu (fun h => by cases h)⟩⟩
    · cases ho
      have e1 : a.tmps.getD 44 undef = .pointer (some ⟨g, j, none⟩) := hp 2 (of_decide_eq_true (by kernel_rfl)) (.inr (by decide))
      have z7 : L 7 = false := hre 7 (by kernel_rfl)
      exact ⟨wanted_none rfl, op_loadRowY 44 rfl e1 (RX.out _ (hbel z7)).2 ⟨_, (), rfl, fun _ _ _ => rfl, hI' 3 (by decide) (by decide), fun u hu => hu (fun h => by cases h)⟩⟩
    · cases ho
      refine ⟨wanted_none rfl, op_moveY 8 rfl ?_⟩
      rw [s8]
      exact ⟨_, (), rfl, fun _ _ _ => rfl, hI' 4 (by decide) (by decide), fun u hu => hu (fun h => by cases h)⟩
    · cases ho
      have z7 : L 7 = false := hre 7 (by kernel_rfl)
      have hbx := (X7.out.below (hbel z7)).item
      exact ⟨wanted_none rfl, op_loadDueY 3 rfl s3 (hbx.cell 0 rfl) (hbx.cell 1 rfl) ⟨_, (), rfl, fun _ _ _ => rfl, hI' 5 (by decide) (by decide), fun u hu => hu (fun h => by cases h)⟩⟩
    · cases ho
      have e1 : a.tmps.getD 47 undef = .agg #[.int .i64 d0, .int .i64 d1] := hp 5 (of_decide_eq_true (by kernel_rfl)) (.inr (by decide))
      have z7 : L 7 = false := hre 7 (by kernel_rfl)
      have hx : x = w7.drew := by rw [hI z7, hLi]; rfl
      subst hx
      exact ⟨wanted_none rfl, op_buildDuY 47 rfl e1 ⟨_, (), rfl, fun h => absurd rfl h, (fun _ => by simp), fun u hu => hu (fun h => by cases h)⟩⟩
    · cases ho
      have e3 : a.tmps.getD 45 undef = .slice (some ⟨x9, 0, none⟩) n9 n9 := hp 3 (of_decide_eq_true (by kernel_rfl)) (.inr (by decide))
      have e4 : a.tmps.getD 46 undef = .int .i64 (K9 : Int) := hp 4 (of_decide_eq_true (by kernel_rfl)) (.inr (by decide))
      have e6 : a.tmps.getD 48 undef = .slice (some ⟨w7.heap.size, 0, none⟩) 1 1 := hp 6 (of_decide_eq_true (by kernel_rfl)) (.inr (by decide))
      have e3' : a.tmps[45]?.getD undef = .slice (some ⟨x9, 0, none⟩) n9 n9 := by simpa using e3
      have e4' : a.tmps[46]?.getD undef = .int .i64 (K9 : Int) := by simpa using e4
      have e6' : a.tmps[48]?.getD undef = .slice (some ⟨w7.heap.size, 0, none⟩) 1 1 := by simpa using e6
      have z6 : L 6 = true := hwt 6 (of_decide_eq_true (by kernel_rfl))
      have hx : x = w7.drew.alloc (.cells #[.int .i64 d0, .int .i64 d1] 33) := by rw [hI hLi, z6]; rfl
      have bb := hbel hLi
      have hup : G ≤ w7.heap.size := (X7.out.wv Hn.out).up
      have hn0 : Boxed x w7.heap.size #[.int .i64 d0, .int .i64 d1] 33 := by rw [hx]; exact Boxed.new w7.drew _ _
      refine ⟨wanted_none rfl, op_callR (f := 35) (args := #[.slice (some ⟨x9, 0, none⟩) n9 n9, .int .i64 (K9 : Int), .slice (some ⟨w7.heap.size, 0, none⟩) 1 1]) (by simp [execOp, resolve, Deferred.ofValue, invoke, Act.eval, e3', e4', e6']) (implInsert G x9 n9 K9 w7.heap.size L9 ⟨d0, d1⟩ x Hn9.out hK (by omega) (RX.out _ bb).1 hn0 (Nat.le_trans hup bb.size)) ?_⟩
      rintro e w8 ⟨v', rfl, q1, q2, q3, q4⟩
      refine ⟨v', rfl, _, (), rfl, fun _ h => absurd rfl h, (fun z => by simp at z), fun u hu => ?_⟩
      have eu := hu (fun h => by cases h)
      subst eu
      rw [← Hins.out] at q1
      refine ⟨q1, (bb.mono hup).trans q2, fun k k1 k3 => ?_, fun k hk => ?_⟩
      · rw [q3 k (fun e => k1 (by rw [Hx9.out, e]; rfl)) (Nat.lt_of_lt_of_le k3 bb.size)]
        exact bb.block k k3
      · rcases q4 k hk with e | e
        · left; rw [Hx9.out, e]; rfl
        · right; exact Nat.le_trans bb.size e
    · cases ho
      have e1 : a.tmps.getD 42 undef = .pointer (some ⟨g, j, none⟩) := hp 0 (of_decide_eq_true (by kernel_rfl)) (.inr (by decide))
      exact ⟨wanted_none rfl, op_nilY 42 rfl e1 ⟨_, (), rfl, fun _ _ _ => rfl, hI' 8 (by decide) (by decide), fun u hu => hu (fun h => by cases h)⟩⟩
    · cases ho
      have e8 : a.tmps.getD 50 undef = .pointer (some ⟨g, j, none⟩) := hp 8 (of_decide_eq_true (by kernel_rfl)) (.inr (by decide))
      obtain ⟨p1, p2, p3, p4⟩ : DuRow G x (a.tmps.getD 49 undef) IL ∧ Below G w7 x ∧ (∀ k, (dzV vs j).ownBlock ≠ some k → k < w7.heap.size → x.heap[k]? = w7.heap[k]?) ∧ (∀ k, (a.tmps.getD 49 undef).ownBlock = some k → (dzV vs j).ownBlock = some k ∨ w7.heap.size ≤ k) := hp 7 (of_decide_eq_true (by kernel_rfl)) (.inl rfl)
      obtain ⟨a', c', e7⟩ := p1.shape
      rw [e7] at p1 p4
      have z7 : L 7 = true := hwt 7 (of_decide_eq_true (by kernel_rfl))
      have ht := X7.out.put Hn.out hj8 p1 p2 p3 p4
      have wv := X7.out.wv Hn.out
      have hgl := wv.lt
      have hgx : x.heap[g]? = w7.heap[g]? := p3 g (rows_unlike wv.mem.outer (wv.row hj8) dzTypes g rfl) hgl.2
      have fc : x.cell? ⟨g, j, none⟩ = some (.slice (some ⟨x9, 0, none⟩) n9 n9) := by
        have := (RX.out w7 (Below.refl _ _)).2
        rw [← this]
        exact World.cell?_of_block (w := w7) (a := ⟨g, j, none⟩) hgx
      have fi : x.frozen? ⟨g, j, none⟩ = false := by
        have := wv.ice j
        rw [← this]
        exact World.frozen?_of_block (w := w7) (a := ⟨g, j, none⟩) hgx
      have hfin : ∃ vs', PuW w f _ 8 c ⟨d0, d1⟩ B G (some ⟨g, 0, none⟩) vc vs' (ls.set j IL) (x.setCell ⟨g, j, none⟩ (.slice a' IL.length c')) := ⟨_, ht⟩
      exact ⟨wanted_none rfl, op_storeRowY 50 49 rfl e8 e7 fc fi ⟨undef, (), rfl, fun _ _ h => absurd rfl h, (fun z => by simp [z7] at z), fun _ _ => hfin⟩⟩
  case last =>
  intro L a9 y x hall hkp hI hp
  have F0 : ∃ vs', PuW w f a 8 c ⟨d0, d1⟩ B G (some ⟨g, 0, none⟩) vc vs' (ls.set j IL) x := hp 9 (by decide) (by decide)
  obtain ⟨vs', F0⟩ := F0
  have F : Hid (PuW w f a 8 c ⟨d0, d1⟩ B G (some ⟨g, 0, none⟩) vc vs' (ls.set j IL) x) := F0
  have D0 := F0.done (by rw [List.length_set]; exact Hn.out)
  have D : Hid _ := D0
  have ha := hkp.pick [true, true, true, true, true, true, true, true, true, true, true, true, true, true, true, true, true, true, true, true, true, true, true, true, true, true, true, true, true, true, true, true, true, true, true, true, true, true, true, true, true, true, false, false, false, false, false, false, false, false, false, true] (by kernel_rfl)
  simp only [pickS] at ha
  clear hp hkp hI hall RX X7 F0 D0
  generalize a9.tmps.getD 42 undef = y42 at ha
  generalize a9.tmps.getD 43 undef = y43 at ha
  generalize a9.tmps.getD 44 undef = y44 at ha
  generalize a9.tmps.getD 45 undef = y45 at ha
  generalize a9.tmps.getD 46 undef = y46 at ha
  generalize a9.tmps.getD 47 undef = y47 at ha
  generalize a9.tmps.getD 48 undef = y48 at ha
  generalize a9.tmps.getD 49 undef = y49 at ha
  generalize a9.tmps.getD 50 undef = y50 at ha
  rw [ha]
  clear ha
  go_wp2_with (first | (refine wpList_load_row rfl 29 (.tmp 6) rfl B rfl _ _ _ _ F.out.out Tryz.underlying29 rfl (by kernel_rfl) ?_) | (refine wpList_store_row rfl 29 (.tmp 4) (.tmp 51) rfl (w.heap.size + 1 + 1) _ rfl rfl _ _ F.out.res (by kernel_rfl) rfl (by simp [Value.oneCell']) ?_))
  refine bodyPost_ret (results_row_tmp Tryz.results8 _ _ (w.heap.size + 1 + 1) _ #[.int .i64 f, .slice (some ⟨g, 0, none⟩) 8 vc] _ _ (.bool true) rfl rfl (setRow_heap x (w.heap.size + 1 + 1) _ _ _ _ F.out.res) Tryz.underlying29 rfl (by kernel_rfl)) rfl ⟨⟨_, rfl, D.out.1⟩, D.out.2⟩
end Go.Proofs.YtkocbfikcjgigaaGreat
