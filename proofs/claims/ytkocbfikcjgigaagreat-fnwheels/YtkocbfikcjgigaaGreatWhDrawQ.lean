/-
  The model's drawing of a heap and a step, of a wheel and a due (ToWheel, WheelPut). By the verifier, by program.
-/
import Derived.Test.YtkocbfikcjgigaaGreatDuDrawL
import Derived.Test.YtkocbfikcjgigaaGreatWhDrawL
import Derived.Test.YtkocbfikcjgigaaGreatM12WhDrawT
namespace Go.Proofs.YtkocbfikcjgigaaGreat
open Go.RowKit

/-- What lies while a heap and a step are drawn. -/
structure DqT (W : World) (ac : Option Addr) (len cap : Nat) (w : World) (v : Value) (l : List Du) (x : World) : Prop where
  cur : Cur W w.heap.size ac len cap x
  bel : Below w.heap.size w x
  row : DuRow (w.heap.size + 1) x v l
theorem DqT.draw {W : World} {ac : Option Addr} {len cap : Nat} {w : World} {v : Value} {l : List Du} {x x' : World} (h : DqT W ac len cap w v l x) (hW : Below W.heap.size W w) (c : Cur W w.heap.size ac len cap x') (k : Keep w.heap.size x x') : DqT W ac len cap w v l x' :=
  ⟨c, bel_two hW c.bel (Nat.le_trans h.bel.size k.size) fun j hj => (k.block j (by omega) (by have := h.bel.size; omega)).trans (h.bel.block j hj), h.row.carry fun j hj hl => k.block j (by have := (h.row.lt j hj).1; omega) hl⟩
theorem DqT.below {W : World} {ac : Option Addr} {len cap : Nat} {w : World} {v : Value} {l : List Du} {x x' : World} (h : DqT W ac len cap w v l x) (g : Below x.heap.size x x') : DqT W ac len cap w v l x' :=
  ⟨h.cur.below h.cur.lt g, h.bel.trans (g.mono h.bel.size), h.row.carry fun j _ hl => g.block j hl⟩
/-- What lies while a wheel and a due are drawn: the wheel's variable at B. -/
structure DqP (W : World) (ac : Option Addr) (len cap : Nat) (w : World) (B b t : Nat) (f : Int) (p : Option Addr) (n q : Nat) (r : Wh) (x : World) : Prop where
  cur : Cur W (w.heap.size + 2) ac len cap x
  bel : Below w.heap.size w x
  var : Boxed x B #[.int .i64 f, .slice p n q] 29
  mem : WhIn b t x (.agg #[.int .i64 f, .slice p n q]) r
  lo : w.heap.size + 2 < b
  up : t ≤ x.heap.size
  lB : w.heap.size + 2 < B
section
variable {W : World} {ac : Option Addr} {len cap : Nat} {w : World} {B b t : Nat} {f : Int} {p : Option Addr} {n q : Nat} {r : Wh} {x x' : World}
theorem DqP.draw (h : DqP W ac len cap w B b t f p n q r x) (hW : Below W.heap.size W w) (c : Cur W (w.heap.size + 2) ac len cap x') (k : Keep (w.heap.size + 2) x x') : DqP W ac len cap w B b t f p n q r x' := by
  have h1 := h.lo
  have h2 := h.up
  have h3 := h.lB
  exact ⟨c, bel_two hW c.bel (Nat.le_trans h.bel.size k.size) fun j hj => (k.block j (by omega) (by have := h.bel.size; omega)).trans (h.bel.block j hj), boxKeep h.var (by omega) k, h.mem.keep k.size (fun j j1 j2 => k.block j (by omega) (by omega)), h.lo, Nat.le_trans h.up k.size, h.lB⟩
theorem DqP.row (h : DqP W ac len cap w B b t f p n q r x) (hW : Below W.heap.size W w) {g : Nat} (hg : w.heap.size ≤ g) (hg2 : g < w.heap.size + 2) (ds : Array Value) : DqP W ac len cap w B b t f p n q r (x.setRow g ds) := by
  have h1 := h.lo
  have h3 := h.lB
  have hs := hW.size
  have o : ∀ k, k ≠ g → (x.setRow g ds).heap[k]? = x.heap[k]? := fun k hk => setRow_other _ _ _ _ hk
  exact ⟨h.cur.other (B := g) (by omega) o (below_setRow (Below.refl _ _) (by omega) _), below_setRow h.bel hg _, (o B (by omega)).trans h.var, h.mem.keep (by rw [size_setRow]; exact Nat.le_refl _) (fun j j1 j2 => o j (by omega)), h.lo, by rw [size_setRow]; exact h.up, h.lB⟩
end
theorem results_row_row {P : Program} {fn : Func} {p q : Tmp} {ty tz : TypeId} (h : fn.results = #[.cell p ty, .cell q tz]) (tmps : Array Value) (w : World) (g k : Nat) (t u : TypeId) (cs ds : Array Value) (fr gr : Nat × Nat) (d d' : TypeDesc)
    (hp : tmps.getD p undef = .pointer (some ⟨g, 0, none⟩)) (hq : tmps.getD q undef = .pointer (some ⟨k, 0, none⟩)) (hg : w.heap[g]? = some (.cells cs t fr)) (hk : w.heap[k]? = some (.cells ds u gr))
    (hu : P.underlying ty = some d) (hd : (match d with | .struct _ | .array _ _ => true | _ => false) = true) (hi : (P.info? ty).map (·.size) = some cs.size)
    (hu' : P.underlying tz = some d') (hd' : (match d' with | .struct _ | .array _ _ => true | _ => false) = true) (hi' : (P.info? tz).map (·.size) = some ds.size) :
    (results fn tmps).run P w = .ok (.tuple #[.agg cs, .agg ds]) w := by
  have hp' : tmps[p]?.getD undef = .pointer (some ⟨g, 0, none⟩) := by simpa using hp
  have hq' : tmps[q]?.getD undef = .pointer (some ⟨k, 0, none⟩) := by simpa using hq
  simp [results, h, hp', hq', asAddr, run_loadVar_row w g t ty cs fr d hg hu hd hi, run_loadVar_row w k u tz ds gr d' hk hu' hd' hi']

set_option maxHeartbeats 3200000 in
set_option maxRecDepth 100000 in
theorem dDrawToWheel {W : World} {ac : Option Addr} {len cap : Nat} (hc : Hid (Code W ac len)) (w : World) (bel : Hid (Below W.heap.size W w)) :
    Calls Tryz.prog 5 #[.slice ac len cap] w fun e w' => (∃ (v : Value) (l : List Du) (step : Int), e = .returned (.tuple #[v, .int .i64 step]) ∧ DuRow w.heap.size w' v l ∧ l.length ≤ 60) ∧ Below w.heap.size w w' := by
  have hle := bel.out.size
  go_enter Tryz.func5, Tryz.ntmps5
  go_wp2_with fail
  refine (drawNew hc _ bel).mono ?_
  rintro e w1 ⟨rfl, c1, b1⟩
  have H1 : Hid (Cur W w.heap.size ac len cap w1 ∧ Below w.heap.size w w1) := ⟨c1, b1⟩
  clear c1 b1
  go_wp2_with fail
  refine (drawDues hc _ H1.out.1).mono ?_
  rintro e w2 ⟨⟨v, l, rfl, r2, hl⟩, c2, k2⟩
  have X : Hid (DqT W ac len cap w v l w2 ∧ l.length ≤ 60) := by
    have q1 := H1.out.2.size
    have q2 := k2.size
    have q3 := H1.out.1.lt
    exact ⟨⟨c2, bel_two bel.out c2.bel (by omega) fun k hk => (k2.block k (by omega) (by omega)).trans (H1.out.2.block k hk), r2.mono (by omega)⟩, hl⟩
  clear r2 hl c2 k2 H1
  go_upto_region 3 with fail
  go_wp2_with fail
  refine region_lists (G := Unit) (by kernel_rfl) (by kernel_rfl) (by kernel_rfl) (fun i => if i = 1 then 4 else if i = 4 then 5 else 99) (fun (_ : Nat → Bool) (_ : Unit) (x : World) => DqT W ac len cap w v l x) (fun _ _ x _ x' => Keep w.heap.size x x') (fun i y x u => ([fun _ _ u => u = v, fun _ x u => ∃ g, u = .slice (some ⟨g, 0, none⟩) 6 6 ∧ g ≠ w.heap.size ∧ TabAt x g 6, fun _ _ u => u = (.pointer (some ⟨w.heap.size, 0, none⟩)), fun _ _ u => ∃ k : Nat, u = .int .i64 (k : Int) ∧ k < 6, fun _ x u => ∃ g k, u = .pointer (some ⟨g, k, none⟩) ∧ k < 6 ∧ g ≠ w.heap.size ∧ TabAt x g 6, fun _ _ u => ∃ z : Int, u = .int .i64 z, fun _ _ u => u = v, fun _ _ u => ∃ z : Int, u = .int .i64 z] : List (Unit → World → Value → Prop)).getD i (fun _ _ _ => True) y x u) ?hR () ?h0 ?step ?last
  case hR =>
    intro i j y y' x x' u hi hj hne hu h1 h2 hp hr
    have hj' : j < 8 := hj
    have hcases : j = 0 ∨ j = 1 ∨ j = 2 ∨ j = 3 ∨ j = 4 ∨ j = 5 ∨ j = 6 ∨ j = 7 := by omega
    rcases hcases with rfl | rfl | rfl | rfl | rfl | rfl | rfl | rfl
    · exact hp
    · obtain ⟨g, e, hg, ht⟩ := hp
      exact ⟨g, e, hg, ht.keep hg hr⟩
    · exact hp
    · exact hp
    · obtain ⟨g, k, e, hk, hg, ht⟩ := hp
      exact ⟨g, k, e, hk, hg, ht.keep hg hr⟩
    · exact hp
    · exact hp
    · exact hp
  case h0 => exact X.out.1.below (Below.refl _ _).drew
  case step =>
    intro i o hi ho L a' y x hLi hwt hre hkp hI hp
    have s4 : a'.tmps[4]?.getD undef = (.pointer (some ⟨w.heap.size, 0, none⟩)) := by have h2 : a'.tmps.getD 4 undef = (.pointer (some ⟨w.heap.size, 0, none⟩)) := hkp.slot 4 (by kernel_rfl); simpa using h2
    have s5 : a'.tmps[5]?.getD undef = v := by have h2 : a'.tmps.getD 5 undef = v := hkp.slot 5 (by kernel_rfl); simpa using h2
    have hi' : i < 8 := hi
    have hcases : i = 0 ∨ i = 1 ∨ i = 2 ∨ i = 3 ∨ i = 4 ∨ i = 5 ∨ i = 6 ∨ i = 7 := by omega
    rcases hcases with rfl | rfl | rfl | rfl | rfl | rfl | rfl | rfl
    · cases ho
      refine ⟨wanted_none rfl, Oper.wp_mono (K := fun a'' w'' => a'' = a'.put (some 10) v ∧ w'' = x) ?_ ?_⟩
      · rintro _ _ ⟨rfl, rfl⟩
        exact ⟨_, (), rfl, Keep.refl _ _, hI, fun u hu => hu (fun h => by cases h)⟩
      · unfold Oper.wp
        simp [go_sem, s5]
    · cases ho
      refine ⟨wanted_none rfl, Oper.wp_mono (K := fun a'' w'' => a'' = a'.put (some 11) (.slice (some ⟨x.heap.size, 0, none⟩) 6 6) ∧ w'' = x.alloc (.cells #[.int .i64 1, .int .i64 2, .int .i64 5, .int .i64 1000, .int .i64 0, .int .i64 1001] 2)) ?_ ?_⟩
      · rintro _ _ ⟨rfl, rfl⟩
        exact ⟨_, (), rfl, (Keep.refl _ _).alloc _, hI.below ((Below.refl _ _).alloc (Nat.le_refl _) _), fun u hu => ⟨x.heap.size, hu (fun h => by cases h), hI.cur.ne, TabAt.new x [1, 2, 5, 1000, 0, 1001] 2⟩⟩
      · unfold Oper.wp
        simp [go_sem]
    · cases ho
      refine ⟨wanted_none rfl, Oper.wp_mono (K := fun a'' w'' => a'' = a'.put (some 12) (.pointer (some ⟨w.heap.size, 0, none⟩)) ∧ w'' = x) ?_ ?_⟩
      · rintro _ _ ⟨rfl, rfl⟩
        exact ⟨_, (), rfl, Keep.refl _ _, hI, fun u hu => hu (fun h => by cases h)⟩
      · unfold Oper.wp
        simp [go_sem, s4]
    · cases ho
      have e2 := hp 2 (of_decide_eq_true (by kernel_rfl)) (.inr (by decide))
      have q2 : a'.tmps[12]?.getD undef = (.pointer (some ⟨w.heap.size, 0, none⟩)) := by have h2 : a'.tmps.getD 12 undef = (.pointer (some ⟨w.heap.size, 0, none⟩)) := e2; simpa using h2
      refine ⟨wanted_none rfl, op_callR (by simp [execOp, resolve, Deferred.ofValue, invoke, Act.eval, q2]) (drawBelow hc 6 (by omega) x hI.cur) ?_⟩
      rintro e z ⟨⟨v', rfl, v0, v1⟩, ci, ki⟩
      obtain ⟨k, rfl⟩ := Int.eq_ofNat_of_zero_le v0
      exact ⟨_, rfl, _, (), rfl, ki, hI.draw bel.out ci ki, fun u hu => ⟨k, hu (fun h => by cases h), by omega⟩⟩
    · cases ho
      obtain ⟨g, e1, hg, ht⟩ := hp 1 (of_decide_eq_true (by kernel_rfl)) (.inl rfl)
      obtain ⟨k, e3, hk⟩ := hp 3 (of_decide_eq_true (by kernel_rfl)) (.inr (by decide))
      have q1 : a'.tmps[11]?.getD undef = .slice (some ⟨g, 0, none⟩) 6 6 := by have h2 : a'.tmps.getD 11 undef = .slice (some ⟨g, 0, none⟩) 6 6 := e1; simpa using h2
      have q3 : a'.tmps[13]?.getD undef = .int .i64 (k : Int) := by have h2 : a'.tmps.getD 13 undef = .int .i64 (k : Int) := e3; simpa using h2
      refine ⟨wanted_none rfl, Oper.wp_mono (K := fun a'' w'' => a'' = a'.put (some 14) (.pointer (some ⟨g, k, none⟩)) ∧ w'' = x) ?_ ?_⟩
      · rintro _ _ ⟨rfl, rfl⟩
        exact ⟨_, (), rfl, Keep.refl _ _, hI, fun u hu => ⟨g, k, hu (fun h => by cases h), hk, hg, ht⟩⟩
      · unfold Oper.wp
        simp [go_sem, q1, q3, show (k : Int) < 6 by omega]
    · cases ho
      obtain ⟨g, k, e4, hk, hg, ht⟩ := hp 4 (of_decide_eq_true (by kernel_rfl)) (.inl rfl)
      have q4 : a'.tmps[14]?.getD undef = .pointer (some ⟨g, k, none⟩) := by have h2 : a'.tmps.getD 14 undef = .pointer (some ⟨g, k, none⟩) := e4; simpa using h2
      obtain ⟨z, fc⟩ := ht.2 k hk
      refine ⟨wanted_none rfl, Oper.wp_mono (K := fun a'' w'' => a'' = a'.put (some 15) (.int .i64 z) ∧ w'' = x) ?_ ?_⟩
      · rintro _ _ ⟨rfl, rfl⟩
        exact ⟨_, (), rfl, Keep.refl _ _, hI, fun u hu => ⟨z, hu (fun h => by cases h)⟩⟩
      · unfold Oper.wp
        simp [go_sem, q4, fc]
    · cases ho
      have e0 : a'.tmps.getD 10 undef = v := hp 0 (of_decide_eq_true (by kernel_rfl)) (.inr (by decide))
      refine ⟨wanted_none rfl, op_assignZ 10 rfl ?_⟩
      rw [e0]
      exact ⟨_, (), rfl, Keep.refl _ _, hI, fun u hu => hu (fun h => by cases h)⟩
    · cases ho
      obtain ⟨z, e5⟩ := hp 5 (of_decide_eq_true (by kernel_rfl)) (.inr (by decide))
      have e5' : a'.tmps.getD 15 undef = .int .i64 z := e5
      refine ⟨wanted_none rfl, op_assignZ 15 rfl ?_⟩
      rw [e5']
      exact ⟨_, (), rfl, Keep.refl _ _, hI, fun u hu => ⟨z, hu (fun h => by cases h)⟩⟩
  case last =>
  intro L a' y x hall hkp hI hp
  have e6 : a'.tmps.getD 2 undef = v := hp 6 (by decide) (by decide)
  obtain ⟨z, e7⟩ := hp 7 (by decide) (by decide)
  have e7' : a'.tmps.getD 3 undef = .int .i64 z := e7
  have HI : Hid (DqT W ac len cap w v l x) := hI
  have ha := hkp.pick [true, true, false, false, true, true, true, true, true, true, false, false, false, false, false, false] (by kernel_rfl)
  simp only [pickS] at ha
  rw [e6, e7'] at ha
  clear hp hkp hI hall e6 e7 e7'
  generalize a'.tmps.getD 10 undef = y10 at ha
  generalize a'.tmps.getD 11 undef = y11 at ha
  generalize a'.tmps.getD 12 undef = y12 at ha
  generalize a'.tmps.getD 13 undef = y13 at ha
  generalize a'.tmps.getD 14 undef = y14 at ha
  generalize a'.tmps.getD 15 undef = y15 at ha
  rw [ha]
  clear ha
  go_wp2
  go_ret2
  exact ⟨⟨v, l, z, rfl, HI.out.row.mono (by omega), X.out.2⟩, HI.out.bel⟩

set_option maxHeartbeats 6400000 in
set_option maxRecDepth 100000 in
theorem dDrawWheelPut {W : World} {ac : Option Addr} {len cap : Nat} (hc : Hid (Code W ac len)) (w : World) (bel : Hid (Below W.heap.size W w)) :
    Calls Tryz.prog 7 #[.slice ac len cap] w fun e w' => (∃ (v : Value) (r : Wh) (d : Du), e = .returned (.tuple #[v, d.val]) ∧ WhIn w.heap.size w'.heap.size w' v r ∧ r.big ≤ 100) ∧ Below w.heap.size w w' := by
  have hle := bel.out.size
  obtain ⟨w0, hw0⟩ : ∃ w0, w0 = ((w.alloc (.cells #[.int .i64 0, .slice none 0 0] 29)).alloc (.cells #[.int .i64 0, .int .i64 0] 33)) := ⟨_, rfl⟩
  have hs0 : w0.heap.size = w.heap.size + 2 := by rw [hw0]; simp
  have H0 : Hid (Below W.heap.size W w0 ∧ Below w.heap.size w w0 ∧ Boxed w0 w.heap.size #[.int .i64 0, .slice none 0 0] 29 ∧ Boxed w0 (w.heap.size + 1) #[.int .i64 0, .int .i64 0] 33) := by
    rw [hw0]
    refine ⟨(bel.out.alloc hle _).alloc (by simp; omega) _, ((Below.refl _ _).alloc (Nat.le_refl _) _).alloc (by simp) _, (Boxed.new _ _ _).more _, ?_⟩
    have := Boxed.new (w.alloc (.cells #[.int .i64 0, .slice none 0 0] 29)) #[.int .i64 0, .int .i64 0] 33
    simpa using this
  have HW0 : Hid (w0 = _) := hw0
  have HS0 : Hid (w0.heap.size = _) := hs0
  clear hw0 hs0
  go_enter Tryz.func7, Tryz.ntmps7
  go_wp2_with fail
  rw [← HW0.out]
  refine (drawNew hc _ H0.out.1).mono ?_
  rintro e w1 ⟨rfl, c1, b1⟩
  rw [HS0.out] at c1 b1 ⊢
  have H1 : Hid (Cur W (w.heap.size + 2) ac len cap w1 ∧ Below w.heap.size w w1 ∧ Boxed w1 w.heap.size #[.int .i64 0, .slice none 0 0] 29 ∧ Boxed w1 (w.heap.size + 1) #[.int .i64 0, .int .i64 0] 33 ∧ w.heap.size + 2 < w1.heap.size) := ⟨c1, H0.out.2.1.trans (b1.mono (by omega)), H0.out.2.2.1.below (by omega) b1, H0.out.2.2.2.below (by omega) b1, c1.lt⟩
  clear c1 b1 H0 HW0 HS0
  go_wp2_with fail
  refine (drawWheel hc _ H1.out.1).mono ?_
  rintro e w2 ⟨⟨v, r, rfl, i2, hbig⟩, c2, k2⟩
  obtain ⟨p, q, ev⟩ := WhIn.cells i2
  subst ev
  have Hbig : Hid (r.big ≤ 100) := hbig
  have X2 : Hid (DqP W ac len cap w w2.heap.size w1.heap.size w2.heap.size r.step p r.slots.length q r (w2.alloc (.cells #[.int .i64 r.step, .slice p r.slots.length q] 29)) ∧ Boxed (w2.alloc (.cells #[.int .i64 r.step, .slice p r.slots.length q] 29)) w.heap.size #[.int .i64 0, .slice none 0 0] 29 ∧ Boxed (w2.alloc (.cells #[.int .i64 r.step, .slice p r.slots.length q] 29)) (w.heap.size + 1) #[.int .i64 0, .int .i64 0] 33) := by
    have q1 := H1.out.2.1.size
    have q2 := k2.size
    have q3 := H1.out.2.2.2.2
    have b2 : Below w.heap.size w w2 := bel_two bel.out c2.bel (by omega) fun k hk => (k2.block k (by omega) (by omega)).trans (H1.out.2.1.block k hk)
    exact ⟨⟨c2.alloc _, b2.alloc b2.size _, Boxed.new _ _ _, i2.below ((Below.refl _ _).alloc (Nat.le_refl _) _), q3, by simp, by omega⟩, (boxKeep H1.out.2.2.1 (by omega) k2).more _, (boxKeep H1.out.2.2.2.1 (by omega) k2).more _⟩
  generalize r.step = f at X2 ⊢
  generalize r.slots.length = n at X2 ⊢
  clear i2 c2 k2 hbig
  go_upto_region 3 with fail
  generalize w2.alloc (.cells #[.int .i64 f, .slice p n q] 29) = w3 at X2 ⊢
  generalize w1.heap.size = b at X2
  obtain ⟨t, ht⟩ : ∃ t, t = w2.heap.size := ⟨_, rfl⟩
  have X3 : Hid (DqP W ac len cap w w2.heap.size b t f p n q r w3 ∧ Boxed w3 w.heap.size #[.int .i64 0, .slice none 0 0] 29 ∧ Boxed w3 (w.heap.size + 1) #[.int .i64 0, .int .i64 0] 33) := by rw [ht]; exact X2
  clear X2 ht H1
  generalize w2.heap.size = B at X3 ⊢
  go_wp2_with fail
  refine region_lists (G := Unit) (by kernel_rfl) (by kernel_rfl) (by kernel_rfl) (fun _ => 99) (fun (L : Nat → Bool) (_ : Unit) (x : World) => DqP W ac len cap w B b t f p n q r x ∧ Boxed x w.heap.size (if L 3 = true then #[.int .i64 f, .slice p n q] else #[.int .i64 0, .slice none 0 0]) 29 ∧ ∃ d : Du, Boxed x (w.heap.size + 1) #[.int .i64 d.time, .int .i64 d.id] 33) (fun _ _ _ _ _ => True) (fun i y x u => ([fun _ _ u => u = .agg #[.int .i64 f, .slice p n q], fun _ _ u => u = (.pointer (some ⟨w.heap.size + 2, 0, none⟩)), fun _ _ u => ∃ d : Du, u = d.val, fun _ _ _ => True, fun _ _ _ => True] : List (Unit → World → Value → Prop)).getD i (fun _ _ _ => True) y x u) ?hR () ?h0 ?step ?last
  case hR =>
    intro i j y y' x x' u hi hj hne hu h1 h2 hp hr
    have hj' : j < 5 := hj
    have hcases : j = 0 ∨ j = 1 ∨ j = 2 ∨ j = 3 ∨ j = 4 := by omega
    rcases hcases with rfl | rfl | rfl | rfl | rfl
    all_goals exact hp
  case h0 =>
    refine ⟨?_, X3.out.2.1, ⟨0, 0⟩, X3.out.2.2⟩
    have h := X3.out.1
    exact ⟨h.cur.drew, h.bel.drew, h.var, h.mem.below (Below.refl _ _).drew, h.lo, h.up, h.lB⟩
  case step =>
    intro i o hi ho L a' y x hLi hwt hre hkp hI hp
    obtain ⟨hD, hA, d, hE⟩ := hI
    have s2 : a'.eval (.tmp 2) = .pointer (some ⟨w.heap.size, 0, none⟩) := by have h2 : a'.tmps.getD 2 undef = .pointer (some ⟨w.heap.size, 0, none⟩) := hkp.slot 2 (by kernel_rfl); simpa [Act.eval] using h2
    have s3 : a'.eval (.tmp 3) = .pointer (some ⟨w.heap.size + 1, 0, none⟩) := by have h2 : a'.tmps.getD 3 undef = .pointer (some ⟨w.heap.size + 1, 0, none⟩) := hkp.slot 3 (by kernel_rfl); simpa [Act.eval] using h2
    have s5 : a'.eval (.tmp 5) = .pointer (some ⟨B, 0, none⟩) := by have h2 : a'.tmps.getD 5 undef = .pointer (some ⟨B, 0, none⟩) := hkp.slot 5 (by kernel_rfl); simpa [Act.eval] using h2
    have s4 : a'.tmps[4]?.getD undef = (.pointer (some ⟨w.heap.size + 2, 0, none⟩)) := by have h2 : a'.tmps.getD 4 undef = (.pointer (some ⟨w.heap.size + 2, 0, none⟩)) := hkp.slot 4 (by kernel_rfl); simpa using h2
    have hi' : i < 5 := hi
    have hcases : i = 0 ∨ i = 1 ∨ i = 2 ∨ i = 3 ∨ i = 4 := by omega
    rcases hcases with rfl | rfl | rfl | rfl | rfl
    · cases ho
      exact ⟨wanted_none rfl, wp_load_row 29 (.tmp 5) rfl B s5 _ _ _ _ hD.var Tryz.underlying29 rfl (by kernel_rfl) ⟨_, (), rfl, trivial, ⟨hD, (show Boxed _ _ (if (if (3 : Nat) = 0 then true else L 3) = true then #[.int .i64 f, .slice p n q] else #[.int .i64 0, .slice none 0 0]) _ by simpa using hA), d, hE⟩, fun u hu => hu (fun h => by cases h)⟩⟩
    · cases ho
      refine ⟨wanted_none rfl, Oper.wp_mono (K := fun a'' w'' => a'' = a'.put (some 11) (.pointer (some ⟨w.heap.size + 2, 0, none⟩)) ∧ w'' = x) ?_ ?_⟩
      · rintro _ _ ⟨rfl, rfl⟩
        exact ⟨_, (), rfl, trivial, ⟨hD, (show Boxed _ _ (if (if (3 : Nat) = 1 then true else L 3) = true then #[.int .i64 f, .slice p n q] else #[.int .i64 0, .slice none 0 0]) _ by simpa using hA), d, hE⟩, fun u hu => hu (fun h => by cases h)⟩
      · unfold Oper.wp
        simp [go_sem, s4]
    · cases ho
      have e1 : a'.tmps.getD 11 undef = (.pointer (some ⟨w.heap.size + 2, 0, none⟩)) := hp 1 (of_decide_eq_true (by kernel_rfl)) (.inr (by decide))
      have q1 : a'.tmps[11]?.getD undef = (.pointer (some ⟨w.heap.size + 2, 0, none⟩)) := by simpa using e1
      refine ⟨wanted_none rfl, op_callR (by simp [execOp, resolve, Deferred.ofValue, invoke, Act.eval, q1]) (drawDue hc x hD.cur) ?_⟩
      rintro e z ⟨⟨v', rfl, d2, rfl⟩, ci, ki⟩
      have hA' : Boxed z w.heap.size (if L 3 = true then #[.int .i64 f, .slice p n q] else #[.int .i64 0, .slice none 0 0]) 29 := boxKeep hA (by omega) ki
      exact ⟨_, rfl, _, (), rfl, trivial, ⟨hD.draw bel.out ci ki, (show Boxed _ _ (if (if (3 : Nat) = 2 then true else L 3) = true then #[.int .i64 f, .slice p n q] else #[.int .i64 0, .slice none 0 0]) _ by simpa using hA'), d, boxKeep hE (by omega) ki⟩, fun u hu => ⟨d2, hu (fun h => by cases h)⟩⟩
    · cases ho
      have e0 : a'.tmps.getD 10 undef = .agg #[.int .i64 f, .slice p n q] := hp 0 (of_decide_eq_true (by kernel_rfl)) (.inr (by decide))
      have hA2 : Boxed x w.heap.size #[.int .i64 0, .slice none 0 0] 29 := by rw [hLi] at hA; simpa using hA
      have hN : Boxed (x.setRow w.heap.size #[.int .i64 f, .slice p n q]) w.heap.size #[.int .i64 f, .slice p n q] 29 := setRow_heap _ _ _ _ _ _ hA2
      refine ⟨wanted_none rfl, wp_store_row 29 (.tmp 2) (.tmp 10) rfl w.heap.size #[.int .i64 f, .slice p n q] s2 (by simpa [Act.eval] using e0) _ _ hA2 (by kernel_rfl) rfl (by simp [Value.oneCell']) ⟨undef, (), rfl, trivial, ⟨hD.row bel.out (Nat.le_refl _) (by omega) _, (show Boxed _ _ (if (if (3 : Nat) = 3 then true else L 3) = true then #[.int .i64 f, .slice p n q] else #[.int .i64 0, .slice none 0 0]) _ by simpa using hN), d, (setRow_other _ _ _ _ (by omega)).trans hE⟩, fun _ _ => trivial⟩⟩
    · cases ho
      obtain ⟨d2, e2⟩ := hp 2 (of_decide_eq_true (by kernel_rfl)) (.inr (by decide))
      have e2' : a'.tmps.getD 12 undef = .agg #[.int .i64 d2.time, .int .i64 d2.id] := e2
      have hN : Boxed (x.setRow (w.heap.size + 1) #[.int .i64 d2.time, .int .i64 d2.id]) w.heap.size (if L 3 = true then #[.int .i64 f, .slice p n q] else #[.int .i64 0, .slice none 0 0]) 29 := (setRow_other _ _ _ _ (by omega)).trans hA
      refine ⟨wanted_none rfl, wp_store_row 33 (.tmp 3) (.tmp 12) rfl (w.heap.size + 1) #[.int .i64 d2.time, .int .i64 d2.id] s3 (by simpa [Act.eval] using e2') _ _ hE (by kernel_rfl) rfl (by simp [Value.oneCell']) ⟨undef, (), rfl, trivial, ⟨hD.row bel.out (by omega) (by omega) _, (show Boxed _ _ (if (if (3 : Nat) = 4 then true else L 3) = true then #[.int .i64 f, .slice p n q] else #[.int .i64 0, .slice none 0 0]) _ by simpa using hN), d2, setRow_heap _ _ _ _ _ _ hE⟩, fun _ _ => trivial⟩⟩
  case last =>
  intro L a' y x hall hkp hI hp
  obtain ⟨hD, hA, d, hE⟩ := hI
  rw [hall 3 (by decide)] at hA
  have HA : Hid (Boxed x w.heap.size #[.int .i64 f, .slice p n q] 29 ∧ Boxed x (w.heap.size + 1) #[.int .i64 d.time, .int .i64 d.id] 33 ∧ DqP W ac len cap w B b t f p n q r x) := ⟨by simpa using hA, hE, hD⟩
  have ha := hkp.pick [true, true, true, true, true, true, true, true, true, true, false, false, false] (by kernel_rfl)
  simp only [pickS] at ha
  clear hp hkp hall hD hA hE
  generalize a'.tmps.getD 10 undef = y10 at ha
  generalize a'.tmps.getD 11 undef = y11 at ha
  generalize a'.tmps.getD 12 undef = y12 at ha
  rw [ha]
  clear ha
  go_wp2_with fail
  have h1 := HA.out.2.2.lo
  have h2 := HA.out.2.2.up
  exact bodyPost_ret (results_row_row Tryz.results7 _ _ w.heap.size (w.heap.size + 1) _ _ _ _ _ _ _ _ rfl rfl HA.out.1 HA.out.2.1 Tryz.underlying29 rfl (by kernel_rfl) Tryz.underlying33 rfl (by kernel_rfl)) rfl ⟨⟨_, r, d, rfl, HA.out.2.2.mem.wide (by omega) h2 (Nat.le_refl _), Hbig.out⟩, HA.out.2.2.bel⟩
end Go.Proofs.YtkocbfikcjgigaaGreat
