/-
  The walk of the law of rows: what is pushed is popped in the order of its list, once. By the verifier, by program.
-/
import Derived.Test.YtleokmnhhhhcjaaRwDrawQ
import Derived.Test.YtleokmnhhhhcjaaRwPushI
import Derived.Test.YtleokmnhhhhcjaaRwPopI
import Derived.Test.YtleokmnhhhhcjaaRwPushS
import Derived.Test.YtleokmnhhhhcjaaRwPopS
import Derived.Test.YtleokmnhhhhcjaaRwWtI
import Derived.Test.YtleokmnhhhhcjaaLikeRw
import Derived.Test.YtleokmnhhhhcjaaRwFacts
import Derived.Test.YtleokmnhhhhcjaaRegList
import Derived.Test.YtleokmnhhhhcjaaItWhere
import Derived.BigQuiet
namespace Go.Proofs.Ytleokmnhhhhcjaa
open Go.RowKit

/-- A variable that holds rows. -/
def Var (W : World) (B : Nat) (cs : Array Value) (r : Rw) : Prop := Boxed W B cs 26 ∧ RwAt W (.agg cs) r
theorem Var.below {W W' : World} {B : Nat} {cs : Array Value} {r : Rw} (h : Var W B cs r) (q : Below W.heap.size W W') : Var W' B cs r := ⟨h.1.below h.1.under q, h.2.below q⟩
theorem Var.new {W : World} {cs : Array Value} {r : Rw} (h : RwAt W (.agg cs) r) : Var (W.alloc (.cells cs 26)) W.heap.size cs r := ⟨Boxed.new _ _ _, h.below ((Below.refl _ _).alloc (Nat.le_refl _) _)⟩
/-- The same, the memory known. -/
def VarM (W : World) (B : Nat) (cs : Array Value) (r : Rw) : Prop := Boxed W B cs 26 ∧ ∃ b t, RwIn b t W (.agg cs) r ∧ t ≤ W.heap.size
theorem VarM.below {W W' : World} {B : Nat} {cs : Array Value} {r : Rw} (h : VarM W B cs r) (q : Below W.heap.size W W') : VarM W' B cs r := by
  obtain ⟨h1, b, t, h2, h3⟩ := h
  exact ⟨h1.below h1.under q, b, t, h2.below q, Nat.le_trans h3 q.size⟩
theorem VarM.new {b t : Nat} {W : World} {cs : Array Value} {r : Rw} (h : RwIn b t W (.agg cs) r) (ht : t ≤ W.heap.size) : VarM (W.alloc (.cells cs 26)) W.heap.size cs r := ⟨Boxed.new _ _ _, b, t, h.below ((Below.refl _ _).alloc (Nat.le_refl _) _), by simp; omega⟩
theorem VarM.at {W : World} {B : Nat} {cs : Array Value} {r : Rw} (h : VarM W B cs r) : RwAt W (.agg cs) r := by
  obtain ⟨_, b, t, h2, _⟩ := h
  exact h2.at
/-- What lies behind the draws and the calls. -/
structure FrS (w : World) (Br : Nat) (cr : Array Value) (r : Rw) (Bi : Nat) (ci : Array Value) (Bx : Nat) (cx : Array Value) (X : Rw) (Ba : Nat) (ca : Array Value) (r2 : Rw) (By : Nat) (cy : Array Value) (Y : Rw) (Bj : Nat) (cj : Array Value) (W : World) : Prop where
  bel : Below w.heap.size w W
  vr : Var W Br cr r
  vi : Boxed W Bi ci 28
  vx : VarM W Bx cx X
  va : Var W Ba ca r2
  vy : Var W By cy Y
  vj : Boxed W Bj cj 28
theorem FrS.below {w : World} {Br : Nat} {cr : Array Value} {r : Rw} {Bi : Nat} {ci : Array Value} {Bx : Nat} {cx : Array Value} {X : Rw} {Ba : Nat} {ca : Array Value} {r2 : Rw} {By : Nat} {cy : Array Value} {Y : Rw} {Bj : Nat} {cj : Array Value} {W W' : World} (h : FrS w Br cr r Bi ci Bx cx X Ba ca r2 By cy Y Bj cj W) (q : Below W.heap.size W W') : FrS w Br cr r Bi ci Bx cx X Ba ca r2 By cy Y Bj cj W' :=
  ⟨h.bel.trans (q.mono h.bel.size), h.vr.below q, h.vi.below h.vi.under q, h.vx.below q, h.va.below q, h.vy.below q, h.vj.below h.vj.under q⟩
/-- What lies while all are popped: the rows that are left, those that came out. -/
structure LpS (wi : World) (X : Rw) (j : Nat) (L : List It) (xf : Int) (xn kk : Nat) (out : Value) (W : World) : Prop where
  bel : Below wi.heap.size wi W
  zed : ∃ pk qk b t, Boxed W (wi.heap.size + 1) #[.int .i64 xf, .slice pk xn qk] 26 ∧ RwIn b t W (.agg #[.int .i64 xf, .slice pk xn qk]) (X.popK j kk) ∧ t ≤ W.heap.size ∧ ∀ g, out.ownBlock = some g → g < b ∨ t ≤ g
  row : ItRow wi.heap.size W out (L.take kk)
theorem it_box_ne {base B : Nat} {W : World} {v : Value} {l : List It} {cs : Array Value} (h : ItRow base W v l) (x : Boxed W B cs 26) : v.ownBlock ≠ some B := by
  intro hv
  rcases h.2 with ⟨e', _⟩ | ⟨g', cap', cur', e', _, hg', _⟩
  · rw [e'] at hv; cases hv
  · rw [e'] at hv
    cases hv
    unfold Boxed at x
    rw [x] at hg'
    simp only [Option.some.injEq, Obj.cells.injEq] at hg'
    exact absurd hg'.2.1 (by decide)
theorem RwIn.form {b t : Nat} {W : World} {v : Value} {x : Rw} (h : RwIn b t W v x) : ∃ p q, v = .agg #[.int .i64 x.most, .slice p x.lists.length q] := by
  obtain ⟨p, q, e, _⟩ := h
  exact ⟨p, q, e⟩
theorem weight_in (r : Rw) (k : Int) (h : r.big ≤ 1048576) : -1 ≤ r.weight k ∧ r.weight k ≤ 104857600000 := by
  unfold Rw.weight
  by_cases hc : r.ok = true ∧ 0 ≤ k ∧ k < r.lists.length
  · rw [if_pos hc]
    have h1 := wSum_in (row_ok hc.1 (i := k.toNat) (by omega)) (izAt r.lists k.toNat).length (Nat.le_refl _)
    have h2 := (Rw.small h).2.2 k.toNat (by omega)
    omega
  · rw [if_neg hc]
    omega
theorem count_in (r : Rw) (h : r.big ≤ 1048576) : -1 ≤ r.count ∧ r.count ≤ 1048576 := by
  unfold Rw.count
  have := (Rw.small h).2.1
  by_cases hc : r.ok = true
  · rw [if_pos hc]; omega
  · rw [if_neg hc]; omega

set_option maxHeartbeats 25600000 in
set_option maxRecDepth 100000 in
theorem fnRows_walk (a : Option Addr) (len cap : Nat) (w : World)
    (hcode : ∀ k, k < len → ∃ b off z, a = some ⟨b, off, none⟩ ∧ b < w.heap.size ∧ w.cell? ⟨b, off + k, none⟩ = some (.int .u8 z) ∧ 0 ≤ z ∧ z ≤ 255) :
    Calls Try.prog 3 #[.slice a len cap] w fun e w' => e = .returned (.bool true) ∧ Below w.heap.size w w' := by
  by_cases hbig : 4096 < len
  · clear hcode
    go_enter Try.func3, Try.ntmps3
    go_wp2
    go_ret
    exact ⟨rfl, Below.refl _ _⟩
  have hc : Hid (Code w a len) := ⟨by omega, hcode⟩
  have hb : Hid (Below w.heap.size w w) := Below.refl _ _
  clear hcode
  go_enter Try.func3, Try.ntmps3
  go_wp2_with (go_at_call 4; go_in)
  refine (drawPushed hc _ hb).mono ?_
  rintro e w1 ⟨⟨v, r, row, i, rfl, m1, hB1⟩, g⟩
  obtain ⟨p1, q1, ev⟩ := m1.form
  subst ev
  obtain ⟨i0, i1, i2⟩ := i
  simp only []
  -- what is told of the rows to push into
  have hb1 : r.big ≤ 1048576 := by omega
  obtain ⟨X, hX⟩ : ∃ X, r.pushed row ⟨i0, i1, i2⟩ = X := ⟨_, rfl⟩
  obtain ⟨tb, htb⟩ : ∃ tb, r.pushedB row ⟨i0, i1, i2⟩ = tb := ⟨_, rfl⟩
  have PU : ∀ v wx, Hid (RwAt wx v r) → Calls Try.prog 6 #[v, .int .i64 row, (It.val ⟨i0, i1, i2⟩)] wx fun e w' => (∃ p q, e = .returned (.tuple #[.agg #[.int .i64 X.most, .slice p X.lists.length q], .bool tb]) ∧ RwIn wx.heap.size w'.heap.size w' (.agg #[.int .i64 X.most, .slice p X.lists.length q]) X) ∧ Below wx.heap.size wx w' := fun v wx h => (implPushed r v row ⟨i0, i1, i2⟩ wx hb1 h).mono fun e w' hh => by
    rw [hX, htb] at hh
    obtain ⟨⟨v, rfl, hi⟩, hb⟩ := hh
    obtain ⟨p, q, rfl⟩ := hi.form
    exact ⟨⟨p, q, rfl, hi⟩, hb⟩
  have PS : ∀ v wx, Hid (RwAt wx v r) → Calls Try.prog 9 #[v, .int .i64 row, (It.val ⟨i0, i1, i2⟩)] wx fun e w' => (∃ p q, e = .returned (.tuple #[.agg #[.int .i64 X.most, .slice p X.lists.length q], .bool tb]) ∧ RwAt w' (.agg #[.int .i64 X.most, .slice p X.lists.length q]) X) ∧ Below wx.heap.size wx w' := fun v wx h => (specPushed r v row ⟨i0, i1, i2⟩ wx hb1 h).mono fun e w' hh => by
    rw [hX, htb] at hh
    obtain ⟨⟨v, rfl, hi⟩, hb⟩ := hh
    obtain ⟨p, q, rfl⟩ := hi.form
    exact ⟨⟨p, q, rfl, hi.at⟩, hb⟩
  have Hpush : Hid (r.ok = true → tb = true → ∃ j : Nat, row = (j : Int) ∧ j < r.lists.length ∧ X.ok = true ∧ X.count = r.count + 1 ∧ X.weight row = r.weight row + i1 ∧ izAt X.lists j = izAt r.lists j ++ [⟨i0, i1, i2⟩] ∧ X.lists.length = r.lists.length) := fun h1 h2 => by
    rw [← htb] at h2
    unfold Rw.pushedB at h2
    rw [h1, Bool.true_and] at h2
    obtain ⟨j, e1, e2, _, e4, e5, e6, e7, e8⟩ := push_facts h1 h2
    rw [hX] at e4 e5 e6 e7 e8
    exact ⟨j, e1, e2, e4, e5, e6, e7, e8⟩
  have Hnot : Hid (r.ok = false → tb = false ∧ X = ⟨0, []⟩) := fun h1 => by
    rw [← htb, ← hX]
    unfold Rw.pushedB Rw.pushed
    rw [h1]
    exact ⟨rfl, rfl⟩
  have Hsame : Hid (r.ok = true → tb = false → X = r) := fun h1 h2 => by
    rw [← htb] at h2
    unfold Rw.pushedB at h2
    rw [h1, Bool.true_and] at h2
    rw [← hX]
    unfold Rw.pushed
    rw [if_pos h1, if_neg (by rw [h2]; decide)]
  have hbX : X.big ≤ 1048576 := by
    cases ho : r.ok with
    | false => rw [(Hnot.out ho).2]; simp [Rw.big, izSum]
    | true =>
      cases ht : tb with
      | false => rw [Hsame.out ho ht]; exact hb1
      | true =>
        obtain ⟨j, _, _, h, _⟩ := Hpush.out ho ht
        have := ok_small h
        omega
  obtain ⟨f1, hf1⟩ : ∃ f, r.most = f := ⟨_, rfl⟩
  obtain ⟨n1, hn1⟩ : ∃ f, r.lists.length = f := ⟨_, rfl⟩
  obtain ⟨xf, hxf⟩ : ∃ f, X.most = f := ⟨_, rfl⟩
  obtain ⟨xn, hxn⟩ : ∃ f, X.lists.length = f := ⟨_, rfl⟩
  have hat : RwAt w1 (.agg #[.int .i64 r.most, .slice p1 r.lists.length q1]) r := m1.at
  rw [hf1, hn1] at hat ⊢
  simp only [hxf, hxn, It.val] at PU PS
  have PU' : Hid _ := PU
  have PS' : Hid _ := PS
  have Hn1 : Hid (r.lists.length = n1) := hn1
  have Hf1 : Hid (r.most = f1) := hf1
  have Hxn : Hid (X.lists.length = xn) := hxn
  have Hxf : Hid (X.most = xf) := hxf
  have H1 : Hid (RwAt w1 (.agg #[.int .i64 f1, .slice p1 n1 q1]) r ∧ Below w.heap.size w w1) := ⟨hat, g⟩
  have HbX : Hid (X.big ≤ 1048576) := hbX
  have Hb1 : Hid (r.big ≤ 1048576) := hb1
  clear m1 hat g PU PS hX htb hf1 hn1 hxf hxn hbX hb1 hB1
  go_upto_region 4 with fail
  have Y3 : Hid (Below w.heap.size w ((w1.alloc (.cells #[.int .i64 f1, .slice p1 n1 q1] 26)).alloc (.cells #[.int .i64 i0, .int .i64 i1, .int .i64 i2] 28)) ∧ Var ((w1.alloc (.cells #[.int .i64 f1, .slice p1 n1 q1] 26)).alloc (.cells #[.int .i64 i0, .int .i64 i1, .int .i64 i2] 28)) w1.heap.size #[.int .i64 f1, .slice p1 n1 q1] r ∧ Boxed ((w1.alloc (.cells #[.int .i64 f1, .slice p1 n1 q1] 26)).alloc (.cells #[.int .i64 i0, .int .i64 i1, .int .i64 i2] 28)) (w1.heap.size + 1) #[.int .i64 i0, .int .i64 i1, .int .i64 i2] 28) := by
    have b1 := H1.out.2.alloc H1.out.2.size (.cells #[.int .i64 f1, .slice p1 n1 q1] 26)
    refine ⟨b1.alloc b1.size _, (Var.new H1.out.1).below ((Below.refl _ _).alloc (Nat.le_refl _) _), ?_⟩
    have := Boxed.new (w1.alloc (.cells #[.int .i64 f1, .slice p1 n1 q1] 26)) #[.int .i64 i0, .int .i64 i1, .int .i64 i2] 28
    simpa using this
  generalize (w1.alloc (.cells #[.int .i64 f1, .slice p1 n1 q1] 26)).alloc (.cells #[.int .i64 i0, .int .i64 i1, .int .i64 i2] 28) = w3 at Y3 ⊢
  generalize w1.heap.size = Br at Y3 ⊢
  clear H1
  have c0 : w3.cell? ⟨Br, 0, none⟩ = some (.int .i64 f1) := Y3.out.2.1.1.cell 0 rfl
  have c1 : w3.cell? ⟨Br, 1, none⟩ = some (.slice p1 n1 q1) := Y3.out.2.1.1.cell 1 rfl
  have d0 : w3.cell? ⟨Br + 1, 0, none⟩ = some (.int .i64 i0) := Y3.out.2.2.cell 0 rfl
  have d1 : w3.cell? ⟨Br + 1, 1, none⟩ = some (.int .i64 i1) := Y3.out.2.2.cell 1 rfl
  have d2 : w3.cell? ⟨Br + 1, 2, none⟩ = some (.int .i64 i2) := Y3.out.2.2.cell 2 rfl
  go_wp2_with fail
  refine (PU'.out _ _ Y3.out.2.1.2).mono ?_
  rintro e w4 ⟨⟨px, qx, rfl, mx⟩, g⟩
  go_upto_region 5 with fail
  have Y4 : Hid (Below w.heap.size w (w4.alloc (.cells #[.int .i64 xf, .slice px xn qx] 26)) ∧ Var (w4.alloc (.cells #[.int .i64 xf, .slice px xn qx] 26)) Br #[.int .i64 f1, .slice p1 n1 q1] r ∧ Boxed (w4.alloc (.cells #[.int .i64 xf, .slice px xn qx] 26)) (Br + 1) #[.int .i64 i0, .int .i64 i1, .int .i64 i2] 28 ∧ VarM (w4.alloc (.cells #[.int .i64 xf, .slice px xn qx] 26)) w4.heap.size #[.int .i64 xf, .slice px xn qx] X) := by
    have b1 := g.alloc g.size (.cells #[.int .i64 xf, .slice px xn qx] 26)
    exact ⟨Y3.out.1.trans (b1.mono Y3.out.1.size), Y3.out.2.1.below b1, Y3.out.2.2.below Y3.out.2.2.under b1, VarM.new mx (Nat.le_refl _)⟩
  generalize w4.alloc (.cells #[.int .i64 xf, .slice px xn qx] 26) = w5 at Y4 ⊢
  generalize w4.heap.size = Bx at Y4 ⊢
  clear Y3 mx g c0 c1 d0 d1 d2
  go_wp2_with fail
  refine (drawPopped hc _ Y4.out.1).mono ?_
  rintro e w6 ⟨⟨v, r2, k, rfl, m2, hB2⟩, g⟩
  obtain ⟨p2, q2, ev⟩ := m2.form
  subst ev
  have hb2 : r2.big ≤ 1048576 := by omega
  obtain ⟨Y, hY⟩ : ∃ Y, r2.popped k = Y := ⟨_, rfl⟩
  obtain ⟨J, hJ⟩ : ∃ J, r2.poppedI k = J := ⟨_, rfl⟩
  obtain ⟨th, hth⟩ : ∃ th, r2.poppedB k = th := ⟨_, rfl⟩
  have PO : ∀ v wx, Hid (RwAt wx v r2) → Calls Try.prog 8 #[v, .int .i64 k] wx fun e w' => (∃ p q, e = .returned (.tuple #[.agg #[.int .i64 Y.most, .slice p Y.lists.length q], (J).val, .bool th]) ∧ RwAt w' (.agg #[.int .i64 Y.most, .slice p Y.lists.length q]) Y) ∧ Below wx.heap.size wx w' := fun v wx h => (implPopped r2 v k wx hb2 h).mono fun e w' hh => by
    rw [hY, hJ, hth] at hh
    obtain ⟨⟨v, rfl, hi⟩, hb⟩ := hh
    obtain ⟨p, q, rfl⟩ := hi.form
    exact ⟨⟨p, q, rfl, hi.at⟩, hb⟩
  have PQ : ∀ v wx, Hid (RwAt wx v r2) → Calls Try.prog 17 #[v, .int .i64 k] wx fun e w' => (∃ p q, e = .returned (.tuple #[.agg #[.int .i64 Y.most, .slice p Y.lists.length q], (J).val, .bool th]) ∧ RwAt w' (.agg #[.int .i64 Y.most, .slice p Y.lists.length q]) Y) ∧ Below wx.heap.size wx w' := fun v wx h => (specPopped r2 v k wx hb2 h).mono fun e w' hh => by
    rw [hY, hJ, hth] at hh
    obtain ⟨⟨v, rfl, hi⟩, hb⟩ := hh
    obtain ⟨p, q, rfl⟩ := hi.form
    exact ⟨⟨p, q, rfl, hi.at⟩, hb⟩
  have Hpop : Hid (th = true → Y.ok = true ∧ Y.count = r2.count - 1 ∧ Y.weight k = r2.weight k - J.size) := fun h => by
    rw [← hth] at h
    unfold Rw.poppedB at h
    rw [Bool.and_eq_true] at h
    obtain ⟨j, _, _, _, e4, e5, e6, _⟩ := pop_facts h.1 h.2
    rw [hY] at e4 e5 e6
    rw [hJ] at e6
    exact ⟨e4, e5, e6⟩
  have hbY : Y.big ≤ 1048576 := by
    cases ht : th with
    | true =>
      have := ok_small (Hpop.out ht).1
      omega
    | false =>
      rw [← hth] at ht
      unfold Rw.poppedB at ht
      rw [← hY]
      unfold Rw.popped
      cases ho : r2.ok with
      | false => simp [Rw.big, izSum]
      | true =>
        rw [ho, Bool.true_and] at ht
        rw [if_pos rfl, if_neg (by rw [ht]; decide)]
        exact hb2
  have WI1 := weight_in r2 k hb2
  have WI2 := weight_in Y k hbY
  have CI1 := count_in r2 hb2
  have CI2 := count_in Y hbY
  obtain ⟨j0, j1, j2⟩ := J
  obtain ⟨f2, hf2⟩ : ∃ f, r2.most = f := ⟨_, rfl⟩
  obtain ⟨n2, hn2⟩ : ∃ f, r2.lists.length = f := ⟨_, rfl⟩
  obtain ⟨yf, hyf⟩ : ∃ f, Y.most = f := ⟨_, rfl⟩
  obtain ⟨yn, hyn⟩ : ∃ f, Y.lists.length = f := ⟨_, rfl⟩
  have hat : RwAt w6 (.agg #[.int .i64 r2.most, .slice p2 r2.lists.length q2]) r2 := m2.at
  rw [hf2, hn2] at hat ⊢
  simp only [hyf, hyn, It.val] at PO PQ
  have PO' : Hid _ := PO
  have PQ' : Hid _ := PQ
  have H6 : Hid (RwAt w6 (.agg #[.int .i64 f2, .slice p2 n2 q2]) r2) := hat
  have HbY : Hid (Y.big ≤ 1048576) := hbY
  have Hb2 : Hid (r2.big ≤ 1048576) := hb2
  clear m2 hat PO PQ hY hJ hth hf2 hn2 hyf hyn hbY hb2 hB2
  go_upto_region 6 with fail
  have Y6 : Hid (Below w.heap.size w (w6.alloc (.cells #[.int .i64 f2, .slice p2 n2 q2] 26)) ∧ Var (w6.alloc (.cells #[.int .i64 f2, .slice p2 n2 q2] 26)) Br #[.int .i64 f1, .slice p1 n1 q1] r ∧ Boxed (w6.alloc (.cells #[.int .i64 f2, .slice p2 n2 q2] 26)) (Br + 1) #[.int .i64 i0, .int .i64 i1, .int .i64 i2] 28 ∧ VarM (w6.alloc (.cells #[.int .i64 f2, .slice p2 n2 q2] 26)) Bx #[.int .i64 xf, .slice px xn qx] X ∧ Var (w6.alloc (.cells #[.int .i64 f2, .slice p2 n2 q2] 26)) w6.heap.size #[.int .i64 f2, .slice p2 n2 q2] r2) := by
    have b1 := g.alloc g.size (.cells #[.int .i64 f2, .slice p2 n2 q2] 26)
    exact ⟨Y4.out.1.trans (b1.mono Y4.out.1.size), Y4.out.2.1.below b1, Y4.out.2.2.1.below Y4.out.2.2.1.under b1, Y4.out.2.2.2.below b1, Var.new H6.out⟩
  generalize w6.alloc (.cells #[.int .i64 f2, .slice p2 n2 q2] 26) = w7 at Y6 ⊢
  generalize w6.heap.size = Ba at Y6 ⊢
  clear Y4 H6 g
  have c0 : w7.cell? ⟨Ba, 0, none⟩ = some (.int .i64 f2) := Y6.out.2.2.2.2.1.cell 0 rfl
  have c1 : w7.cell? ⟨Ba, 1, none⟩ = some (.slice p2 n2 q2) := Y6.out.2.2.2.2.1.cell 1 rfl
  go_wp2_with fail
  refine (PO'.out _ _ Y6.out.2.2.2.2.2).mono ?_
  rintro e w8 ⟨⟨py, qy, rfl, my⟩, g⟩
  go_upto_region 7 with fail
  have Y7 : Hid (FrS w Br #[.int .i64 f1, .slice p1 n1 q1] r (Br + 1) #[.int .i64 i0, .int .i64 i1, .int .i64 i2] Bx #[.int .i64 xf, .slice px xn qx] X Ba #[.int .i64 f2, .slice p2 n2 q2] r2 w8.heap.size #[.int .i64 yf, .slice py yn qy] Y (w8.heap.size + 1) #[.int .i64 j0, .int .i64 j1, .int .i64 j2] ((w8.alloc (.cells #[.int .i64 yf, .slice py yn qy] 26)).alloc (.cells #[.int .i64 j0, .int .i64 j1, .int .i64 j2] 28))) := by
    have b1 := (g.alloc g.size (.cells #[.int .i64 yf, .slice py yn qy] 26)).alloc (by have := g.size; simp; omega) (.cells #[.int .i64 j0, .int .i64 j1, .int .i64 j2] 28)
    refine ⟨Y6.out.1.trans (b1.mono Y6.out.1.size), Y6.out.2.1.below b1, Y6.out.2.2.1.below Y6.out.2.2.1.under b1, Y6.out.2.2.2.1.below b1, Y6.out.2.2.2.2.below b1, (Var.new my).below ((Below.refl _ _).alloc (Nat.le_refl _) _), ?_⟩
    have := Boxed.new (w8.alloc (.cells #[.int .i64 yf, .slice py yn qy] 26)) #[.int .i64 j0, .int .i64 j1, .int .i64 j2] 28
    simpa using this
  generalize (w8.alloc (.cells #[.int .i64 yf, .slice py yn qy] 26)).alloc (.cells #[.int .i64 j0, .int .i64 j1, .int .i64 j2] 28) = w9 at Y7 ⊢
  generalize w8.heap.size = By at Y7 ⊢
  clear Y6 my g c0 c1
  have c0 : w9.cell? ⟨Br, 0, none⟩ = some (.int .i64 f1) := Y7.out.vr.1.cell 0 rfl
  have c1 : w9.cell? ⟨Br, 1, none⟩ = some (.slice p1 n1 q1) := Y7.out.vr.1.cell 1 rfl
  have d0 : w9.cell? ⟨Br + 1, 0, none⟩ = some (.int .i64 i0) := Y7.out.vi.cell 0 rfl
  have d1 : w9.cell? ⟨Br + 1, 1, none⟩ = some (.int .i64 i1) := Y7.out.vi.cell 1 rfl
  have d2 : w9.cell? ⟨Br + 1, 2, none⟩ = some (.int .i64 i2) := Y7.out.vi.cell 2 rfl
  go_wp2_with fail
  refine (PS'.out _ _ Y7.out.vr.2).mono ?_
  rintro e wa ⟨⟨pz, qz, rfl, mz⟩, g⟩
  go_upto_region 8 with fail
  have Z8 : Hid (FrS w Br #[.int .i64 f1, .slice p1 n1 q1] r (Br + 1) #[.int .i64 i0, .int .i64 i1, .int .i64 i2] Bx #[.int .i64 xf, .slice px xn qx] X Ba #[.int .i64 f2, .slice p2 n2 q2] r2 By #[.int .i64 yf, .slice py yn qy] Y (By + 1) #[.int .i64 j0, .int .i64 j1, .int .i64 j2] (wa.alloc (.cells #[.int .i64 xf, .slice pz xn qz] 26)) ∧ Var (wa.alloc (.cells #[.int .i64 xf, .slice pz xn qz] 26)) wa.heap.size #[.int .i64 xf, .slice pz xn qz] X) := ⟨Y7.out.below (g.alloc g.size _), Var.new mz⟩
  generalize wa.alloc (.cells #[.int .i64 xf, .slice pz xn qz] 26) = wb at Z8 ⊢
  generalize wa.heap.size = Bz at Z8 ⊢
  clear Y7 mz g c0 c1 d0 d1 d2
  have LX := fun v1 v2 wx h1 h2 => likeRws v1 v2 X wx HbX.out h1 h2
  have O1 := fun wx h => implRowsOkV r (.agg #[.int .i64 f1, .slice p1 n1 q1]) wx Hb1.out h
  have O2 := fun wx h => specRowsOkV r (.agg #[.int .i64 f1, .slice p1 n1 q1]) wx Hb1.out h
  have N1 := fun wx h => implCount r (.agg #[.int .i64 f1, .slice p1 n1 q1]) wx Hb1.out h
  have N2 := fun wx h => specCount r (.agg #[.int .i64 f1, .slice p1 n1 q1]) wx Hb1.out h
  have M1 := fun wx h => implWeight r2 (.agg #[.int .i64 f2, .slice p2 n2 q2]) k wx Hb2.out h
  have M2 := fun wx h => specWeight r2 (.agg #[.int .i64 f2, .slice p2 n2 q2]) k wx Hb2.out h
  generalize hok1 : r.ok = ok1 at O1 O2 Hpush Hnot Hsame
  generalize hcn1 : r.count = cn1 at N1 N2 Hpush
  generalize r2.weight k = wt2 at M1 M2 Hpop WI1
  have LX' : Hid _ := LX
  have O1' : Hid _ := O1
  have O2' : Hid _ := O2
  have N1' : Hid _ := N1
  have N2' : Hid _ := N2
  have M1' : Hid _ := M1
  have M2' : Hid _ := M2
  have Hok1 : Hid (r.ok = ok1) := hok1
  have Hcn1 : Hid (r.count = cn1) := hcn1
  clear LX O1 O2 N1 N2 M1 M2 hok1 hcn1
  go_cut [89] (fun s wc => Hid (s = .bool false ∧ FrS w Br #[.int .i64 f1, .slice p1 n1 q1] r (Br + 1) #[.int .i64 i0, .int .i64 i1, .int .i64 i2] Bx #[.int .i64 xf, .slice px xn qx] X Ba #[.int .i64 f2, .slice p2 n2 q2] r2 By #[.int .i64 yf, .slice py yn qy] Y (By + 1) #[.int .i64 j0, .int .i64 j1, .int .i64 j2] wc))
  case first =>
    have Go : Hid (∀ wq, Below wb.heap.size wb wq → FrS w Br #[.int .i64 f1, .slice p1 n1 q1] r (Br + 1) #[.int .i64 i0, .int .i64 i1, .int .i64 i2] Bx #[.int .i64 xf, .slice px xn qx] X Ba #[.int .i64 f2, .slice p2 n2 q2] r2 By #[.int .i64 yf, .slice py yn qy] Y (By + 1) #[.int .i64 j0, .int .i64 j1, .int .i64 j2] wq ∧ Var wq Bz #[.int .i64 xf, .slice pz xn qz] X) := fun wq q => ⟨Z8.out.1.below q, Z8.out.2.below q⟩
    haveI : Nonempty (BelW wb.heap.size wb) := ⟨⟨wb, Below.refl _ _⟩⟩
    have a0 : ∀ q : BelW wb.heap.size wb, q.w'.cell? ⟨Br, 0, none⟩ = some (.int .i64 f1) := fun q => (Go.out _ q.h).1.vr.1.cell 0 rfl
    have a1 : ∀ q : BelW wb.heap.size wb, q.w'.cell? ⟨Br, 1, none⟩ = some (.slice p1 n1 q1) := fun q => (Go.out _ q.h).1.vr.1.cell 1 rfl
    have b0 : ∀ q : BelW wb.heap.size wb, q.w'.cell? ⟨Bx, 0, none⟩ = some (.int .i64 xf) := fun q => (Go.out _ q.h).1.vx.1.cell 0 rfl
    have b1 : ∀ q : BelW wb.heap.size wb, q.w'.cell? ⟨Bx, 1, none⟩ = some (.slice px xn qx) := fun q => (Go.out _ q.h).1.vx.1.cell 1 rfl
    have c0 : ∀ q : BelW wb.heap.size wb, q.w'.cell? ⟨Bz, 0, none⟩ = some (.int .i64 xf) := fun q => (Go.out _ q.h).2.1.cell 0 rfl
    have c1 : ∀ q : BelW wb.heap.size wb, q.w'.cell? ⟨Bz, 1, none⟩ = some (.slice pz xn qz) := fun q => (Go.out _ q.h).2.1.cell 1 rfl
    have d0 : ∀ q : BelW wb.heap.size wb, q.w'.cell? ⟨Ba, 0, none⟩ = some (.int .i64 f2) := fun q => (Go.out _ q.h).1.va.1.cell 0 rfl
    have d1 : ∀ q : BelW wb.heap.size wb, q.w'.cell? ⟨Ba, 1, none⟩ = some (.slice p2 n2 q2) := fun q => (Go.out _ q.h).1.va.1.cell 1 rfl
    have AX : Hid (∀ q : BelW wb.heap.size wb, RwAt q.w' (.agg #[.int .i64 xf, .slice px xn qx]) X ∧ RwAt q.w' (.agg #[.int .i64 xf, .slice pz xn qz]) X) := fun q => ⟨(Go.out _ q.h).1.vx.at, (Go.out _ q.h).2.2⟩
    have AR : Hid (∀ q : BelW wb.heap.size wb, RwAt q.w' (.agg #[.int .i64 f1, .slice p1 n1 q1]) r) := fun q => (Go.out _ q.h).1.vr.2
    have AA : Hid (∀ q : BelW wb.heap.size wb, RwAt q.w' (.agg #[.int .i64 f2, .slice p2 n2 q2]) r2) := fun q => (Go.out _ q.h).1.va.2
    clear Z8
    go_wp2_with fail
    refine region_below wb.heap.size (by kernel_rfl) (by kernel_rfl) ?_
    repeat (go_big_quiet_step ((first | (go_at_call 10; refine quiet_below (Nat.le_refl _) (LX'.out _ _ _ (AX.out _).1 (AX.out _).2)) | (go_at_call 11; refine quiet_below (Nat.le_refl _) (O1'.out _ (AR.out _))) | (go_at_call 12; refine quiet_below (Nat.le_refl _) (O2'.out _ (AR.out _))) | (go_at_call 13; refine quiet_below (Nat.le_refl _) (N1'.out _ (AR.out _))) | (go_at_call 14; refine quiet_below (Nat.le_refl _) (N2'.out _ (AR.out _))) | (go_at_call 15; refine quiet_below (Nat.le_refl _) (M1'.out _ (AA.out _))) | (go_at_call 16; refine quiet_below (Nat.le_refl _) (M2'.out _ (AA.out _))))))
    refine wpQuiet_nil ?_
    intro wq hx
    have GQ : Hid (FrS w Br #[.int .i64 f1, .slice p1 n1 q1] r (Br + 1) #[.int .i64 i0, .int .i64 i1, .int .i64 i2] Bx #[.int .i64 xf, .slice px xn qx] X Ba #[.int .i64 f2, .slice p2 n2 q2] r2 By #[.int .i64 yf, .slice py yn qy] Y (By + 1) #[.int .i64 j0, .int .i64 j1, .int .i64 j2] wq) := (Go.out _ (BelW.out hx)).1
    clear hx
    go_wp2_with fail
    go_meet
    exact ⟨by first | rfl | simp, GQ.out⟩
  case rest =>
  obtain ⟨rfl, hP⟩ := hcut.out
  obtain ⟨wd, rfl⟩ : ∃ wd, wd = wc := ⟨_, rfl⟩
  have Z9 : Hid (FrS w Br #[.int .i64 f1, .slice p1 n1 q1] r (Br + 1) #[.int .i64 i0, .int .i64 i1, .int .i64 i2] Bx #[.int .i64 xf, .slice px xn qx] X Ba #[.int .i64 f2, .slice p2 n2 q2] r2 By #[.int .i64 yf, .slice py yn qy] Y (By + 1) #[.int .i64 j0, .int .i64 j1, .int .i64 j2] wd) := hP
  clear hcut hP Z8
  have c0 : wd.cell? ⟨Ba, 0, none⟩ = some (.int .i64 f2) := Z9.out.va.1.cell 0 rfl
  have c1 : wd.cell? ⟨Ba, 1, none⟩ = some (.slice p2 n2 q2) := Z9.out.va.1.cell 1 rfl
  go_wp2_with fail
  refine (PQ'.out _ _ Z9.out.va.2).mono ?_
  rintro e we ⟨⟨pv, qv, rfl, mv⟩, g⟩
  go_upto_region 11 with fail
  have ZB : Hid (FrS w Br #[.int .i64 f1, .slice p1 n1 q1] r (Br + 1) #[.int .i64 i0, .int .i64 i1, .int .i64 i2] Bx #[.int .i64 xf, .slice px xn qx] X Ba #[.int .i64 f2, .slice p2 n2 q2] r2 By #[.int .i64 yf, .slice py yn qy] Y (By + 1) #[.int .i64 j0, .int .i64 j1, .int .i64 j2] ((we.alloc (.cells #[.int .i64 yf, .slice pv yn qv] 26)).alloc (.cells #[.int .i64 j0, .int .i64 j1, .int .i64 j2] 28)) ∧ Var ((we.alloc (.cells #[.int .i64 yf, .slice pv yn qv] 26)).alloc (.cells #[.int .i64 j0, .int .i64 j1, .int .i64 j2] 28)) we.heap.size #[.int .i64 yf, .slice pv yn qv] Y ∧ Boxed ((we.alloc (.cells #[.int .i64 yf, .slice pv yn qv] 26)).alloc (.cells #[.int .i64 j0, .int .i64 j1, .int .i64 j2] 28)) (we.heap.size + 1) #[.int .i64 j0, .int .i64 j1, .int .i64 j2] 28) := by
    have b1 := (g.alloc g.size (.cells #[.int .i64 yf, .slice pv yn qv] 26)).alloc (by have := g.size; simp; omega) (.cells #[.int .i64 j0, .int .i64 j1, .int .i64 j2] 28)
    refine ⟨Z9.out.below b1, (Var.new mv).below ((Below.refl _ _).alloc (Nat.le_refl _) _), ?_⟩
    have := Boxed.new (we.alloc (.cells #[.int .i64 yf, .slice pv yn qv] 26)) #[.int .i64 j0, .int .i64 j1, .int .i64 j2] 28
    simpa using this
  generalize (we.alloc (.cells #[.int .i64 yf, .slice pv yn qv] 26)).alloc (.cells #[.int .i64 j0, .int .i64 j1, .int .i64 j2] 28) = wf at ZB ⊢
  generalize we.heap.size = Bv at ZB ⊢
  clear Z9 mv g c0 c1
  have LY := fun v1 v2 wx h1 h2 => likeRws v1 v2 Y wx HbY.out h1 h2
  have LY' : Hid _ := LY
  clear LY
  have c0 : wf.cell? ⟨By, 0, none⟩ = some (.int .i64 yf) := ZB.out.1.vy.1.cell 0 rfl
  have c1 : wf.cell? ⟨By, 1, none⟩ = some (.slice py yn qy) := ZB.out.1.vy.1.cell 1 rfl
  have d0 : wf.cell? ⟨Bv, 0, none⟩ = some (.int .i64 yf) := ZB.out.2.1.1.cell 0 rfl
  have d1 : wf.cell? ⟨Bv, 1, none⟩ = some (.slice pv yn qv) := ZB.out.2.1.1.cell 1 rfl
  have g0 : wf.cell? ⟨By + 1, 0, none⟩ = some (.int .i64 j0) := ZB.out.1.vj.cell 0 rfl
  have g1 : wf.cell? ⟨By + 1, 1, none⟩ = some (.int .i64 j1) := ZB.out.1.vj.cell 1 rfl
  have g2 : wf.cell? ⟨By + 1, 2, none⟩ = some (.int .i64 j2) := ZB.out.1.vj.cell 2 rfl
  have h0 : wf.cell? ⟨Bv + 1, 0, none⟩ = some (.int .i64 j0) := ZB.out.2.2.cell 0 rfl
  have h1 : wf.cell? ⟨Bv + 1, 1, none⟩ = some (.int .i64 j1) := ZB.out.2.2.cell 1 rfl
  have h2 : wf.cell? ⟨Bv + 1, 2, none⟩ = some (.int .i64 j2) := ZB.out.2.2.cell 2 rfl
  go_wp2_with fail
  refine (LY'.out _ _ _ ZB.out.1.vy.2 ZB.out.2.1.2).mono ?_
  rintro e wg ⟨rfl, q⟩
  have ZC : Hid (FrS w Br #[.int .i64 f1, .slice p1 n1 q1] r (Br + 1) #[.int .i64 i0, .int .i64 i1, .int .i64 i2] Bx #[.int .i64 xf, .slice px xn qx] X Ba #[.int .i64 f2, .slice p2 n2 q2] r2 By #[.int .i64 yf, .slice py yn qy] Y (By + 1) #[.int .i64 j0, .int .i64 j1, .int .i64 j2] wg) := ZB.out.1.below q
  clear q ZB c0 c1 d0 d1 g0 g1 g2 h0 h1 h2
  go_upto_region 13 with fail
  have OY := fun wx h => implRowsOkV Y (.agg #[.int .i64 yf, .slice py yn qy]) wx HbY.out h
  have NY := fun wx h => implCount Y (.agg #[.int .i64 yf, .slice py yn qy]) wx HbY.out h
  have NA := fun wx h => implCount r2 (.agg #[.int .i64 f2, .slice p2 n2 q2]) wx Hb2.out h
  have MY := fun wx h => implWeight Y (.agg #[.int .i64 yf, .slice py yn qy]) k wx HbY.out h
  generalize Y.ok = yok at OY Hpop
  generalize Y.count = ycn at NY Hpop CI2
  generalize Y.weight k = ywt at MY Hpop WI2
  generalize r2.count = cn2 at NA Hpop CI1
  go_cut [136] (fun s wc => Hid (s = .bool false ∧ FrS w Br #[.int .i64 f1, .slice p1 n1 q1] r (Br + 1) #[.int .i64 i0, .int .i64 i1, .int .i64 i2] Bx #[.int .i64 xf, .slice px xn qx] X Ba #[.int .i64 f2, .slice p2 n2 q2] r2 By #[.int .i64 yf, .slice py yn qy] Y (By + 1) #[.int .i64 j0, .int .i64 j1, .int .i64 j2] wc))
  case first =>
    have Go : Hid (∀ wq, Below wg.heap.size wg wq → FrS w Br #[.int .i64 f1, .slice p1 n1 q1] r (Br + 1) #[.int .i64 i0, .int .i64 i1, .int .i64 i2] Bx #[.int .i64 xf, .slice px xn qx] X Ba #[.int .i64 f2, .slice p2 n2 q2] r2 By #[.int .i64 yf, .slice py yn qy] Y (By + 1) #[.int .i64 j0, .int .i64 j1, .int .i64 j2] wq) := fun wq q => ZC.out.below q
    haveI : Nonempty (BelW wg.heap.size wg) := ⟨⟨wg, Below.refl _ _⟩⟩
    cases th
    · go_wp2_with fail
      refine region_below wg.heap.size (by kernel_rfl) (by kernel_rfl) ?_
      repeat (go_big_quiet_step (fail))
      refine wpQuiet_nil ?_
      intro wq hx
      have GQ : Hid (FrS w Br #[.int .i64 f1, .slice p1 n1 q1] r (Br + 1) #[.int .i64 i0, .int .i64 i1, .int .i64 i2] Bx #[.int .i64 xf, .slice px xn qx] X Ba #[.int .i64 f2, .slice p2 n2 q2] r2 By #[.int .i64 yf, .slice py yn qy] Y (By + 1) #[.int .i64 j0, .int .i64 j1, .int .i64 j2] wq) := Go.out _ (BelW.out hx)
      clear hx
      go_wp2_with fail
      go_meet
      exact ⟨by first | rfl | simp, GQ.out⟩
    obtain ⟨e1, e2, e3⟩ := Hpop.out (by first | exact trivial | exact rfl)
    subst e1
    subst e2
    subst e3
    have k1 : IntKind.i64.wrap (cn2 - 1) = cn2 - 1 := by rw [IntKind.wrap_i64]; omega
    have k2 : IntKind.i64.wrap (wt2 - j1) = wt2 - j1 := by rw [IntKind.wrap_i64]; omega
    have OY' : Hid _ := OY
    have NY' : Hid _ := NY
    have NA' : Hid _ := NA
    have MY' : Hid _ := MY
    clear OY NY NA MY Hpop CI1 CI2 WI1 WI2
    have a0 : ∀ q : BelW wg.heap.size wg, q.w'.cell? ⟨By, 0, none⟩ = some (.int .i64 yf) := fun q => (Go.out _ q.h).vy.1.cell 0 rfl
    have a1 : ∀ q : BelW wg.heap.size wg, q.w'.cell? ⟨By, 1, none⟩ = some (.slice py yn qy) := fun q => (Go.out _ q.h).vy.1.cell 1 rfl
    have d0 : ∀ q : BelW wg.heap.size wg, q.w'.cell? ⟨Ba, 0, none⟩ = some (.int .i64 f2) := fun q => (Go.out _ q.h).va.1.cell 0 rfl
    have d1 : ∀ q : BelW wg.heap.size wg, q.w'.cell? ⟨Ba, 1, none⟩ = some (.slice p2 n2 q2) := fun q => (Go.out _ q.h).va.1.cell 1 rfl
    have e1 : ∀ q : BelW wg.heap.size wg, q.w'.cell? ⟨By + 1, 1, none⟩ = some (.int .i64 j1) := fun q => (Go.out _ q.h).vj.cell 1 rfl
    have AY : Hid (∀ q : BelW wg.heap.size wg, RwAt q.w' (.agg #[.int .i64 yf, .slice py yn qy]) Y) := fun q => (Go.out _ q.h).vy.2
    have AA : Hid (∀ q : BelW wg.heap.size wg, RwAt q.w' (.agg #[.int .i64 f2, .slice p2 n2 q2]) r2) := fun q => (Go.out _ q.h).va.2
    go_wp2_with fail
    refine region_below wg.heap.size (by kernel_rfl) (by kernel_rfl) ?_
    repeat (go_big_quiet_step ((first | (go_at_call_of 13 (Value.agg #[.int .i64 yf, .slice py yn qy]); refine quiet_below (Nat.le_refl _) (NY'.out _ (AY.out _))) | (go_at_call_of 13 (Value.agg #[.int .i64 f2, .slice p2 n2 q2]); refine quiet_below (Nat.le_refl _) (NA'.out _ (AA.out _))) | (go_at_call_of 15 (Value.agg #[.int .i64 yf, .slice py yn qy]); refine quiet_below (Nat.le_refl _) (MY'.out _ (AY.out _))) | (go_at_call_of 15 (Value.agg #[.int .i64 f2, .slice p2 n2 q2]); refine quiet_below (Nat.le_refl _) (M1'.out _ (AA.out _))) | (go_at_call 11; refine quiet_below (Nat.le_refl _) (OY'.out _ (AY.out _))))))
    refine wpQuiet_nil ?_
    intro wq hx
    have GQ : Hid (FrS w Br #[.int .i64 f1, .slice p1 n1 q1] r (Br + 1) #[.int .i64 i0, .int .i64 i1, .int .i64 i2] Bx #[.int .i64 xf, .slice px xn qx] X Ba #[.int .i64 f2, .slice p2 n2 q2] r2 By #[.int .i64 yf, .slice py yn qy] Y (By + 1) #[.int .i64 j0, .int .i64 j1, .int .i64 j2] wq) := Go.out _ (BelW.out hx)
    clear hx
    go_wp2_with fail
    go_meet
    exact ⟨by first | rfl | simp, GQ.out⟩
  case rest =>
  obtain ⟨rfl, hP⟩ := hcut.out
  obtain ⟨wh, rfl⟩ : ∃ wh, wh = wc := ⟨_, rfl⟩
  have ZD : Hid (FrS w Br #[.int .i64 f1, .slice p1 n1 q1] r (Br + 1) #[.int .i64 i0, .int .i64 i1, .int .i64 i2] Bx #[.int .i64 xf, .slice px xn qx] X Ba #[.int .i64 f2, .slice p2 n2 q2] r2 By #[.int .i64 yf, .slice py yn qy] Y (By + 1) #[.int .i64 j0, .int .i64 j1, .int .i64 j2] wh) := hP
  clear hcut hP ZC OY NY NA MY Hpop CI1 CI2 WI1 WI2 M1' M2' PO' PQ' PS' LY'
  have c0 : wh.cell? ⟨Br, 0, none⟩ = some (.int .i64 f1) := ZD.out.vr.1.cell 0 rfl
  have c1 : wh.cell? ⟨Br, 1, none⟩ = some (.slice p1 n1 q1) := ZD.out.vr.1.cell 1 rfl
  go_wp2_with fail
  refine (O2'.out _ ZD.out.vr.2).mono ?_
  rintro e wi ⟨rfl, q⟩
  have ZE : Hid (FrS w Br #[.int .i64 f1, .slice p1 n1 q1] r (Br + 1) #[.int .i64 i0, .int .i64 i1, .int .i64 i2] Bx #[.int .i64 xf, .slice px xn qx] X Ba #[.int .i64 f2, .slice p2 n2 q2] r2 By #[.int .i64 yf, .slice py yn qy] Y (By + 1) #[.int .i64 j0, .int .i64 j1, .int .i64 j2] wi) := ZD.out.below q
  clear q ZD c0 c1 O2'
  cases ok1
  · obtain ⟨rfl, hX0⟩ := Hnot.out (by first | exact trivial | exact rfl)
    have HX0 : Hid (X = ⟨0, []⟩) := hX0
    have RZ : Hid (RwAt wi (.agg #[.int .i64 0, .slice none 0 0]) X) := by
      show RwAt _ _ _
      rw [hX0]
      exact ⟨none, 0, rfl, IzAt.nil _ _⟩
    clear hX0
    have b0 : wi.cell? ⟨Bx, 0, none⟩ = some (.int .i64 xf) := ZE.out.vx.1.cell 0 rfl
    have b1 : wi.cell? ⟨Bx, 1, none⟩ = some (.slice px xn qx) := ZE.out.vx.1.cell 1 rfl
    go_wp2_with fail
    refine (LX'.out _ _ _ ZE.out.vx.at RZ.out).mono ?_
    rintro e wj ⟨rfl, q⟩
    have ZF : Hid (Below w.heap.size w wj) := (ZE.out.below q).bel
    clear q ZE b0 b1
    go_wp2
    go_ret
    exact ⟨rfl, ZF.out⟩
  cases tb
  · have hXr := Hsame.out (by first | exact trivial | exact rfl) (by first | exact trivial | exact rfl)
    have RZ : Hid (RwAt wi (.agg #[.int .i64 f1, .slice p1 n1 q1]) X) := by
      show RwAt _ _ _
      rw [hXr]
      exact ZE.out.vr.2
    clear hXr
    have b0 : wi.cell? ⟨Bx, 0, none⟩ = some (.int .i64 xf) := ZE.out.vx.1.cell 0 rfl
    have b1 : wi.cell? ⟨Bx, 1, none⟩ = some (.slice px xn qx) := ZE.out.vx.1.cell 1 rfl
    have c0 : wi.cell? ⟨Br, 0, none⟩ = some (.int .i64 f1) := ZE.out.vr.1.cell 0 rfl
    have c1 : wi.cell? ⟨Br, 1, none⟩ = some (.slice p1 n1 q1) := ZE.out.vr.1.cell 1 rfl
    go_wp2_with fail
    refine (LX'.out _ _ _ ZE.out.vx.at RZ.out).mono ?_
    rintro e wj ⟨rfl, q⟩
    have ZF : Hid (Below w.heap.size w wj) := (ZE.out.below q).bel
    clear q ZE b0 b1 c0 c1
    go_wp2
    go_ret
    exact ⟨rfl, ZF.out⟩
  obtain ⟨j, hrow, hj, hXok, hXc, hXw, hXat, hXl⟩ := Hpush.out (by first | exact trivial | exact rfl) (by first | exact trivial | exact rfl)
  subst hrow
  clear Hpush Hnot Hsame LX' PU' Hok1
  obtain ⟨L, hL⟩ : ∃ L, izAt X.lists j = L := ⟨_, rfl⟩
  have hjX : j < X.lists.length := by rw [hXl]; exact hj
  have hL200 : L.length ≤ 200 := by
    rw [← hL]
    have h1 := izSum_one hjX
    have h2 := all_length X
    have h3 := (Rw.ok_iff.1 hXok)
    have h4 := h3.2.2.2.2
    have h5 := h3.1.2
    omega
  -- popped so many times
  have PK : Hid (∀ kk, kk ≤ L.length → ∀ v wx, RwAt wx v (X.popK j kk) → Calls Try.prog 8 #[v, .int .i64 (j : Int)] wx fun e w' => (∃ p q, e = .returned (.tuple #[.agg #[.int .i64 xf, .slice p xn q], (if kk < L.length then itAt L kk else ⟨0, 0, 0⟩ : It).val, .bool (decide (kk < L.length))]) ∧ (kk < L.length → RwIn wx.heap.size w'.heap.size w' (.agg #[.int .i64 xf, .slice p xn q]) (X.popK j (kk + 1)))) ∧ Below wx.heap.size wx w') := by
    intro kk hkk v wx h
    have okk := popK_ok hXok hjX kk
    have hbk := ok_small okk
    refine (implPopped (X.popK j kk) v (j : Int) wx (by omega) h).mono fun e w' hh => ?_
    obtain ⟨⟨v', rfl, hi⟩, hb⟩ := hh
    obtain ⟨pp, qq, rfl⟩ := hi.form
    by_cases hlt : kk < L.length
    · have hlt' := hlt
      rw [← hL] at hlt'
      obtain ⟨n1', n2', n3'⟩ := popK_next hXok hjX hlt'
      rw [n1'] at hi ⊢
      rw [n2', n3', hL, if_pos hlt, decide_eq_true hlt]
      have e1 : (X.popK j (kk + 1)).most = xf := Hxf.out
      have e2 : (X.popK j (kk + 1)).lists.length = xn := by rw [popK_len]; exact Hxn.out
      rw [e1, e2] at hi ⊢
      exact ⟨⟨pp, qq, rfl, fun _ => hi⟩, hb⟩
    · have hlt' := hlt
      rw [← hL] at hlt'
      have n3' := popK_end hXok hjX hlt'
      have n2' : (X.popK j kk).poppedI (j : Int) = ⟨0, 0, 0⟩ := by
        unfold Rw.poppedI
        unfold Rw.poppedB at n3'
        rw [if_neg (by rw [n3']; decide)]
      have e0 : (X.popK j kk).popped (j : Int) = X.popK j kk := by
        unfold Rw.popped
        unfold Rw.poppedB at n3'
        rw [okk, Bool.true_and] at n3'
        rw [if_pos okk, if_neg (by rw [n3']; decide)]
      rw [e0] at hi ⊢
      rw [n2', n3', if_neg hlt, decide_eq_false hlt]
      have e1 : (X.popK j kk).most = xf := Hxf.out
      have e2 : (X.popK j kk).lists.length = xn := by rw [popK_len]; exact Hxn.out
      rw [e1, e2]
      exact ⟨⟨pp, qq, rfl, fun h => absurd h hlt⟩, hb⟩
  have Pk0 : Hid (X.popK j 0 = X) := popK_zero hjX
  have HXat : Hid (L = izAt r.lists j ++ [⟨i0, i1, i2⟩]) := by show L = _; rw [← hL]; exact hXat
  obtain ⟨m, hm⟩ : ∃ m, L.length = m := ⟨_, rfl⟩
  have Hm : Hid (L.length = m) := hm
  rw [hm] at hL200
  have HXok : Hid (X.ok = true) := hXok
  have HXc : Hid (X.count = cn1 + 1) := hXc
  have HXw : Hid (X.weight (j : Int) = r.weight (j : Int) + i1) := hXw
  have Hj : Hid (j < r.lists.length) := hj
  clear hL hjX hXok hXc hXw hXat hXl hm hj
  have b0 : wi.cell? ⟨Bx, 0, none⟩ = some (.int .i64 xf) := ZE.out.vx.1.cell 0 rfl
  have b1 : wi.cell? ⟨Bx, 1, none⟩ = some (.slice px xn qx) := ZE.out.vx.1.cell 1 rfl
  have hbl : Bx < wi.heap.size := ZE.out.vx.1.under
  go_upto_region 22 with fail
  have L0 : Hid (LpS wi X j L xf xn 0 (Value.slice (some ⟨wi.heap.size, 0, none⟩) 0 0) ((wi.alloc (.cells #[] 28)).alloc (.cells #[.int .i64 xf, .slice px xn qx] 26))) := by
    have q1 : Below wi.heap.size wi (wi.alloc (.cells #[] 28)) := (Below.refl _ _).alloc (Nat.le_refl _) _
    have q2 : Below (wi.alloc (.cells #[] 28)).heap.size (wi.alloc (.cells #[] 28)) ((wi.alloc (.cells #[] 28)).alloc (.cells #[.int .i64 xf, .slice px xn qx] 26)) := (Below.refl _ _).alloc (Nat.le_refl _) _
    obtain ⟨_, b, t, mi, ht⟩ := ZE.out.vx
    refine ⟨q1.alloc q1.size _, ⟨px, qx, b, t, ?_, ?_, by simp; omega, ?_⟩, ?_⟩
    · have := Boxed.new (wi.alloc (.cells #[] 28)) #[.int .i64 xf, .slice px xn qx] 26
      simpa using this
    · rw [Pk0.out]
      exact (mi.below q1).below q2
    · rintro g e
      cases e
      exact .inr ht
    · rw [List.take_zero]
      exact (it_built wi wi.heap.size (Nat.le_refl _)).alloc _
  generalize (wi.alloc (.cells #[] 28)).alloc (.cells #[.int .i64 xf, .slice px xn qx] 26) = wl at L0 ⊢
  clear b0 b1 hbl
  go_loopw [18, 20, 21, 22, 23] (fun out s _ _ _ wr => ∃ kk : Nat, kk ≤ m ∧ s = .int .i64 kk ∧ Hid (LpS wi X j L xf xn kk (out) wr)) (fun _ s _ _ _ _ => 210 - (intOf s).toNat)
  case atStart => exact ⟨0, Nat.zero_le _, rfl, L0.out⟩
  case round =>
    obtain ⟨kk, hkk, rfl, HK⟩ := hrel
    clear L0
    obtain ⟨ao, co, eo⟩ := HK.out.row.shape
    have htk : (L.take kk).length = kk := by rw [List.length_take, Hm.out]; omega
    rw [htk] at eo
    subst eo
    obtain ⟨pk, qk, b, t, hZ⟩ := HK.out.zed
    have HZ : Hid (Boxed wr (wi.heap.size + 1) #[.int .i64 xf, .slice pk xn qk] 26 ∧ RwIn b t wr (.agg #[.int .i64 xf, .slice pk xn qk]) (X.popK j kk) ∧ t ≤ wr.heap.size ∧ ∀ g, (Value.slice ao kk co).ownBlock = some g → g < b ∨ t ≤ g) := hZ
    clear hZ
    have z0 : wr.cell? ⟨wi.heap.size + 1, 0, none⟩ = some (.int .i64 xf) := HZ.out.1.cell 0 rfl
    have z1 : wr.cell? ⟨wi.heap.size + 1, 1, none⟩ = some (.slice pk xn qk) := HZ.out.1.cell 1 rfl
    have hk210 : (kk : Int) < 210 := by omega
    go_wp2_with fail
    refine (PK.out kk (by rw [Hm.out]; exact hkk) _ _ HZ.out.2.1.at).mono ?_
    rintro e w2 ⟨⟨p', q', rfl, hmem⟩, g⟩
    rw [Hm.out] at hmem ⊢
    have HG : Hid (Below wr.heap.size wr w2 ∧ (kk < m → RwIn wr.heap.size w2.heap.size w2 (.agg #[.int .i64 xf, .slice p' xn q']) (X.popK j (kk + 1)))) := ⟨g, hmem⟩
    clear g hmem z0 z1
    by_cases hlt : kk < m
    · have htk1 : L.take (kk + 1) = L.take kk ++ [itAt L kk] := by
        have hkl : kk < L.length := by rw [Hm.out]; exact hlt
        rw [List.take_succ_eq_append_getElem hkl, itAt_lt hkl]
      rw [decide_eq_true hlt, if_pos hlt]
      generalize itAt L kk = x at htk1 ⊢
      obtain ⟨x0, x1, x2⟩ := x
      simp only [It.val]
      have Htk1 : Hid (L.take (kk + 1) = L.take kk ++ [⟨x0, x1, x2⟩]) := htk1
      clear htk1
      go_upto_region 26 with fail
      have V3 : Hid (Below wr.heap.size wr ((w2.alloc (.cells #[.int .i64 xf, .slice p' xn q'] 26)).alloc (.cells #[.int .i64 x0, .int .i64 x1, .int .i64 x2] 28)) ∧ Boxed ((w2.alloc (.cells #[.int .i64 xf, .slice p' xn q'] 26)).alloc (.cells #[.int .i64 x0, .int .i64 x1, .int .i64 x2] 28)) w2.heap.size #[.int .i64 xf, .slice p' xn q'] 26 ∧ Boxed ((w2.alloc (.cells #[.int .i64 xf, .slice p' xn q'] 26)).alloc (.cells #[.int .i64 x0, .int .i64 x1, .int .i64 x2] 28)) (w2.heap.size + 1) #[.int .i64 x0, .int .i64 x1, .int .i64 x2] 28 ∧ RwIn wr.heap.size w2.heap.size ((w2.alloc (.cells #[.int .i64 xf, .slice p' xn q'] 26)).alloc (.cells #[.int .i64 x0, .int .i64 x1, .int .i64 x2] 28)) (.agg #[.int .i64 xf, .slice p' xn q']) (X.popK j (kk + 1)) ∧ wr.heap.size ≤ w2.heap.size ∧ w2.heap.size + 2 ≤ ((w2.alloc (.cells #[.int .i64 xf, .slice p' xn q'] 26)).alloc (.cells #[.int .i64 x0, .int .i64 x1, .int .i64 x2] 28)).heap.size) := by
        have q1 : Below w2.heap.size w2 ((w2.alloc (.cells #[.int .i64 xf, .slice p' xn q'] 26)).alloc (.cells #[.int .i64 x0, .int .i64 x1, .int .i64 x2] 28)) := ((Below.refl _ _).alloc (Nat.le_refl _) _).alloc (by simp) _
        refine ⟨HG.out.1.trans (q1.mono HG.out.1.size), (Boxed.new _ _ _).more _, ?_, (HG.out.2 hlt).below q1, HG.out.1.size, by simp⟩
        have := Boxed.new (w2.alloc (.cells #[.int .i64 xf, .slice p' xn q'] 26)) #[.int .i64 x0, .int .i64 x1, .int .i64 x2] 28
        simpa using this
      generalize (w2.alloc (.cells #[.int .i64 xf, .slice p' xn q'] 26)).alloc (.cells #[.int .i64 x0, .int .i64 x1, .int .i64 x2] 28) = w3 at V3 ⊢
      generalize w2.heap.size = Bw at V3 ⊢
      clear HG
      have y0 : w3.cell? ⟨Bw + 1, 0, none⟩ = some (.int .i64 x0) := V3.out.2.2.1.cell 0 rfl
      have y1 : w3.cell? ⟨Bw + 1, 1, none⟩ = some (.int .i64 x1) := V3.out.2.2.1.cell 1 rfl
      have y2 : w3.cell? ⟨Bw + 1, 2, none⟩ = some (.int .i64 x2) := V3.out.2.2.1.cell 2 rfl
      have Q3 : Hid (ItRow wi.heap.size (w3.alloc (.cells #[.int .i64 x0, .int .i64 x1, .int .i64 x2] 28)) (.slice ao kk co) (L.take kk) ∧ Boxed (w3.alloc (.cells #[.int .i64 x0, .int .i64 x1, .int .i64 x2] 28)) w3.heap.size #[.int .i64 x0, .int .i64 x1, .int .i64 x2] 28 ∧ wi.heap.size ≤ (w3.alloc (.cells #[.int .i64 x0, .int .i64 x1, .int .i64 x2] 28)).heap.size ∧ (L.take kk).length ≤ 1048576) := by
        have h1 := HK.out.bel.size
        have h2 := V3.out.1.size
        exact ⟨(HK.out.row.carry fun y _ hy => V3.out.1.block y hy).alloc _, Boxed.new _ _ _, by simp; omega, by rw [htk]; omega⟩
      have Fin : Hid (∀ (v' : Value) (w4 : World), ItRow wi.heap.size w4 v' (L.take kk ++ [⟨x0, x1, x2⟩]) → Below wi.heap.size (w3.alloc (.cells #[.int .i64 x0, .int .i64 x1, .int .i64 x2] 28)) w4 → (∀ y, (Value.slice ao kk co).ownBlock ≠ some y → y < (w3.alloc (.cells #[.int .i64 x0, .int .i64 x1, .int .i64 x2] 28)).heap.size → w4.heap[y]? = (w3.alloc (.cells #[.int .i64 x0, .int .i64 x1, .int .i64 x2] 28)).heap[y]?) → (∀ y, v'.ownBlock = some y → (Value.slice ao kk co).ownBlock = some y ∨ (w3.alloc (.cells #[.int .i64 x0, .int .i64 x1, .int .i64 x2] 28)).heap.size ≤ y) →
          Boxed w4 Bw #[.int .i64 xf, .slice p' xn q'] 26 ∧ Boxed w4 (wi.heap.size + 1) #[.int .i64 xf, .slice pk xn qk] 26 ∧ LpS wi X j L xf xn (kk + 1) v' (w4.setRow (wi.heap.size + 1) #[.int .i64 xf, .slice p' xn q'])) := by
        intro v' w4 r1 r2 r3 r4
        have s0 := HK.out.bel.size
        have s1 := HZ.out.1.under
        have s2 := V3.out.1.size
        have s3 := V3.out.2.2.2.2
        have sz : (w3.alloc (.cells #[.int .i64 x0, .int .i64 x1, .int .i64 x2] 28)).heap.size = w3.heap.size + 1 := by simp
        rw [sz] at r3 r4
        have own : ∀ y, (Value.slice ao kk co).ownBlock = some y → wi.heap.size ≤ y ∧ y < wr.heap.size := fun y hy => HK.out.row.lt y hy
        have oldB : (Value.slice ao kk co).ownBlock ≠ some (wi.heap.size + 1) := it_box_ne HK.out.row HZ.out.1
        have kp : ∀ y, y < w3.heap.size → (Value.slice ao kk co).ownBlock ≠ some y → w4.heap[y]? = w3.heap[y]? := fun y hy hne => (r3 y hne (by omega)).trans (Below.heap_alloc _ _ _ hy)
        have bB : Boxed w4 Bw #[.int .i64 xf, .slice p' xn q'] 26 := (kp Bw (by omega) (fun e => by have := own _ e; omega)).trans V3.out.2.1
        have bZ : Boxed w4 (wi.heap.size + 1) #[.int .i64 xf, .slice pk xn qk] 26 := (kp _ (by omega) oldB).trans ((V3.out.1.block _ s1).trans HZ.out.1)
        have szw : w3.heap.size ≤ w4.heap.size := by have := r2.size; rw [sz] at this; omega
        have o : ∀ y, y ≠ wi.heap.size + 1 → (w4.setRow (wi.heap.size + 1) #[.int .i64 xf, .slice p' xn q']).heap[y]? = w4.heap[y]? := fun y hy => setRow_other _ _ _ _ hy
        have sr : (w4.setRow (wi.heap.size + 1) #[.int .i64 xf, .slice p' xn q']).heap.size = w4.heap.size := by simp [World.setRow]
        refine ⟨bB, bZ, ?_, ⟨p', q', wr.heap.size, Bw, setRow_heap _ _ _ _ _ _ bZ, ?_, by rw [sr]; omega, ?_⟩, ?_⟩
        · have q1 : Below wi.heap.size wi w3 := HK.out.bel.trans (V3.out.1.mono s0)
          have q2 : Below wi.heap.size wi w4 := (q1.alloc q1.size _).trans r2
          exact below_setRow q2 (by omega) _
        · refine V3.out.2.2.2.1.keep (by rw [sr]; exact szw) fun y y1 y2 => (o y (by omega)).trans (kp y (by omega) (fun e => by have := own _ e; omega))
        · intro y hy
          rcases r4 y hy with h | h
          · have := own _ h; omega
          · omega
        · rw [Htk1.out]
          exact r1.carry fun y hy _ => o y (fun e => it_box_ne r1 bZ (by rw [← e]; exact hy))
      clear HZ V3
      go_wp2_with (first | (refine it_list_where rfl (.tmp 167) (.tmp 169) rfl wi.heap.size (.slice ao kk co) (L.take kk) ⟨x0, x1, x2⟩ rfl Q3.out.1 rfl Q3.out.2.1 Q3.out.2.2.2 Q3.out.2.2.1 ?_; intro v' w4 r1 r2 r3 r4; obtain ⟨F1, F2, F3⟩ := Fin.out v' w4 r1 r2 r3 r4; have F1 : Hid _ := F1; have F2 : Hid _ := F2; have F3 : Hid _ := F3; clear r1 r2 r3 r4 y0 y1 y2) | (refine wpList_load_row rfl 26 (.tmp 21) rfl Bw rfl _ _ _ _ F1.out Try.underlying26 rfl (by kernel_rfl) ?_) | (refine wpList_store_row rfl 26 (.tmp 19) (.tmp 171) rfl (wi.heap.size + 1) _ rfl rfl _ _ F2.out (by kernel_rfl) rfl (by simp [Value.oneCell']) ?_))
      go_roundw
      case rel => exact ⟨kk + 1, by omega, by go_num, F3⟩
      case measure => simp [intOf]; omega
    · obtain rfl : kk = m := by omega
      rw [decide_eq_false hlt, if_neg hlt]
      simp only [It.val]
      go_upto_region 28 with fail
      have KK : Hid (FrS w Br #[.int .i64 f1, .slice p1 n1 q1] r (Br + 1) #[.int .i64 i0, .int .i64 i1, .int .i64 i2] Bx #[.int .i64 xf, .slice px xn qx] X Ba #[.int .i64 f2, .slice p2 n2 q2] r2 By #[.int .i64 yf, .slice py yn qy] Y (By + 1) #[.int .i64 j0, .int .i64 j1, .int .i64 j2] ((w2.alloc (.cells #[.int .i64 xf, .slice p' xn q'] 26)).alloc (.cells #[.int .i64 0, .int .i64 0, .int .i64 0] 28)) ∧ ItRow wi.heap.size ((w2.alloc (.cells #[.int .i64 xf, .slice p' xn q'] 26)).alloc (.cells #[.int .i64 0, .int .i64 0, .int .i64 0] 28)) (.slice ao kk co) L) := by
        have q1 : Below wr.heap.size wr ((w2.alloc (.cells #[.int .i64 xf, .slice p' xn q'] 26)).alloc (.cells #[.int .i64 0, .int .i64 0, .int .i64 0] 28)) := (HG.out.1.alloc HG.out.1.size _).alloc (by have := HG.out.1.size; simp; omega) _
        have q2 := HK.out.bel.trans (q1.mono HK.out.bel.size)
        refine ⟨ZE.out.below q2, ?_⟩
        have h := HK.out.row
        rw [List.take_of_length_le (by rw [Hm.out]; exact Nat.le_refl _)] at h
        exact h.carry fun y _ hy => q1.block y hy
      generalize (w2.alloc (.cells #[.int .i64 xf, .slice p' xn q'] 26)).alloc (.cells #[.int .i64 0, .int .i64 0, .int .i64 0] 28) = wk at KK ⊢
      generalize w2.heap.size = Bw
      clear HK HG HZ PK Pk0 htk ZE hkk hlt hk210
      have hmL : L.length ≤ 1048576 := by rw [Hm.out]; omega
      have LI := fun wx a2 c2 h1 h2 => likeIts ao a2 co c2 L wx hmL h1 h2
      have OX := fun wx h => implRowsOkV X (.agg #[.int .i64 xf, .slice px xn qx]) wx HbX.out h
      have NX := fun wx h => implCount X (.agg #[.int .i64 xf, .slice px xn qx]) wx HbX.out h
      have MX := fun wx h => implWeight X (.agg #[.int .i64 xf, .slice px xn qx]) (j : Int) wx HbX.out h
      have MR := fun wx h => implWeight r (.agg #[.int .i64 f1, .slice p1 n1 q1]) (j : Int) wx Hb1.out h
      have w1i := weight_in r (j : Int) Hb1.out
      have w2i := weight_in X (j : Int) HbX.out
      have c1i := count_in X HbX.out
      rw [HXok.out] at OX
      rw [HXc.out] at NX c1i
      rw [HXw.out] at MX w2i
      rw [Hm.out] at LI
      generalize r.weight (j : Int) = wtr at MX MR w1i w2i
      obtain ⟨l, hl⟩ : ∃ l, izAt r.lists j = l := ⟨_, rfl⟩
      have hLl : L = l ++ [⟨i0, i1, i2⟩] := by rw [HXat.out, hl]
      obtain ⟨ar, cr', er, izr⟩ := KK.out.1.vr.2
      have er' : (Value.agg #[.int .i64 f1, .slice p1 n1 q1]) = .agg #[.int .i64 r.most, .slice ar r.lists.length cr'] := er
      simp only [Value.agg.injEq, Array.mk.injEq, List.cons.injEq, Value.int.injEq, Value.slice.injEq, true_and, and_true] at er'
      obtain ⟨_, ea, en, ec⟩ := er'
      subst ea
      obtain ⟨bb, off, ak, ck, hab, hbb, hcb, hrb, hcapb, hnilb⟩ := izr j Hj.out
      subst hab
      rw [hl] at hcb hrb hcapb
      have hln : l.length ≤ 1048576 := by
        have h := congrArg List.length hLl
        rw [List.length_append] at h
        omega
      obtain ⟨lj, hlj⟩ : ∃ n, l.length = n := ⟨_, rfl⟩
      rw [hlj] at hcb
      have hlm : lj + 1 = kk := by
        have h := congrArg List.length hLl
        rw [List.length_append, hlj, Hm.out] at h
        simpa using h.symm
      have hjn : j < n1 := by rw [← Hn1.out]; exact Hj.out
      have RX : Hid (∀ x, Below wk.heap.size wk x → FrS w Br #[.int .i64 f1, .slice (some ⟨bb, off, none⟩) n1 q1] r (Br + 1) #[.int .i64 i0, .int .i64 i1, .int .i64 i2] Bx #[.int .i64 xf, .slice px xn qx] X Ba #[.int .i64 f2, .slice p2 n2 q2] r2 By #[.int .i64 yf, .slice py yn qy] Y (By + 1) #[.int .i64 j0, .int .i64 j1, .int .i64 j2] x ∧ ItsAt x ao L ∧ x.cell? ⟨bb, off + j, none⟩ = some (.slice ak lj ck) ∧ ItsAt x ak l) := fun x q => by
        refine ⟨KK.out.1.below q, ?_, by rw [q.cell (p := ⟨bb, off + j, none⟩) hbb]; exact hcb, hrb.below q⟩
        have h := KK.out.2
        rw [← Hm.out] at h
        exact h.at.below q
      have k1 : IntKind.i64.wrap (cn1 + 1) = cn1 + 1 := by rw [IntKind.wrap_i64]; omega
      have k2 : IntKind.i64.wrap (wtr + i1) = wtr + i1 := by rw [IntKind.wrap_i64]; omega
      have LI' : Hid _ := LI
      have OX' : Hid _ := OX
      have NX' : Hid _ := NX
      have MX' : Hid _ := MX
      have MR' : Hid _ := MR
      clear LI OX NX MX MR w1i w2i c1i er izr en ec HXat hcb hrb hl
      refine region_lists (G := Unit) (by kernel_rfl) (by kernel_rfl) (by kernel_rfl) (fun j => if j = 24 then 30 else if j = 30 then 33 else if j = 32 then 33 else if j = 33 then 34 else 99) (fun _ _ x => Below wk.heap.size wk x) (fun i _ x _ x' => i ≠ 33 → Below x.heap.size x x') (fun i y x v => ([fun _ _ v => v = .agg #[.int .i64 xf, .slice px xn qx], fun _ _ v => v = .bool true, fun _ _ v => v = .bool true, fun _ _ v => v = .agg #[.int .i64 xf, .slice px xn qx], fun _ _ v => v = .int .i64 (cn1 + 1), fun _ _ v => v = .agg #[.int .i64 f1, .slice (some ⟨bb, off, none⟩) n1 q1], fun _ _ v => v = .int .i64 cn1, fun _ _ v => v = .int .i64 (cn1 + 1), fun _ _ v => v = .bool true, fun _ _ v => v = .bool true, fun _ _ v => v = .bool true, fun _ _ v => v = .agg #[.int .i64 xf, .slice px xn qx], fun _ _ v => v = .int .i64 (j : Int), fun _ _ v => v = .int .i64 (wtr + i1), fun _ _ v => v = .agg #[.int .i64 f1, .slice (some ⟨bb, off, none⟩) n1 q1], fun _ _ v => v = .int .i64 (j : Int), fun _ _ v => v = .int .i64 wtr, fun _ _ v => v = .pointer (some ⟨Br + 1, 1, none⟩), fun _ _ v => v = .int .i64 i1, fun _ _ v => v = .int .i64 (wtr + i1), fun _ _ v => v = .bool true, fun _ _ v => v = .bool true, fun _ _ v => v = .bool true, fun _ _ v => v = .slice ao kk co, fun _ x v => ∃ n24, v = .slice (some ⟨n24, 0, none⟩) 0 0 ∧ ItRow wk.heap.size x v [], fun _ _ v => v = .pointer (some ⟨Br, 1, none⟩), fun _ _ v => v = .slice (some ⟨bb, off, none⟩) n1 q1, fun _ _ v => v = .int .i64 (j : Int), fun _ _ v => v = .pointer (some ⟨bb, off + j, none⟩), fun _ _ v => v = .slice ak lj ck, fun _ x v => (∃ a2 c2, v = .slice a2 lj c2) ∧ ItRow wk.heap.size x v l, fun _ _ v => v = .agg #[.int .i64 i0, .int .i64 i1, .int .i64 i2], fun _ x v => ∃ n32, v = .slice (some ⟨n32, 0, none⟩) 1 1 ∧ Boxed x n32 #[.int .i64 i0, .int .i64 i1, .int .i64 i2] 28, fun _ x v => (∃ a2 c2, v = .slice a2 kk c2) ∧ ItRow wk.heap.size x v L, fun _ _ v => v = .bool true, fun _ _ v => v = .bool true, fun _ _ v => v = .bool true] : List (Unit → World → Value → Prop)).getD i (fun _ _ _ => True) y x v) ?hR () ?h0 ?step ?last
      case hR =>
        intro i j' y y' x x' v hi hj hne hu h1 h2 hp hr
        have hj'' : j' < 37 := hj
        have hcases : j' = 0 ∨ j' = 1 ∨ j' = 2 ∨ j' = 3 ∨ j' = 4 ∨ j' = 5 ∨ j' = 6 ∨ j' = 7 ∨ j' = 8 ∨ j' = 9 ∨ j' = 10 ∨ j' = 11 ∨ j' = 12 ∨ j' = 13 ∨ j' = 14 ∨ j' = 15 ∨ j' = 16 ∨ j' = 17 ∨ j' = 18 ∨ j' = 19 ∨ j' = 20 ∨ j' = 21 ∨ j' = 22 ∨ j' = 23 ∨ j' = 24 ∨ j' = 25 ∨ j' = 26 ∨ j' = 27 ∨ j' = 28 ∨ j' = 29 ∨ j' = 30 ∨ j' = 31 ∨ j' = 32 ∨ j' = 33 ∨ j' = 34 ∨ j' = 35 ∨ j' = 36 := by omega
        rcases hcases with rfl | rfl | rfl | rfl | rfl | rfl | rfl | rfl | rfl | rfl | rfl | rfl | rfl | rfl | rfl | rfl | rfl | rfl | rfl | rfl | rfl | rfl | rfl | rfl | rfl | rfl | rfl | rfl | rfl | rfl | rfl | rfl | rfl | rfl | rfl | rfl | rfl
        · exact hp
        · exact hp
        · exact hp
        · exact hp
        · exact hp
        · exact hp
        · exact hp
        · exact hp
        · exact hp
        · exact hp
        · exact hp
        · exact hp
        · exact hp
        · exact hp
        · exact hp
        · exact hp
        · exact hp
        · exact hp
        · exact hp
        · exact hp
        · exact hp
        · exact hp
        · exact hp
        · exact hp
        · have n33 : i ≠ 33 := by rintro rfl; exact absurd (Eq.trans (by kernel_rfl) h2 : true = false) (by decide)
          obtain ⟨n24, e, h⟩ := hp
          exact ⟨n24, e, h.carry fun y _ hy => (hr n33).block y hy⟩
        · exact hp
        · exact hp
        · exact hp
        · exact hp
        · exact hp
        · have n33 : i ≠ 33 := fun e => hu e.symm
          exact ⟨hp.1, hp.2.carry fun y _ hy => (hr n33).block y hy⟩
        · exact hp
        · have n33 : i ≠ 33 := fun e => hu e.symm
          obtain ⟨n32, e, h⟩ := hp
          exact ⟨n32, e, h.below h.under (hr n33)⟩
        · exact ⟨hp.1, hp.2.carry fun y _ hy => (hr hne).block y hy⟩
        · exact hp
        · exact hp
        · exact hp
      case h0 => exact (Below.refl _ _).drew
      case step =>
        intro i o hi ho L' a' y x hLi hwt hre hkp hI hp
        have FX := RX.out x hI
        have s3 : a'.tmps.getD 3 undef = .pointer (some ⟨Br, 0, none⟩) := hkp.slot 3 (by kernel_rfl)
        have s4 : a'.tmps.getD 4 undef = .int .i64 (j : Int) := hkp.slot 4 (by kernel_rfl)
        have s5 : a'.tmps.getD 5 undef = .pointer (some ⟨Br + 1, 0, none⟩) := hkp.slot 5 (by kernel_rfl)
        have s6 : a'.tmps.getD 6 undef = .pointer (some ⟨Bx, 0, none⟩) := hkp.slot 6 (by kernel_rfl)
        have s18 : a'.tmps.getD 18 undef = .slice ao kk co := hkp.slot 18 (by kernel_rfl)
        have hi' : i < 37 := hi
        have hcases : i = 0 ∨ i = 1 ∨ i = 2 ∨ i = 3 ∨ i = 4 ∨ i = 5 ∨ i = 6 ∨ i = 7 ∨ i = 8 ∨ i = 9 ∨ i = 10 ∨ i = 11 ∨ i = 12 ∨ i = 13 ∨ i = 14 ∨ i = 15 ∨ i = 16 ∨ i = 17 ∨ i = 18 ∨ i = 19 ∨ i = 20 ∨ i = 21 ∨ i = 22 ∨ i = 23 ∨ i = 24 ∨ i = 25 ∨ i = 26 ∨ i = 27 ∨ i = 28 ∨ i = 29 ∨ i = 30 ∨ i = 31 ∨ i = 32 ∨ i = 33 ∨ i = 34 ∨ i = 35 ∨ i = 36 := by omega
        rcases hcases with rfl | rfl | rfl | rfl | rfl | rfl | rfl | rfl | rfl | rfl | rfl | rfl | rfl | rfl | rfl | rfl | rfl | rfl | rfl | rfl | rfl | rfl | rfl | rfl | rfl | rfl | rfl | rfl | rfl | rfl | rfl | rfl | rfl | rfl | rfl | rfl | rfl
        · cases ho
          exact ⟨wanted_none rfl, wp_load_row 26 (.tmp 6) rfl Bx s6 _ _ _ _ FX.1.vx.1 Try.underlying26 rfl (by kernel_rfl) ⟨_, (), rfl, fun _ => Below.refl _ _, hI, fun u hu => hu (fun h => by cases h)⟩⟩
        · cases ho
          have q0 : a'.tmps[172]?.getD undef = .agg #[.int .i64 xf, .slice px xn qx] := by have h2 : a'.tmps.getD 172 undef = .agg #[.int .i64 xf, .slice px xn qx] := hp 0 (of_decide_eq_true (by kernel_rfl)) (.inr (by decide)); simpa using h2
          refine ⟨wanted_none rfl, op_callB (by simp [execOp, resolve, Deferred.ofValue, invoke, Act.eval, q0]) (OX'.out x FX.1.vx.at) ?_⟩
          rintro e z ⟨rfl, hb⟩
          exact ⟨_, rfl, _, (), rfl, fun _ => hb, hI.trans (hb.mono hI.size), fun u hu => hu (fun h => by cases h)⟩
        · cases ho
          exact ⟨wanted_none rfl, op_move 173 rfl ⟨_, (), rfl, fun _ => Below.refl _ _, hI, fun u hu => (hu (fun h => by cases h)).trans (hp 1 (of_decide_eq_true (by kernel_rfl)) (.inr (by decide)))⟩⟩
        · cases ho
          exact ⟨wanted_of (j := 2) (d := 174) (b := true) rfl rfl (hp 2 (of_decide_eq_true (by kernel_rfl)) (.inr (by decide))), wp_load_row 26 (.tmp 6) rfl Bx s6 _ _ _ _ FX.1.vx.1 Try.underlying26 rfl (by kernel_rfl) ⟨_, (), rfl, fun _ => Below.refl _ _, hI, fun u hu => hu (fun h => by cases h)⟩⟩
        · cases ho
          have q0 : a'.tmps[175]?.getD undef = .agg #[.int .i64 xf, .slice px xn qx] := by have h2 : a'.tmps.getD 175 undef = .agg #[.int .i64 xf, .slice px xn qx] := hp 3 (of_decide_eq_true (by kernel_rfl)) (.inr (by decide)); simpa using h2
          refine ⟨wanted_of (j := 2) (d := 174) (b := true) rfl rfl (hp 2 (of_decide_eq_true (by kernel_rfl)) (.inr (by decide))), op_callB (by simp [execOp, resolve, Deferred.ofValue, invoke, Act.eval, q0]) (NX'.out x FX.1.vx.at) ?_⟩
          rintro e z ⟨rfl, hb⟩
          exact ⟨_, rfl, _, (), rfl, fun _ => hb, hI.trans (hb.mono hI.size), fun u hu => hu (fun h => by cases h)⟩
        · cases ho
          exact ⟨wanted_of (j := 2) (d := 174) (b := true) rfl rfl (hp 2 (of_decide_eq_true (by kernel_rfl)) (.inr (by decide))), wp_load_row 26 (.tmp 3) rfl Br s3 _ _ _ _ FX.1.vr.1 Try.underlying26 rfl (by kernel_rfl) ⟨_, (), rfl, fun _ => Below.refl _ _, hI, fun u hu => hu (fun h => by cases h)⟩⟩
        · cases ho
          have q0 : a'.tmps[177]?.getD undef = .agg #[.int .i64 f1, .slice (some ⟨bb, off, none⟩) n1 q1] := by have h2 : a'.tmps.getD 177 undef = .agg #[.int .i64 f1, .slice (some ⟨bb, off, none⟩) n1 q1] := hp 5 (of_decide_eq_true (by kernel_rfl)) (.inr (by decide)); simpa using h2
          refine ⟨wanted_of (j := 2) (d := 174) (b := true) rfl rfl (hp 2 (of_decide_eq_true (by kernel_rfl)) (.inr (by decide))), op_callB (by simp [execOp, resolve, Deferred.ofValue, invoke, Act.eval, q0]) (N1'.out x FX.1.vr.2) ?_⟩
          rintro e z ⟨rfl, hb⟩
          exact ⟨_, rfl, _, (), rfl, fun _ => hb, hI.trans (hb.mono hI.size), fun u hu => hu (fun h => by cases h)⟩
        · cases ho
          have q0 : a'.tmps[178]?.getD undef = .int .i64 cn1 := by have h2 : a'.tmps.getD 178 undef = .int .i64 cn1 := hp 6 (of_decide_eq_true (by kernel_rfl)) (.inr (by decide)); simpa using h2
          refine ⟨wanted_of (j := 2) (d := 174) (b := true) rfl rfl (hp 2 (of_decide_eq_true (by kernel_rfl)) (.inr (by decide))), Oper.wp_mono (K := fun a'' w'' => a'' = a'.put (some 179) (.int .i64 (cn1 + 1)) ∧ w'' = x) ?_ ?_⟩
          · rintro _ _ ⟨rfl, rfl⟩
            exact ⟨_, (), rfl, fun _ => Below.refl _ _, hI, fun u hu => hu (fun h => by cases h)⟩
          · unfold Oper.wp
            simp [go_sem, q0, k1]
        · cases ho
          have q0 : a'.tmps[176]?.getD undef = .int .i64 (cn1 + 1) := by have h2 : a'.tmps.getD 176 undef = .int .i64 (cn1 + 1) := hp 4 (of_decide_eq_true (by kernel_rfl)) (.inr (by decide)); simpa using h2
          have q1 : a'.tmps[179]?.getD undef = .int .i64 (cn1 + 1) := by have h2 : a'.tmps.getD 179 undef = .int .i64 (cn1 + 1) := hp 7 (of_decide_eq_true (by kernel_rfl)) (.inr (by decide)); simpa using h2
          refine ⟨wanted_of (j := 2) (d := 174) (b := true) rfl rfl (hp 2 (of_decide_eq_true (by kernel_rfl)) (.inr (by decide))), Oper.wp_mono (K := fun a'' w'' => a'' = a'.put (some 180) (.bool true) ∧ w'' = x) ?_ ?_⟩
          · rintro _ _ ⟨rfl, rfl⟩
            exact ⟨_, (), rfl, fun _ => Below.refl _ _, hI, fun u hu => hu (fun h => by cases h)⟩
          · unfold Oper.wp
            simp [go_sem, q0, q1]
        · cases ho
          have q0 : a'.tmps[174]?.getD undef = .bool true := by have h2 : a'.tmps.getD 174 undef = .bool true := hp 2 (of_decide_eq_true (by kernel_rfl)) (.inr (by decide)); simpa using h2
          have q1 : a'.tmps[180]?.getD undef = .bool true := by have h2 : a'.tmps.getD 180 undef = .bool true := hp 8 (of_decide_eq_true (by kernel_rfl)) (.inr (by decide)); simpa using h2
          refine ⟨wanted_none rfl, Oper.wp_mono (K := fun a'' w'' => a'' = a'.put (some 181) (.bool true) ∧ w'' = x) ?_ ?_⟩
          · rintro _ _ ⟨rfl, rfl⟩
            exact ⟨_, (), rfl, fun _ => Below.refl _ _, hI, fun u hu => hu (fun h => by cases h)⟩
          · unfold Oper.wp
            simp [go_sem, q0, q1]
        · cases ho
          exact ⟨wanted_none rfl, op_move 181 rfl ⟨_, (), rfl, fun _ => Below.refl _ _, hI, fun u hu => (hu (fun h => by cases h)).trans (hp 9 (of_decide_eq_true (by kernel_rfl)) (.inr (by decide)))⟩⟩
        · cases ho
          exact ⟨wanted_of (j := 10) (d := 182) (b := true) rfl rfl (hp 10 (of_decide_eq_true (by kernel_rfl)) (.inr (by decide))), wp_load_row 26 (.tmp 6) rfl Bx s6 _ _ _ _ FX.1.vx.1 Try.underlying26 rfl (by kernel_rfl) ⟨_, (), rfl, fun _ => Below.refl _ _, hI, fun u hu => hu (fun h => by cases h)⟩⟩
        · cases ho
          exact ⟨wanted_of (j := 10) (d := 182) (b := true) rfl rfl (hp 10 (of_decide_eq_true (by kernel_rfl)) (.inr (by decide))), op_move 4 rfl ⟨_, (), rfl, fun _ => Below.refl _ _, hI, fun u hu => (hu (fun h => by cases h)).trans s4⟩⟩
        · cases ho
          have q0 : a'.tmps[183]?.getD undef = .agg #[.int .i64 xf, .slice px xn qx] := by have h2 : a'.tmps.getD 183 undef = .agg #[.int .i64 xf, .slice px xn qx] := hp 11 (of_decide_eq_true (by kernel_rfl)) (.inr (by decide)); simpa using h2
          have q1 : a'.tmps[184]?.getD undef = .int .i64 (j : Int) := by have h2 : a'.tmps.getD 184 undef = .int .i64 (j : Int) := hp 12 (of_decide_eq_true (by kernel_rfl)) (.inr (by decide)); simpa using h2
          refine ⟨wanted_of (j := 10) (d := 182) (b := true) rfl rfl (hp 10 (of_decide_eq_true (by kernel_rfl)) (.inr (by decide))), op_callB (by simp [execOp, resolve, Deferred.ofValue, invoke, Act.eval, q0, q1]) (MX'.out x FX.1.vx.at) ?_⟩
          rintro e z ⟨rfl, hb⟩
          exact ⟨_, rfl, _, (), rfl, fun _ => hb, hI.trans (hb.mono hI.size), fun u hu => hu (fun h => by cases h)⟩
        · cases ho
          exact ⟨wanted_of (j := 10) (d := 182) (b := true) rfl rfl (hp 10 (of_decide_eq_true (by kernel_rfl)) (.inr (by decide))), wp_load_row 26 (.tmp 3) rfl Br s3 _ _ _ _ FX.1.vr.1 Try.underlying26 rfl (by kernel_rfl) ⟨_, (), rfl, fun _ => Below.refl _ _, hI, fun u hu => hu (fun h => by cases h)⟩⟩
        · cases ho
          exact ⟨wanted_of (j := 10) (d := 182) (b := true) rfl rfl (hp 10 (of_decide_eq_true (by kernel_rfl)) (.inr (by decide))), op_move 4 rfl ⟨_, (), rfl, fun _ => Below.refl _ _, hI, fun u hu => (hu (fun h => by cases h)).trans s4⟩⟩
        · cases ho
          have q0 : a'.tmps[186]?.getD undef = .agg #[.int .i64 f1, .slice (some ⟨bb, off, none⟩) n1 q1] := by have h2 : a'.tmps.getD 186 undef = .agg #[.int .i64 f1, .slice (some ⟨bb, off, none⟩) n1 q1] := hp 14 (of_decide_eq_true (by kernel_rfl)) (.inr (by decide)); simpa using h2
          have q1 : a'.tmps[187]?.getD undef = .int .i64 (j : Int) := by have h2 : a'.tmps.getD 187 undef = .int .i64 (j : Int) := hp 15 (of_decide_eq_true (by kernel_rfl)) (.inr (by decide)); simpa using h2
          refine ⟨wanted_of (j := 10) (d := 182) (b := true) rfl rfl (hp 10 (of_decide_eq_true (by kernel_rfl)) (.inr (by decide))), op_callB (by simp [execOp, resolve, Deferred.ofValue, invoke, Act.eval, q0, q1]) (MR'.out x FX.1.vr.2) ?_⟩
          rintro e z ⟨rfl, hb⟩
          exact ⟨_, rfl, _, (), rfl, fun _ => hb, hI.trans (hb.mono hI.size), fun u hu => hu (fun h => by cases h)⟩
        · cases ho
          have q5 : a'.tmps[5]?.getD undef = .pointer (some ⟨Br + 1, 0, none⟩) := by simpa using s5
          refine ⟨wanted_of (j := 10) (d := 182) (b := true) rfl rfl (hp 10 (of_decide_eq_true (by kernel_rfl)) (.inr (by decide))), Oper.wp_mono (K := fun a'' w'' => a'' = a'.put (some 189) (.pointer (some ⟨Br + 1, 1, none⟩)) ∧ w'' = x) ?_ ?_⟩
          · rintro _ _ ⟨rfl, rfl⟩
            exact ⟨_, (), rfl, fun _ => Below.refl _ _, hI, fun u hu => hu (fun h => by cases h)⟩
          · unfold Oper.wp
            simp [go_sem, q5]
        · cases ho
          have q0 : a'.tmps[189]?.getD undef = .pointer (some ⟨Br + 1, 1, none⟩) := by have h2 : a'.tmps.getD 189 undef = .pointer (some ⟨Br + 1, 1, none⟩) := hp 17 (of_decide_eq_true (by kernel_rfl)) (.inr (by decide)); simpa using h2
          have c9 : x.cell? ⟨Br + 1, 1, none⟩ = some (.int .i64 i1) := FX.1.vi.cell 1 rfl
          refine ⟨wanted_of (j := 10) (d := 182) (b := true) rfl rfl (hp 10 (of_decide_eq_true (by kernel_rfl)) (.inr (by decide))), Oper.wp_mono (K := fun a'' w'' => a'' = a'.put (some 190) (.int .i64 i1) ∧ w'' = x) ?_ ?_⟩
          · rintro _ _ ⟨rfl, rfl⟩
            exact ⟨_, (), rfl, fun _ => Below.refl _ _, hI, fun u hu => hu (fun h => by cases h)⟩
          · unfold Oper.wp
            simp [go_sem, q0, c9]
        · cases ho
          have q0 : a'.tmps[188]?.getD undef = .int .i64 wtr := by have h2 : a'.tmps.getD 188 undef = .int .i64 wtr := hp 16 (of_decide_eq_true (by kernel_rfl)) (.inr (by decide)); simpa using h2
          have q1 : a'.tmps[190]?.getD undef = .int .i64 i1 := by have h2 : a'.tmps.getD 190 undef = .int .i64 i1 := hp 18 (of_decide_eq_true (by kernel_rfl)) (.inr (by decide)); simpa using h2
          refine ⟨wanted_of (j := 10) (d := 182) (b := true) rfl rfl (hp 10 (of_decide_eq_true (by kernel_rfl)) (.inr (by decide))), Oper.wp_mono (K := fun a'' w'' => a'' = a'.put (some 191) (.int .i64 (wtr + i1)) ∧ w'' = x) ?_ ?_⟩
          · rintro _ _ ⟨rfl, rfl⟩
            exact ⟨_, (), rfl, fun _ => Below.refl _ _, hI, fun u hu => hu (fun h => by cases h)⟩
          · unfold Oper.wp
            simp [go_sem, q0, q1, k2]
        · cases ho
          have q0 : a'.tmps[185]?.getD undef = .int .i64 (wtr + i1) := by have h2 : a'.tmps.getD 185 undef = .int .i64 (wtr + i1) := hp 13 (of_decide_eq_true (by kernel_rfl)) (.inr (by decide)); simpa using h2
          have q1 : a'.tmps[191]?.getD undef = .int .i64 (wtr + i1) := by have h2 : a'.tmps.getD 191 undef = .int .i64 (wtr + i1) := hp 19 (of_decide_eq_true (by kernel_rfl)) (.inr (by decide)); simpa using h2
          refine ⟨wanted_of (j := 10) (d := 182) (b := true) rfl rfl (hp 10 (of_decide_eq_true (by kernel_rfl)) (.inr (by decide))), Oper.wp_mono (K := fun a'' w'' => a'' = a'.put (some 192) (.bool true) ∧ w'' = x) ?_ ?_⟩
          · rintro _ _ ⟨rfl, rfl⟩
            exact ⟨_, (), rfl, fun _ => Below.refl _ _, hI, fun u hu => hu (fun h => by cases h)⟩
          · unfold Oper.wp
            simp [go_sem, q0, q1]
        · cases ho
          have q0 : a'.tmps[182]?.getD undef = .bool true := by have h2 : a'.tmps.getD 182 undef = .bool true := hp 10 (of_decide_eq_true (by kernel_rfl)) (.inr (by decide)); simpa using h2
          have q1 : a'.tmps[192]?.getD undef = .bool true := by have h2 : a'.tmps.getD 192 undef = .bool true := hp 20 (of_decide_eq_true (by kernel_rfl)) (.inr (by decide)); simpa using h2
          refine ⟨wanted_none rfl, Oper.wp_mono (K := fun a'' w'' => a'' = a'.put (some 193) (.bool true) ∧ w'' = x) ?_ ?_⟩
          · rintro _ _ ⟨rfl, rfl⟩
            exact ⟨_, (), rfl, fun _ => Below.refl _ _, hI, fun u hu => hu (fun h => by cases h)⟩
          · unfold Oper.wp
            simp [go_sem, q0, q1]
        · cases ho
          exact ⟨wanted_none rfl, op_move 193 rfl ⟨_, (), rfl, fun _ => Below.refl _ _, hI, fun u hu => (hu (fun h => by cases h)).trans (hp 21 (of_decide_eq_true (by kernel_rfl)) (.inr (by decide)))⟩⟩
        · cases ho
          exact ⟨wanted_of (j := 22) (d := 194) (b := true) rfl rfl (hp 22 (of_decide_eq_true (by kernel_rfl)) (.inr (by decide))), op_move 18 rfl ⟨_, (), rfl, fun _ => Below.refl _ _, hI, fun u hu => (hu (fun h => by cases h)).trans s18⟩⟩
        · cases ho
          refine ⟨wanted_of (j := 22) (d := 194) (b := true) rfl rfl (hp 22 (of_decide_eq_true (by kernel_rfl)) (.inr (by decide))), Oper.wp_mono (K := fun a'' w'' => a'' = a'.put (some 196) (.slice (some ⟨x.heap.size, 0, none⟩) 0 0) ∧ w'' = x.alloc (.cells #[] 28)) ?_ ?_⟩
          · rintro _ _ ⟨rfl, rfl⟩
            exact ⟨_, (), rfl, fun _ => (Below.refl _ _).alloc (Nat.le_refl _) _, hI.alloc hI.size _, fun u hu => by rw [hu (fun h => by cases h)]; exact ⟨x.heap.size, rfl, it_built x wk.heap.size hI.size⟩⟩
          · unfold Oper.wp
            simp [go_sem]
        · cases ho
          have q5 : a'.tmps[3]?.getD undef = .pointer (some ⟨Br, 0, none⟩) := by simpa using s3
          refine ⟨wanted_of (j := 22) (d := 194) (b := true) rfl rfl (hp 22 (of_decide_eq_true (by kernel_rfl)) (.inr (by decide))), Oper.wp_mono (K := fun a'' w'' => a'' = a'.put (some 197) (.pointer (some ⟨Br, 1, none⟩)) ∧ w'' = x) ?_ ?_⟩
          · rintro _ _ ⟨rfl, rfl⟩
            exact ⟨_, (), rfl, fun _ => Below.refl _ _, hI, fun u hu => hu (fun h => by cases h)⟩
          · unfold Oper.wp
            simp [go_sem, q5]
        · cases ho
          have q0 : a'.tmps[197]?.getD undef = .pointer (some ⟨Br, 1, none⟩) := by have h2 : a'.tmps.getD 197 undef = .pointer (some ⟨Br, 1, none⟩) := hp 25 (of_decide_eq_true (by kernel_rfl)) (.inr (by decide)); simpa using h2
          have c9 : x.cell? ⟨Br, 1, none⟩ = some (.slice (some ⟨bb, off, none⟩) n1 q1) := FX.1.vr.1.cell 1 rfl
          refine ⟨wanted_of (j := 22) (d := 194) (b := true) rfl rfl (hp 22 (of_decide_eq_true (by kernel_rfl)) (.inr (by decide))), Oper.wp_mono (K := fun a'' w'' => a'' = a'.put (some 198) (.slice (some ⟨bb, off, none⟩) n1 q1) ∧ w'' = x) ?_ ?_⟩
          · rintro _ _ ⟨rfl, rfl⟩
            exact ⟨_, (), rfl, fun _ => Below.refl _ _, hI, fun u hu => hu (fun h => by cases h)⟩
          · unfold Oper.wp
            simp [go_sem, q0, c9]
        · cases ho
          exact ⟨wanted_of (j := 22) (d := 194) (b := true) rfl rfl (hp 22 (of_decide_eq_true (by kernel_rfl)) (.inr (by decide))), op_move 4 rfl ⟨_, (), rfl, fun _ => Below.refl _ _, hI, fun u hu => (hu (fun h => by cases h)).trans s4⟩⟩
        · cases ho
          have q0 : a'.tmps[198]?.getD undef = .slice (some ⟨bb, off, none⟩) n1 q1 := by have h2 : a'.tmps.getD 198 undef = .slice (some ⟨bb, off, none⟩) n1 q1 := hp 26 (of_decide_eq_true (by kernel_rfl)) (.inr (by decide)); simpa using h2
          have q1 : a'.tmps[199]?.getD undef = .int .i64 (j : Int) := by have h2 : a'.tmps.getD 199 undef = .int .i64 (j : Int) := hp 27 (of_decide_eq_true (by kernel_rfl)) (.inr (by decide)); simpa using h2
          have hjn' : (j : Int) < (n1 : Int) := by omega
          refine ⟨wanted_of (j := 22) (d := 194) (b := true) rfl rfl (hp 22 (of_decide_eq_true (by kernel_rfl)) (.inr (by decide))), Oper.wp_mono (K := fun a'' w'' => a'' = a'.put (some 200) (.pointer (some ⟨bb, off + j, none⟩)) ∧ w'' = x) ?_ ?_⟩
          · rintro _ _ ⟨rfl, rfl⟩
            exact ⟨_, (), rfl, fun _ => Below.refl _ _, hI, fun u hu => hu (fun h => by cases h)⟩
          · unfold Oper.wp
            simp [go_sem, q0, q1, hjn']
        · cases ho
          have q0 : a'.tmps[200]?.getD undef = .pointer (some ⟨bb, off + j, none⟩) := by have h2 : a'.tmps.getD 200 undef = .pointer (some ⟨bb, off + j, none⟩) := hp 28 (of_decide_eq_true (by kernel_rfl)) (.inr (by decide)); simpa using h2
          have c9 := FX.2.2.1
          refine ⟨wanted_of (j := 22) (d := 194) (b := true) rfl rfl (hp 22 (of_decide_eq_true (by kernel_rfl)) (.inr (by decide))), Oper.wp_mono (K := fun a'' w'' => a'' = a'.put (some 201) (.slice ak lj ck) ∧ w'' = x) ?_ ?_⟩
          · rintro _ _ ⟨rfl, rfl⟩
            exact ⟨_, (), rfl, fun _ => Below.refl _ _, hI, fun u hu => hu (fun h => by cases h)⟩
          · unfold Oper.wp
            simp [go_sem, q0, c9]
        · cases ho
          obtain ⟨n24, e24, h24⟩ := hp 24 (of_decide_eq_true (by kernel_rfl)) (.inl rfl)
          have e24 : a'.tmps.getD 196 undef = .slice (some ⟨n24, 0, none⟩) 0 0 := e24
          have h24 : ItRow wk.heap.size x (a'.tmps.getD 196 undef) [] := h24
          rw [e24] at h24
          have e29 : a'.tmps.getD 201 undef = .slice ak lj ck := hp 29 (of_decide_eq_true (by kernel_rfl)) (.inr (by decide))
          refine ⟨wanted_of (j := 22) (d := 194) (b := true) rfl rfl (hp 22 (of_decide_eq_true (by kernel_rfl)) (.inr (by decide))), it_op_empty (.tmp 196) (.tmp 201) rfl wk.heap.size n24 ak lj ck l hlj (by simpa [Act.eval] using e24) (by simpa [Act.eval] using e29) h24 FX.2.2.2 hnilb hln hI.size ?_⟩
          intro v' z q1 q2
          obtain ⟨a2, c2, ev⟩ := q1.shape
          rw [hlj] at ev
          exact ⟨_, (), rfl, fun _ => q2, hI.trans (q2.mono hI.size), fun u hu => by rw [hu (fun h => by cases h)]; exact ⟨⟨a2, c2, ev⟩, q1⟩⟩
        · cases ho
          exact ⟨wanted_of (j := 22) (d := 194) (b := true) rfl rfl (hp 22 (of_decide_eq_true (by kernel_rfl)) (.inr (by decide))), wp_load_row 28 (.tmp 5) rfl (Br + 1) s5 _ _ _ _ FX.1.vi Try.underlying28 rfl (by kernel_rfl) ⟨_, (), rfl, fun _ => Below.refl _ _, hI, fun u hu => hu (fun h => by cases h)⟩⟩
        · cases ho
          have q0 : a'.tmps[203]?.getD undef = .agg #[.int .i64 i0, .int .i64 i1, .int .i64 i2] := by have h2 : a'.tmps.getD 203 undef = .agg #[.int .i64 i0, .int .i64 i1, .int .i64 i2] := hp 31 (of_decide_eq_true (by kernel_rfl)) (.inr (by decide)); simpa using h2
          refine ⟨wanted_of (j := 22) (d := 194) (b := true) rfl rfl (hp 22 (of_decide_eq_true (by kernel_rfl)) (.inr (by decide))), Oper.wp_mono (K := fun a'' w'' => a'' = a'.put (some 204) (.slice (some ⟨x.heap.size, 0, none⟩) 1 1) ∧ w'' = x.alloc (.cells #[.int .i64 i0, .int .i64 i1, .int .i64 i2] 28)) ?_ ?_⟩
          · rintro _ _ ⟨rfl, rfl⟩
            exact ⟨_, (), rfl, fun _ => (Below.refl _ _).alloc (Nat.le_refl _) _, hI.alloc hI.size _, fun u hu => ⟨x.heap.size, hu (fun h => by cases h), Boxed.new _ _ _⟩⟩
          · unfold Oper.wp
            simp [go_sem, q0]
        · cases ho
          obtain ⟨⟨a2, c2, e30⟩, h30⟩ := hp 30 (of_decide_eq_true (by kernel_rfl)) (.inl rfl)
          have e30 : a'.tmps.getD 202 undef = .slice a2 lj c2 := e30
          have h30 : ItRow wk.heap.size x (a'.tmps.getD 202 undef) l := h30
          rw [e30] at h30
          obtain ⟨n32, e32, h32⟩ := hp 32 (of_decide_eq_true (by kernel_rfl)) (.inl rfl)
          have e32 : a'.tmps.getD 204 undef = .slice (some ⟨n32, 0, none⟩) 1 1 := e32
          refine ⟨wanted_of (j := 22) (d := 194) (b := true) rfl rfl (hp 22 (of_decide_eq_true (by kernel_rfl)) (.inr (by decide))), it_op_where (.tmp 202) (.tmp 204) rfl wk.heap.size (.slice a2 lj c2) l ⟨i0, i1, i2⟩ (by simpa [Act.eval] using e30) h30 (by simpa [Act.eval] using e32) h32 hln hI.size ?_⟩
          intro v' z q1 q2 _ _
          rw [← hLl] at q1
          obtain ⟨a3, c3, ev⟩ := q1.shape
          rw [Hm.out] at ev
          exact ⟨_, (), rfl, fun h => absurd rfl h, hI.trans q2, fun u hu => by rw [hu (fun h => by cases h)]; exact ⟨⟨a3, c3, ev⟩, q1⟩⟩
        · cases ho
          have q0 : a'.tmps[195]?.getD undef = .slice ao kk co := by have h2 : a'.tmps.getD 195 undef = .slice ao kk co := hp 23 (of_decide_eq_true (by kernel_rfl)) (.inr (by decide)); simpa using h2
          obtain ⟨⟨a2, c2, e33⟩, h33⟩ := hp 33 (of_decide_eq_true (by kernel_rfl)) (.inl rfl)
          have e33 : a'.tmps.getD 205 undef = .slice a2 kk c2 := e33
          have h33 : ItRow wk.heap.size x (a'.tmps.getD 205 undef) L := h33
          rw [e33, ← Hm.out] at h33
          have q1 : a'.tmps[205]?.getD undef = .slice a2 kk c2 := by simpa using e33
          refine ⟨wanted_of (j := 22) (d := 194) (b := true) rfl rfl (hp 22 (of_decide_eq_true (by kernel_rfl)) (.inr (by decide))), op_callB (by simp [execOp, resolve, Deferred.ofValue, invoke, Act.eval, q0, q1]) (LI'.out x a2 c2 FX.2.1 h33.at) ?_⟩
          rintro e z ⟨rfl, hb⟩
          exact ⟨_, rfl, _, (), rfl, fun _ => hb, hI.trans (hb.mono hI.size), fun u hu => hu (fun h => by cases h)⟩
        · cases ho
          have q0 : a'.tmps[194]?.getD undef = .bool true := by have h2 : a'.tmps.getD 194 undef = .bool true := hp 22 (of_decide_eq_true (by kernel_rfl)) (.inr (by decide)); simpa using h2
          have q1 : a'.tmps[206]?.getD undef = .bool true := by have h2 : a'.tmps.getD 206 undef = .bool true := hp 34 (of_decide_eq_true (by kernel_rfl)) (.inr (by decide)); simpa using h2
          refine ⟨wanted_none rfl, Oper.wp_mono (K := fun a'' w'' => a'' = a'.put (some 207) (.bool true) ∧ w'' = x) ?_ ?_⟩
          · rintro _ _ ⟨rfl, rfl⟩
            exact ⟨_, (), rfl, fun _ => Below.refl _ _, hI, fun u hu => hu (fun h => by cases h)⟩
          · unfold Oper.wp
            simp [go_sem, q0, q1]
        · cases ho
          exact ⟨wanted_none rfl, op_assign 207 rfl ⟨_, (), rfl, fun _ => Below.refl _ _, hI, fun u hu => (hu (fun h => by cases h)).trans (hp 35 (of_decide_eq_true (by kernel_rfl)) (.inr (by decide)))⟩⟩
      case last =>
      intro L' a' y x hall hkp hI hp
      have e2 : a'.tmps.getD 2 undef = .bool true := hp 36 (by decide) (by decide)
      have ha := hkp.pick [true, true, false, true, true, true, true, true, true, true, true, true, true, true, true, true, true, true, true, true, true, true, true, true, true, true, true, true, true, true, true, true, true, true, true, true, true, true, true, true, true, true, true, true, true, true, true, true, true, true, true, true, true, true, true, true, true, true, true, true, true, true, true, true, true, true, true, true, true, true, true, true, true, true, true, true, true, true, true, true, true, true, true, true, true, true, true, true, true, true, true, true, true, true, true, true, true, true, true, true, true, true, true, true, true, true, true, true, true, true, true, true, true, true, true, true, true, true, true, true, true, true, true, true, true, true, true, true, true, true, true, true, true, true, true, true, true, true, true, true, true, true, true, true, true, true, true, true, true, true, true, true, true, true, true, true, true, true, true, true, true, true, true, true, true, true, true, true, true, true, true, true, false, false, false, false, false, false, false, false, false, false, false, false, false, false, false, false, false, false, false, false, false, false, false, false, false, false, false, false, false, false, false, false, false, false, false, false] (by kernel_rfl)
      simp only [pickS] at ha
      rw [e2] at ha
      have Bl : Hid (Below w.heap.size w x) := (RX.out x hI).1.bel
      clear hp hkp hI hall e2 RX KK
      generalize a'.tmps.getD 172 undef = y172 at ha
      generalize a'.tmps.getD 173 undef = y173 at ha
      generalize a'.tmps.getD 174 undef = y174 at ha
      generalize a'.tmps.getD 175 undef = y175 at ha
      generalize a'.tmps.getD 176 undef = y176 at ha
      generalize a'.tmps.getD 177 undef = y177 at ha
      generalize a'.tmps.getD 178 undef = y178 at ha
      generalize a'.tmps.getD 179 undef = y179 at ha
      generalize a'.tmps.getD 180 undef = y180 at ha
      generalize a'.tmps.getD 181 undef = y181 at ha
      generalize a'.tmps.getD 182 undef = y182 at ha
      generalize a'.tmps.getD 183 undef = y183 at ha
      generalize a'.tmps.getD 184 undef = y184 at ha
      generalize a'.tmps.getD 185 undef = y185 at ha
      generalize a'.tmps.getD 186 undef = y186 at ha
      generalize a'.tmps.getD 187 undef = y187 at ha
      generalize a'.tmps.getD 188 undef = y188 at ha
      generalize a'.tmps.getD 189 undef = y189 at ha
      generalize a'.tmps.getD 190 undef = y190 at ha
      generalize a'.tmps.getD 191 undef = y191 at ha
      generalize a'.tmps.getD 192 undef = y192 at ha
      generalize a'.tmps.getD 193 undef = y193 at ha
      generalize a'.tmps.getD 194 undef = y194 at ha
      generalize a'.tmps.getD 195 undef = y195 at ha
      generalize a'.tmps.getD 196 undef = y196 at ha
      generalize a'.tmps.getD 197 undef = y197 at ha
      generalize a'.tmps.getD 198 undef = y198 at ha
      generalize a'.tmps.getD 199 undef = y199 at ha
      generalize a'.tmps.getD 200 undef = y200 at ha
      generalize a'.tmps.getD 201 undef = y201 at ha
      generalize a'.tmps.getD 202 undef = y202 at ha
      generalize a'.tmps.getD 203 undef = y203 at ha
      generalize a'.tmps.getD 204 undef = y204 at ha
      generalize a'.tmps.getD 205 undef = y205 at ha
      generalize a'.tmps.getD 206 undef = y206 at ha
      generalize a'.tmps.getD 207 undef = y207 at ha
      rw [ha]
      clear ha
      go_wp2
      go_ret
      exact ⟨rfl, Bl.out⟩
end Go.Proofs.Ytleokmnhhhhcjaa
