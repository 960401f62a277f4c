/-
  The walk of FnHeaps, the program's contracts given. By the verifier, by program.
-/
import Derived.Test.YtkocbfikcjgigaaM5DuDrawQ
import Derived.Test.YtkocbfikcjgigaaDuHpS
import Derived.Test.YtkocbfikcjgigaaDuTkS
import Derived.Test.YtkocbfikcjgigaaM7DuV
import Derived.Test.YtkocbfikcjgigaaLikeDu
import Derived.BigQuiet
namespace Go.Proofs.Ytkocbfikcjgigaa
open Go.RowKit

abbrev dT (b t : Nat) (v : Value) (l : List Du) : Thing := Thing.own (fun W => DusW b t W v l) b t (fun h s k => DusW.keep h s k)
theorem lies_var {w : World} {ts : List Thing} {W : World} (h : Lies w ts W) (z cs : Array Value) (T : TypeId) : Lies w (ts ++ [Thing.box W.heap.size cs T]) ((W.alloc (.cells z T)).setRow W.heap.size cs) :=
  h.more (below_setRow ((Below.refl _ _).alloc (Nat.le_refl _) _) (Nat.le_refl _) _) ⟨setRow_heap _ _ _ _ _ _ (Boxed.new W z T), trivial⟩
theorem put_is' {l X : List Du} {d : Du} {is : Bool} (hX : X = putH l d) (hi : is = putB l d) : (is = true → hok X = true ∧ X.length = l.length + 1) ∧ (is = false → hok l = true → X = l) := by
  subst hX; subst hi
  constructor
  · intro h
    unfold putB at h
    rw [Bool.and_eq_true] at h
    unfold putH
    rw [if_pos h.1, if_pos h.2]
    exact ⟨hput_hok h.1 h.2, hput_len _ _⟩
  · intro h hk
    unfold putB at h
    rw [hk, Bool.true_and] at h
    unfold putH
    rw [if_pos hk, if_neg (by rw [h]; decide)]
theorem take_yes {l : List Du} (h : mayTake l = true) : hok (takeH l) = true ∧ (takeH l).length + 1 = l.length ∧ (∀ x ∈ takeH l, (takeD l).lt x) ∧ takeD l ∈ l := by
  have e : takeH l = htake l := by unfold takeH; rw [if_pos h]
  have e2 : takeD l = duAt l 0 := by unfold takeD; rw [if_pos h]
  rw [e, e2]
  exact ⟨(htake_hok h).1, (htake_hok h).2.2.2.1, fun x hx => take_next h hx, (htake_hok h).2.2.2.2⟩
theorem take_no {l : List Du} (h : mayTake l = false) : takeH l = [] := by unfold takeH; rw [if_neg (by rw [h]; decide)]
theorem hok_small {l : List Du} (h : hok l = true) : l.length ≤ 1048576 := by have := (hok_iff.1 h).1; omega
/-- What holds while the heap is taken from, due by due. -/
structure HpL (w : World) (gL T : Nat) (l : List Du) (v : Value) (yn k b t : Nat) (f : Du) (W : World) : Prop where
  ok : hok l = true
  len : l.length = yn
  sum : k + yn = T
  lt : ∀ x ∈ l, f.lt x
  lies : Lies w [dT b t v l, Thing.box gL #[.int .i64 f.time, .int .i64 f.id] 26] W
  off : t ≤ gL ∨ gL < b
  gw : w.heap.size ≤ gL

set_option maxHeartbeats 12800000 in
set_option maxRecDepth 100000 in
theorem fnHeaps_law
    (IK : ∀ (l : List Du) (a : Option Addr) (cap : Nat) (w : World), l.length ≤ 1048576 → l.length ≤ cap → (a = none → cap = 0) → Hid (DusAt w a l) → Calls Try.prog 11 #[.slice a l.length cap] w fun e w' => e = .returned (.bool (hok l)) ∧ Below w.heap.size w w')
    (IP : ∀ (l : List Du) (a : Option Addr) (cap : Nat) (d : Du) (w : World), l.length ≤ 1048576 → l.length ≤ cap → (a = none → cap = 0) → Hid (DusAt w a l) → Calls Try.prog 6 #[.slice a l.length cap, d.val] w fun e w' => (∃ v, e = .returned (.tuple #[v, .bool (putB l d)]) ∧ DuRow w.heap.size w' v (putH l d)) ∧ Below w.heap.size w w')
    (IT : ∀ (l : List Du) (a : Option Addr) (cap : Nat) (w : World), l.length ≤ 1048576 → l.length ≤ cap → (a = none → cap = 0) → Hid (DusAt w a l) → Calls Try.prog 8 #[.slice a l.length cap] w fun e w' => (∃ v, e = .returned (.tuple #[v, (takeD l).val, .bool (mayTake l)]) ∧ DuRow w.heap.size w' v (takeH l)) ∧ Below w.heap.size w w')
    (a : Option Addr) (len cap : Nat) (w : World)
    (hcode : ∀ k, k < len → ∃ b off z, a = some ⟨b, off, none⟩ ∧ b < w.heap.size ∧ w.cell? ⟨b, off + k, none⟩ = some (.int .u8 z) ∧ 0 ≤ z ∧ z ≤ 255) :
    Calls Try.prog 3 #[.slice a len cap] w fun e w' => e = .returned (.bool true) ∧ Below w.heap.size w w' := by
  by_cases hbig : 4096 < len
  · clear hcode
    go_enter Try.func3, Try.ntmps3
    go_wp2
    go_ret
    exact ⟨rfl, Below.refl _ _⟩
  have hc : Hid (Code w a len) := ⟨by omega, hcode⟩
  have hb : Hid (Below w.heap.size w w) := Below.refl _ _
  have K' : Hid (∀ (l : List Du) (v : Value) (W : World), l.length ≤ 1048576 → DusV W v l → Calls Try.prog 11 #[v] W fun e w' => e = .returned (.bool (hok l)) ∧ Below W.heap.size W w') := fun l v W hT hv => by
    obtain ⟨a, c, rfl, h, hc, hn⟩ := hv
    exact IK l a c W hT hc hn h
  have SK' : Hid (∀ (l : List Du) (v : Value) (W : World), l.length ≤ 1048576 → DusV W v l → Calls Try.prog 12 #[v] W fun e w' => e = .returned (.bool (hok l)) ∧ Below W.heap.size W w') := fun l v W hT hv => by
    obtain ⟨a, c, rfl, h, hc, hn⟩ := hv
    exact specHeapOk a c l W hT hc h
  have P' : Hid (∀ (l : List Du) (v : Value) (x0 x1 : Int) (W : World), l.length ≤ 1048576 → DusV W v l → Calls Try.prog 6 #[v, .agg #[.int .i64 x0, .int .i64 x1]] W fun e w' => (∃ p q, e = .returned (.tuple #[.slice p (putH l ⟨x0, x1⟩).length q, .bool (putB l ⟨x0, x1⟩)]) ∧ DusW W.heap.size w'.heap.size w' (.slice p (putH l ⟨x0, x1⟩).length q) (putH l ⟨x0, x1⟩)) ∧ Below W.heap.size W w') := fun l v x0 x1 W hT hv => by
    obtain ⟨a, c, rfl, h, hc, hn⟩ := hv
    refine (IP l a c ⟨x0, x1⟩ W hT hc hn h).mono fun e w' hh => ?_
    obtain ⟨⟨v, rfl, r⟩, q⟩ := hh
    obtain ⟨p, q', rfl⟩ := r.shape
    exact ⟨⟨p, q', rfl, DusW.of_row r⟩, q⟩
  have SP' : Hid (∀ (l : List Du) (v : Value) (x0 x1 : Int) (W : World), l.length ≤ 1048576 → DusV W v l → Calls Try.prog 9 #[v, .agg #[.int .i64 x0, .int .i64 x1]] W fun e w' => (∃ p q, e = .returned (.tuple #[.slice p (putH l ⟨x0, x1⟩).length q, .bool (putB l ⟨x0, x1⟩)]) ∧ DusW W.heap.size w'.heap.size w' (.slice p (putH l ⟨x0, x1⟩).length q) (putH l ⟨x0, x1⟩)) ∧ Below W.heap.size W w') := fun l v x0 x1 W hT hv => by
    obtain ⟨a, c, rfl, h, hc, hn⟩ := hv
    refine (specHeapPut a c l ⟨x0, x1⟩ W hT hc hn h).mono fun e w' hh => ?_
    obtain ⟨⟨v, rfl, r⟩, q⟩ := hh
    obtain ⟨p, q', rfl⟩ := r.shape
    exact ⟨⟨p, q', rfl, DusW.of_row r⟩, q⟩
  have T' : Hid (∀ (l : List Du) (v : Value) (W : World), l.length ≤ 1048576 → DusV W v l → Calls Try.prog 8 #[v] W fun e w' => (∃ p q, e = .returned (.tuple #[.slice p (takeH l).length q, .agg #[.int .i64 (takeD l).time, .int .i64 (takeD l).id], .bool (mayTake l)]) ∧ DusW W.heap.size w'.heap.size w' (.slice p (takeH l).length q) (takeH l)) ∧ Below W.heap.size W w') := fun l v W hT hv => by
    obtain ⟨a, c, rfl, h, hc, hn⟩ := hv
    refine (IT l a c W hT hc hn h).mono fun e w' hh => ?_
    obtain ⟨⟨v, rfl, r⟩, q⟩ := hh
    obtain ⟨p, q', rfl⟩ := r.shape
    exact ⟨⟨p, q', rfl, DusW.of_row r⟩, q⟩
  have ST' : Hid (∀ (l : List Du) (v : Value) (W : World), l.length ≤ 1048576 → DusV W v l → Calls Try.prog 13 #[v] W fun e w' => (∃ p q, e = .returned (.tuple #[.slice p (takeH l).length q, .agg #[.int .i64 (takeD l).time, .int .i64 (takeD l).id], .bool (mayTake l)]) ∧ DusW W.heap.size w'.heap.size w' (.slice p (takeH l).length q) (takeH l)) ∧ Below W.heap.size W w') := fun l v W hT hv => by
    obtain ⟨a, c, rfl, h, hc, hn⟩ := hv
    refine (specHeapTake a c l W hT hc h).mono fun e w' hh => ?_
    obtain ⟨⟨v, rfl, r⟩, q⟩ := hh
    obtain ⟨p, q', rfl⟩ := r.shape
    exact ⟨⟨p, q', rfl, DusW.of_row r⟩, q⟩
  have L' : Hid (∀ (l : List Du) (v1 v2 : Value) (W : World), l.length ≤ 1048576 → DusV W v1 l → DusV W v2 l → Calls Try.prog 10 #[v1, v2] W fun e w' => e = .returned (.bool true) ∧ Below W.heap.size W w') := fun l v1 v2 W hT h1 h2 => by
    obtain ⟨a1, c1, rfl, h1, _⟩ := h1
    obtain ⟨a2, c2, rfl, h2, _⟩ := h2
    exact likeDus a1 a2 c1 c2 l W hT h1 h2
  clear hcode IK IP IT
  go_enter Try.func3, Try.ntmps3
  go_wp2_with (go_at_call 4; go_in)
  refine (dDrawHeapPut hc _ hb).mono ?_
  rintro e w1 ⟨⟨v, l, ⟨d0, d1⟩, rfl, r1, hl⟩, q⟩
  obtain ⟨hp, hq, rfl⟩ := r1.shape
  simp only [Du.val]
  obtain ⟨n, hn⟩ : ∃ n, l.length = n := ⟨_, rfl⟩
  obtain ⟨bh, hbh⟩ : ∃ b, b = w.heap.size := ⟨_, rfl⟩
  obtain ⟨th, hth⟩ : ∃ b, b = w1.heap.size := ⟨_, rfl⟩
  have Z1 : Hid (Lies w [dT bh th (.slice hp n hq) l] w1) := by
    rw [hbh, hth, ← hn]; exact ⟨⟨⟨DusW.of_row r1, Nat.le_refl _⟩, trivial⟩, q⟩
  have Hn : Hid (l.length = n ∧ l.length ≤ 1048576) := ⟨hn, by omega⟩
  rw [hn]
  clear hbh hth r1 q hn hl hb
  have N : Hid (Boxed (w1.alloc (.cells #[.int .i64 0, .int .i64 0] 26)) w1.heap.size #[.int .i64 0, .int .i64 0] 26) := Boxed.new _ _ _
  have Z2 : Hid (Lies w [dT bh th (.slice hp n hq) l, Thing.box w1.heap.size #[.int .i64 d0, .int .i64 d1] 26] ((w1.alloc (.cells #[.int .i64 0, .int .i64 0] 26)).setRow w1.heap.size #[.int .i64 d0, .int .i64 d1])) := lies_var Z1.out _ _ _
  go_wp2_with (first | (refine wpList_store_row rfl 26 (.tmp _) (.tmp _) rfl w1.heap.size #[.int .i64 d0, .int .i64 d1] rfl rfl _ _ N.out (by kernel_rfl) rfl (duOnes _ _) ?_) | (refine wpList_load_row rfl 26 (.tmp _) rfl w1.heap.size rfl _ _ _ _ (show Boxed _ _ _ _ from Z2.out.1.2.1) Try.underlying26 rfl (by kernel_rfl) ?_))
  generalize (w1.alloc (.cells #[.int .i64 0, .int .i64 0] 26)).setRow w1.heap.size #[.int .i64 d0, .int .i64 d1] = w2 at Z2 ⊢
  obtain ⟨gd, hgd⟩ : ∃ b, b = w1.heap.size := ⟨_, rfl⟩
  rw [← hgd] at Z2 ⊢
  clear N Z1 hgd
  obtain ⟨X, hX⟩ : ∃ X, X = putH l ⟨d0, d1⟩ := ⟨_, rfl⟩
  obtain ⟨is, his⟩ : ∃ X, X = putB l ⟨d0, d1⟩ := ⟨_, rfl⟩
  have C1 := fun v W h => P'.out l v d0 d1 W Hn.out.2 h
  have C3 := fun v W h => SP'.out l v d0 d1 W Hn.out.2 h
  rw [← hX, ← his] at C1 C3
  have HX : Hid _ := put_is' hX his
  have Hx : Hid (X.length ≤ 1048576) := by
    show X.length ≤ 1048576
    rcases Bool.eq_false_or_eq_true is with h | h
    · exact hok_small (HX.out.1 h).1
    · by_cases hk : hok l = true
      · rw [HX.out.2 h hk]; exact Hn.out.2
      · rw [hX]; unfold putH; rw [if_neg hk]; exact Nat.zero_le _
  obtain ⟨xn, hxn⟩ : ∃ n, X.length = n := ⟨_, rfl⟩
  rw [hxn] at C1 C3
  have Hxn : Hid (X.length = xn) := hxn
  have C1' : Hid _ := C1
  have C3' : Hid _ := C3
  clear hX his C1 C3 hxn
  refine (C1'.out _ _ (show DusW _ _ _ _ _ from Z2.out.1.1.1).at).mono ?_
  rintro e w3 ⟨⟨xp, xq, rfl, i1⟩, q⟩
  obtain ⟨bx, hbx⟩ : ∃ b, b = w2.heap.size := ⟨_, rfl⟩
  obtain ⟨tx, htx⟩ : ∃ b, b = w3.heap.size := ⟨_, rfl⟩
  have Z3 : Hid (Lies w [dT bh th (.slice hp n hq) l, Thing.box gd #[.int .i64 d0, .int .i64 d1] 26, dT bx tx (.slice xp xn xq) X] w3) := by rw [hbx, htx]; exact Z2.out.more q ⟨⟨i1, Nat.le_refl _⟩, trivial⟩
  clear hbx htx Z2 q i1 C1'
  have b3 : Hid (Below w.heap.size w w3) := Z3.out.2
  go_wp2_with fail
  refine (dDrawHeapTake hc _ b3).mono ?_
  rintro e w4 ⟨⟨v, m, rfl, r1, hm⟩, q⟩
  obtain ⟨mp, mq, rfl⟩ := r1.shape
  obtain ⟨mn, hmn⟩ : ∃ n, m.length = n := ⟨_, rfl⟩
  have i1 := DusW.of_row r1
  rw [hmn] at i1 ⊢
  have Hm : Hid (m.length = mn ∧ m.length ≤ 1048576) := ⟨hmn, by omega⟩
  clear b3 r1 hmn hm
  obtain ⟨bm, hbm⟩ : ∃ b, b = w3.heap.size := ⟨_, rfl⟩
  obtain ⟨tm, htm⟩ : ∃ b, b = w4.heap.size := ⟨_, rfl⟩
  have Z4 : Hid (Lies w [dT bh th (.slice hp n hq) l, Thing.box gd #[.int .i64 d0, .int .i64 d1] 26, dT bx tx (.slice xp xn xq) X, dT bm tm (.slice mp mn mq) m] w4) := by rw [hbm, htm]; exact Z3.out.more q ⟨⟨i1, Nat.le_refl _⟩, trivial⟩
  clear hbm htm Z3 q i1 
  obtain ⟨Y, hY⟩ : ∃ X, X = takeH m := ⟨_, rfl⟩
  obtain ⟨there, hth⟩ : ∃ X, X = mayTake m := ⟨_, rfl⟩
  have C1 := fun v W h => T'.out m v W Hm.out.2 h
  have C2 := fun v W h => ST'.out m v W Hm.out.2 h
  have Yes : there = true → hok (takeH m) = true ∧ (takeH m).length + 1 = m.length ∧ (∀ x ∈ takeH m, (takeD m).lt x) ∧ takeD m ∈ m := fun h => take_yes (by rw [← hth]; exact h)
  have No : there = false → takeH m = [] := fun h => take_no (by rw [← hth]; exact h)
  rw [← hY, ← hth] at C1 C2
  rw [← hY] at Yes No
  clear hY hth
  generalize takeD m = f at C1 C2 Yes
  obtain ⟨f0, f1⟩ := f
  have HY : Hid ((there = true → hok Y = true ∧ Y.length + 1 = mn ∧ ∀ x ∈ Y, (⟨f0, f1⟩ : Du).lt x) ∧ (there = false → Y = [])) := ⟨fun h => ⟨(Yes h).1, by rw [← Hm.out.1]; exact (Yes h).2.1, (Yes h).2.2.1⟩, No⟩
  have Hy : Hid (Y.length ≤ 1048576) := by
    show Y.length ≤ 1048576
    rcases Bool.eq_false_or_eq_true there with h | h
    · exact hok_small (Yes h).1
    · rw [No h]; exact Nat.zero_le _
  obtain ⟨yn, hyn⟩ : ∃ n, Y.length = n := ⟨_, rfl⟩
  simp only [hyn] at C1 C2
  have Hyn : Hid (Y.length = yn) := hyn
  have C1' : Hid _ := C1
  have C2' : Hid _ := C2
  clear C1 C2 hyn Yes No
  go_wp2_with fail
  refine (C1'.out _ _ (show DusW _ _ _ _ _ from Z4.out.1.2.2.2.1.1).at).mono ?_
  rintro e w5 ⟨⟨yp, yq, rfl, i1⟩, q⟩
  obtain ⟨bw, hbw⟩ : ∃ b, b = w4.heap.size := ⟨_, rfl⟩
  obtain ⟨ty, hty⟩ : ∃ b, b = w5.heap.size := ⟨_, rfl⟩
  have Z5 : Hid (Lies w [dT bh th (.slice hp n hq) l, Thing.box gd #[.int .i64 d0, .int .i64 d1] 26, dT bx tx (.slice xp xn xq) X, dT bm tm (.slice mp mn mq) m, dT bw ty (.slice yp yn yq) Y] w5) := by rw [hbw, hty]; exact Z4.out.more q ⟨⟨i1, Nat.le_refl _⟩, trivial⟩
  clear hbw hty Z4 q i1 C1'
  have N : Hid (Boxed (w5.alloc (.cells #[.int .i64 0, .int .i64 0] 26)) w5.heap.size #[.int .i64 0, .int .i64 0] 26) := Boxed.new _ _ _
  have Z6 : Hid (Lies w [dT bh th (.slice hp n hq) l, Thing.box gd #[.int .i64 d0, .int .i64 d1] 26, dT bx tx (.slice xp xn xq) X, dT bm tm (.slice mp mn mq) m, dT bw ty (.slice yp yn yq) Y, Thing.box w5.heap.size #[.int .i64 f0, .int .i64 f1] 26] ((w5.alloc (.cells #[.int .i64 0, .int .i64 0] 26)).setRow w5.heap.size #[.int .i64 f0, .int .i64 f1])) := lies_var Z5.out _ _ _
  go_wp2_with (first | (refine wpList_store_row rfl 26 (.tmp _) (.tmp _) rfl w5.heap.size #[.int .i64 f0, .int .i64 f1] rfl rfl _ _ N.out (by kernel_rfl) rfl (duOnes _ _) ?_) | (refine wpList_load_row rfl 26 (.tmp _) rfl w5.heap.size rfl _ _ _ _ (show Boxed _ _ _ _ from Z6.out.1.2.2.2.2.2.1) Try.underlying26 rfl (by kernel_rfl) ?_) | (refine wpList_load_row rfl 26 (.tmp _) rfl gd rfl _ _ _ _ (show Boxed _ _ _ _ from Z6.out.1.2.1) Try.underlying26 rfl (by kernel_rfl) ?_))
  generalize (w5.alloc (.cells #[.int .i64 0, .int .i64 0] 26)).setRow w5.heap.size #[.int .i64 f0, .int .i64 f1] = w6 at Z6 ⊢
  obtain ⟨gf, hgf⟩ : ∃ b, b = w5.heap.size := ⟨_, rfl⟩
  rw [← hgf] at Z6 ⊢
  clear N Z5 hgf
  refine (C3'.out _ _ (show DusW _ _ _ _ _ from Z6.out.1.1.1).at).mono ?_
  rintro e w7 ⟨⟨zp, zq, rfl, i1⟩, q⟩
  obtain ⟨bz, hbz⟩ : ∃ b, b = w6.heap.size := ⟨_, rfl⟩
  obtain ⟨tz, htz⟩ : ∃ b, b = w7.heap.size := ⟨_, rfl⟩
  have Z7 : Hid (Lies w [dT bh th (.slice hp n hq) l, Thing.box gd #[.int .i64 d0, .int .i64 d1] 26, dT bx tx (.slice xp xn xq) X, dT bm tm (.slice mp mn mq) m, dT bw ty (.slice yp yn yq) Y, Thing.box gf #[.int .i64 f0, .int .i64 f1] 26, dT bz tz (.slice zp xn zq) X] w7) := by rw [hbz, htz]; exact Z6.out.more q ⟨⟨i1, Nat.le_refl _⟩, trivial⟩
  clear hbz htz Z6 q i1 C3'
  go_wp2_with fail
  refine (L'.out X _ _ _ Hx.out (show DusW _ _ _ _ _ from Z7.out.1.2.2.1.1).at (show DusW _ _ _ _ _ from Z7.out.1.2.2.2.2.2.2.1.1).at).mono ?_
  rintro e w8 ⟨rfl, q⟩
  have Z8 : Hid (Lies w [dT bh th (.slice hp n hq) l, Thing.box gd #[.int .i64 d0, .int .i64 d1] 26, dT bx tx (.slice xp xn xq) X, dT bm tm (.slice mp mn mq) m, dT bw ty (.slice yp yn yq) Y, Thing.box gf #[.int .i64 f0, .int .i64 f1] 26, dT bz tz (.slice zp xn zq) X] w8) := Z7.out.below q
  clear q Z7 
  have D1 := fun v W h => K'.out l v W Hn.out.2 h
  have D2 := fun v W h => SK'.out l v W Hn.out.2 h
  obtain ⟨kl, hkl⟩ : ∃ b, hok l = b := ⟨_, rfl⟩
  rw [hkl] at D1 D2
  have Hkl : Hid (hok l = kl) := hkl
  have D1' : Hid _ := D1
  have D2' : Hid _ := D2
  clear D1 D2 hkl
  go_wp2_with fail
  refine (D1'.out _ _ (show DusW _ _ _ _ _ from Z8.out.1.1.1).at).mono ?_
  rintro e w9 ⟨rfl, q⟩
  have Z9 : Hid (Lies w [dT bh th (.slice hp n hq) l, Thing.box gd #[.int .i64 d0, .int .i64 d1] 26, dT bx tx (.slice xp xn xq) X, dT bm tm (.slice mp mn mq) m, dT bw ty (.slice yp yn yq) Y, Thing.box gf #[.int .i64 f0, .int .i64 f1] 26, dT bz tz (.slice zp xn zq) X] w9) := Z8.out.below q
  clear q Z8 D1'
  go_wp2_with fail
  refine (D2'.out _ _ (show DusW _ _ _ _ _ from Z9.out.1.1.1).at).mono ?_
  rintro e w10 ⟨rfl, q⟩
  have Z10 : Hid (Lies w [dT bh th (.slice hp n hq) l, Thing.box gd #[.int .i64 d0, .int .i64 d1] 26, dT bx tx (.slice xp xn xq) X, dT bm tm (.slice mp mn mq) m, dT bw ty (.slice yp yn yq) Y, Thing.box gf #[.int .i64 f0, .int .i64 f1] 26, dT bz tz (.slice zp xn zq) X] w10) := Z9.out.below q
  clear q Z9 
  go_wp2_with fail
  refine (C2'.out _ _ (show DusW _ _ _ _ _ from Z10.out.1.2.2.2.1.1).at).mono ?_
  rintro e w11 ⟨⟨up, uq, rfl, i1⟩, q⟩
  obtain ⟨bu, hbu⟩ : ∃ b, b = w10.heap.size := ⟨_, rfl⟩
  obtain ⟨tu, htu⟩ : ∃ b, b = w11.heap.size := ⟨_, rfl⟩
  have Z11 : Hid (Lies w [dT bh th (.slice hp n hq) l, Thing.box gd #[.int .i64 d0, .int .i64 d1] 26, dT bx tx (.slice xp xn xq) X, dT bm tm (.slice mp mn mq) m, dT bw ty (.slice yp yn yq) Y, Thing.box gf #[.int .i64 f0, .int .i64 f1] 26, dT bz tz (.slice zp xn zq) X, dT bu tu (.slice up yn uq) Y] w11) := by rw [hbu, htu]; exact Z10.out.more q ⟨⟨i1, Nat.le_refl _⟩, trivial⟩
  clear hbu htu Z10 q i1 C2'
  have N : Hid (Boxed (w11.alloc (.cells #[.int .i64 0, .int .i64 0] 26)) w11.heap.size #[.int .i64 0, .int .i64 0] 26) := Boxed.new _ _ _
  have Z12 : Hid (Lies w [dT bh th (.slice hp n hq) l, Thing.box gd #[.int .i64 d0, .int .i64 d1] 26, dT bx tx (.slice xp xn xq) X, dT bm tm (.slice mp mn mq) m, dT bw ty (.slice yp yn yq) Y, Thing.box gf #[.int .i64 f0, .int .i64 f1] 26, dT bz tz (.slice zp xn zq) X, dT bu tu (.slice up yn uq) Y, Thing.box w11.heap.size #[.int .i64 f0, .int .i64 f1] 26] ((w11.alloc (.cells #[.int .i64 0, .int .i64 0] 26)).setRow w11.heap.size #[.int .i64 f0, .int .i64 f1])) := lies_var Z11.out _ _ _
  go_upto_region 11 with (refine wpList_store_row rfl 26 (.tmp _) (.tmp _) rfl w11.heap.size #[.int .i64 f0, .int .i64 f1] rfl rfl _ _ N.out (by kernel_rfl) rfl (duOnes _ _) ?_)
  generalize (w11.alloc (.cells #[.int .i64 0, .int .i64 0] 26)).setRow w11.heap.size #[.int .i64 f0, .int .i64 f1] = w12 at Z12 ⊢
  obtain ⟨ge, hge⟩ : ∃ b, b = w11.heap.size := ⟨_, rfl⟩
  rw [← hge] at Z12 ⊢
  clear N Z11 hge
  have s0 : w12.cell? ⟨gf, 0, none⟩ = some (.int .i64 f0) := Boxed.cell (show Boxed _ _ _ _ from Z12.out.1.2.2.2.2.2.1) 0 rfl
  have s1 : w12.cell? ⟨gf, 1, none⟩ = some (.int .i64 f1) := Boxed.cell (show Boxed _ _ _ _ from Z12.out.1.2.2.2.2.2.1) 1 rfl
  have t0 : w12.cell? ⟨ge, 0, none⟩ = some (.int .i64 f0) := Boxed.cell (show Boxed _ _ _ _ from Z12.out.1.2.2.2.2.2.2.2.2.1) 0 rfl
  have t1 : w12.cell? ⟨ge, 1, none⟩ = some (.int .i64 f1) := Boxed.cell (show Boxed _ _ _ _ from Z12.out.1.2.2.2.2.2.2.2.2.1) 1 rfl
  go_wp2_with fail
  refine (L'.out Y _ _ _ Hy.out (show DusW _ _ _ _ _ from Z12.out.1.2.2.2.2.1.1).at (show DusW _ _ _ _ _ from Z12.out.1.2.2.2.2.2.2.2.1.1).at).mono ?_
  rintro e w13 ⟨rfl, q⟩
  have Z13 : Hid (Lies w [dT bh th (.slice hp n hq) l, Thing.box gd #[.int .i64 d0, .int .i64 d1] 26, dT bx tx (.slice xp xn xq) X, dT bm tm (.slice mp mn mq) m, dT bw ty (.slice yp yn yq) Y, Thing.box gf #[.int .i64 f0, .int .i64 f1] 26, dT bz tz (.slice zp xn zq) X, dT bu tu (.slice up yn uq) Y, Thing.box ge #[.int .i64 f0, .int .i64 f1] 26] w13) := Z12.out.below q
  clear q Z12 s0 s1 t0 t1
  go_upto_region 13 with fail
  go_cut [111] (fun s wc => Hid (s = .bool false ∧ Lies w [dT bh th (.slice hp n hq) l, Thing.box gd #[.int .i64 d0, .int .i64 d1] 26, dT bx tx (.slice xp xn xq) X, dT bm tm (.slice mp mn mq) m, dT bw ty (.slice yp yn yq) Y, Thing.box gf #[.int .i64 f0, .int .i64 f1] 26, dT bz tz (.slice zp xn zq) X, dT bu tu (.slice up yn uq) Y, Thing.box ge #[.int .i64 f0, .int .i64 f1] 26] wc))
  case first =>
    rcases Bool.eq_false_or_eq_true is with h | h
    · obtain ⟨h1, h2⟩ := HX.out.1 h
      have E1 := fun v W hv => K'.out X v W Hx.out hv
      rw [h1] at E1
      have hnb : n ≤ 1048576 := by have := Hn.out; omega
      have hxx : xn = n + 1 := by have := Hn.out.1; have := Hxn.out; omega
      have E1' : Hid _ := E1
      clear E1 h1 h2
      subst h
      subst hxx
      go_wp2_with fail
      refine (E1'.out _ _ (show DusW _ _ _ _ _ from Z13.out.1.2.2.1.1).at).mono ?_
      rintro e w14 ⟨rfl, q⟩
      have Zq : Hid (Lies w [dT bh th (.slice hp n hq) l, Thing.box gd #[.int .i64 d0, .int .i64 d1] 26, dT bx tx (.slice xp (n + 1) xq) X, dT bm tm (.slice mp mn mq) m, dT bw ty (.slice yp yn yq) Y, Thing.box gf #[.int .i64 f0, .int .i64 f1] 26, dT bz tz (.slice zp (n + 1) zq) X, dT bu tu (.slice up yn uq) Y, Thing.box ge #[.int .i64 f0, .int .i64 f1] 26] w14) := Z13.out.below q
      clear q Z13 E1'
      go_wp2_with fail
      go_meet
      exact ⟨rfl, Zq.out⟩
    · have HX2 : Hid (hok l = true → X = l) := fun hk => HX.out.2 h hk
      subst h
      go_wp2_with fail
      refine (D2'.out _ _ (show DusW _ _ _ _ _ from Z13.out.1.1.1).at).mono ?_
      rintro e w14 ⟨rfl, q⟩
      have Zq : Hid (Lies w [dT bh th (.slice hp n hq) l, Thing.box gd #[.int .i64 d0, .int .i64 d1] 26, dT bx tx (.slice xp xn xq) X, dT bm tm (.slice mp mn mq) m, dT bw ty (.slice yp yn yq) Y, Thing.box gf #[.int .i64 f0, .int .i64 f1] 26, dT bz tz (.slice zp xn zq) X, dT bu tu (.slice up yn uq) Y, Thing.box ge #[.int .i64 f0, .int .i64 f1] 26] w14) := Z13.out.below q
      clear q
      rcases Bool.eq_false_or_eq_true kl with h | h
      · subst h
        have e := HX2.out Hkl.out
        have E1 := fun v1 v2 W h1 h2 => L'.out l v1 v2 W Hn.out.2 h1 h2
        have E1' : Hid _ := E1
        have A1 : Hid (DusV w14 (.slice xp xn xq) l) := by have h := (show DusW _ _ _ _ _ from Zq.out.1.2.2.1.1).at; rw [e] at h; exact h
        clear E1 e
        go_wp2_with fail
        refine (E1'.out _ _ _ A1.out (show DusW _ _ _ _ _ from Zq.out.1.1.1).at).mono ?_
        rintro e w15 ⟨rfl, q⟩
        have Zr : Hid (Lies w [dT bh th (.slice hp n hq) l, Thing.box gd #[.int .i64 d0, .int .i64 d1] 26, dT bx tx (.slice xp xn xq) X, dT bm tm (.slice mp mn mq) m, dT bw ty (.slice yp yn yq) Y, Thing.box gf #[.int .i64 f0, .int .i64 f1] 26, dT bz tz (.slice zp xn zq) X, dT bu tu (.slice up yn uq) Y, Thing.box ge #[.int .i64 f0, .int .i64 f1] 26] w15) := Zq.out.below q
        clear q Zq A1 E1'
        go_wp2_with fail
        go_meet
        exact ⟨rfl, Zr.out⟩
      · subst h
        go_wp2_with fail
        go_meet
        exact ⟨rfl, Zq.out⟩
  case rest =>
  obtain ⟨rfl, hP⟩ := hcut.out
  have ZR : Hid (Lies w [dT bw ty (.slice yp yn yq) Y, Thing.box gf #[.int .i64 f0, .int .i64 f1] 26] wc) := ⟨⟨hP.1.2.2.2.2.1, hP.1.2.2.2.2.2.1, trivial⟩, hP.2⟩
  clear hcut hP Z13 HX Hx Hxn Hkl D2' P' SP' SK' ST' L' Hy
  rcases Bool.eq_false_or_eq_true there with h | h
  · obtain ⟨h1, h2, h3⟩ := HY.out.1 h
    subst h
    have hLe : ty ≤ wc.heap.size := ZR.out.1.1.2
    have HL : Hid (HpL w wc.heap.size mn Y (.slice yp yn yq) yn 1 bw ty ⟨f0, f1⟩ ((wc.alloc (.cells #[.int .i64 0, .int .i64 0] 26)).setRow wc.heap.size #[.int .i64 f0, .int .i64 f1])) := ⟨h1, Hyn.out, by have := Hyn.out; omega, h3, ⟨⟨(lies_var ZR.out _ _ _).1.1, (lies_var ZR.out #[.int .i64 0, .int .i64 0] #[.int .i64 f0, .int .i64 f1] 26).1.2.2.1, trivial⟩, (lies_var ZR.out _ _ _).2⟩, .inl hLe, ZR.out.2.size⟩
    have N : Hid (Boxed (wc.alloc (.cells #[.int .i64 0, .int .i64 0] 26)) wc.heap.size #[.int .i64 0, .int .i64 0] 26) := Boxed.new _ _ _
    clear h1 h2 h3 hLe HY Hyn
    go_wp2_with (first | (refine wpList_load_row rfl 26 (.tmp _) rfl gf rfl _ _ _ _ (show Boxed _ _ _ _ from ZR.out.1.2.1) Try.underlying26 rfl (by kernel_rfl) ?_) | (refine wpList_store_row rfl 26 (.tmp _) (.tmp _) rfl wc.heap.size #[.int .i64 f0, .int .i64 f1] rfl rfl _ _ N.out (by kernel_rfl) rfl (duOnes _ _) ?_))
    generalize (wc.alloc (.cells #[.int .i64 0, .int .i64 0] 26)).setRow wc.heap.size #[.int .i64 f0, .int .i64 f1] = wl at HL ⊢
    clear N
    generalize wc.heap.size = gL at HL ⊢
    clear ZR
    have HL1 : Hid (∃ (l : List Du) (f : Du) (b t : Nat), HpL w gL mn l (.slice yp yn yq) yn 1 b t f wl) := ⟨_, _, _, _, HL.out⟩
    clear HL
    go_loopw [8, 17, 18, 19, 20] (fun y k _ _ _ wr => ∃ (p : Option Addr) (z q j : Nat), y = .slice p z q ∧ k = .int .i64 j ∧ Hid (∃ (l : List Du) (f : Du) (b t : Nat), HpL w gL mn l (.slice p z q) z j b t f wr)) (fun _ k _ _ _ _ => mn - (intOf k).toNat)
    case atStart => exact ⟨yp, yn, yq, 1, rfl, rfl, HL1⟩
    case round =>
      obtain ⟨p, z, q, j, rfl, rfl, hh⟩ := hrel
      clear HL1
      obtain ⟨l, f, b, t, h⟩ := hh.out
      have hz := h.len
      have hsum := h.sum
      have hmn : mn ≤ 1048576 := by have := Hm.out; omega
      have E := fun v W hv => K'.out l v W (hok_small h.ok) hv
      rw [h.ok] at E
      have E' : Hid _ := E
      have HH : Hid _ := h
      clear h E hh
      go_wp2_with fail
      refine (E'.out _ _ (show DusW _ _ _ _ _ from HH.out.lies.1.1.1).at).mono ?_
      rintro e v1 ⟨rfl, q1⟩
      have HH1 : Hid (HpL w gL mn l (.slice p z q) z j b t f v1) := ⟨HH.out.ok, HH.out.len, HH.out.sum, HH.out.lt, HH.out.lies.below q1, HH.out.off, HH.out.gw⟩
      clear q1 HH E'
      by_cases hlt : 0 < z
      · have hlt' : (0 : Int) < (z : Int) := by omega
        have hmay : mayTake l = true := mayTake_iff.2 ⟨HH1.out.ok, by omega⟩
        have F := fun v W hv => T'.out l v W (hok_small HH1.out.ok) hv
        obtain ⟨g1, g2, g3, g4⟩ := take_yes hmay
        rw [hmay] at F
        clear hmay
        have g5 := HH1.out.lt _ g4
        clear g4
        generalize takeD l = e at F g3 g5
        generalize takeH l = R at F g1 g2 g3
        obtain ⟨e0, e1⟩ := e
        obtain ⟨f0, f1⟩ := f
        obtain ⟨rn, hrn⟩ : ∃ n, R.length = n := ⟨_, rfl⟩
        simp only [hrn] at F
        have hrz : (rn : Int) = (z : Int) - 1 := by omega
        have F' : Hid _ := F
        have G : Hid (hok R = true ∧ R.length = rn ∧ (∀ x ∈ R, (⟨e0, e1⟩ : Du).lt x)) := ⟨g1, hrn, g3⟩
        have hord : (f0 < e0 ∨ f0 = e0 ∧ f1 < e1) := g5
        clear F g1 g2 g3 g5 hrn
        go_wp2_with fail
        refine (F'.out _ _ (show DusW _ _ _ _ _ from HH1.out.lies.1.1.1).at).mono ?_
        rintro e v2 ⟨⟨rp, rq, rfl, i1⟩, q1⟩
        have B1 : Hid (Lies w [Thing.box gL #[.int .i64 f0, .int .i64 f1] 26, dT v1.heap.size v2.heap.size (.slice rp rn rq) R, Thing.box v2.heap.size #[.int .i64 e0, .int .i64 e1] 26] ((v2.alloc (.cells #[.int .i64 0, .int .i64 0] 26)).setRow v2.heap.size #[.int .i64 e0, .int .i64 e1])) := by
          have h1 : Lies w [Thing.box gL #[.int .i64 f0, .int .i64 f1] 26] v1 := ⟨⟨HH1.out.lies.1.2.1, trivial⟩, HH1.out.lies.2⟩
          have h2 : Lies w [Thing.box gL #[.int .i64 f0, .int .i64 f1] 26, dT v1.heap.size v2.heap.size (.slice rp rn rq) R] v2 := h1.more q1 ⟨⟨i1, Nat.le_refl _⟩, trivial⟩
          exact lies_var h2 _ _ _
        have O1 : Hid (gL < v1.heap.size ∧ w.heap.size ≤ gL ∧ v1.heap.size ≤ v2.heap.size) := ⟨(show Boxed _ _ _ _ from HH1.out.lies.1.2.1).under, HH1.out.gw, q1.size⟩
        have N : Hid (Boxed (v2.alloc (.cells #[.int .i64 0, .int .i64 0] 26)) v2.heap.size #[.int .i64 0, .int .i64 0] 26) := Boxed.new _ _ _
        clear q1 i1 HH1 F'
        go_upto_region 21 with (refine wpList_store_row rfl 26 (.tmp _) (.tmp _) rfl v2.heap.size #[.int .i64 e0, .int .i64 e1] rfl rfl _ _ N.out (by kernel_rfl) rfl (duOnes _ _) ?_)
        generalize (v2.alloc (.cells #[.int .i64 0, .int .i64 0] 26)).setRow v2.heap.size #[.int .i64 e0, .int .i64 e1] = v3 at B1 ⊢
        clear N
        generalize v2.heap.size = gE at B1 O1 ⊢
        have c0 : v3.cell? ⟨gL, 0, none⟩ = some (.int .i64 f0) := Boxed.cell (show Boxed _ _ _ _ from B1.out.1.1) 0 rfl
        have c1 : v3.cell? ⟨gL, 1, none⟩ = some (.int .i64 f1) := Boxed.cell (show Boxed _ _ _ _ from B1.out.1.1) 1 rfl
        have d0 : v3.cell? ⟨gE, 0, none⟩ = some (.int .i64 e0) := Boxed.cell (show Boxed _ _ _ _ from B1.out.1.2.2.1) 0 rfl
        have d1 : v3.cell? ⟨gE, 1, none⟩ = some (.int .i64 e1) := Boxed.cell (show Boxed _ _ _ _ from B1.out.1.2.2.1) 1 rfl
        have hne : ¬ e0 < f0 := by omega
        have hdne : decide (e0 < f0) = false := decide_eq_false hne
        have Fin : Hid (HpL w gL mn R (.slice rp rn rq) rn (j + 1) v1.heap.size gE ⟨e0, e1⟩ (v3.setRow gL #[.int .i64 e0, .int .i64 e1])) := by
          have o1 := O1.out
          have B := B1.out
          refine ⟨G.out.1, G.out.2.1, by omega, G.out.2.2, ⟨⟨⟨DusW.keep B.1.2.1.1 (by rw [size_setRow]; exact Nat.le_refl _) (fun k j1 j2 => setRow_other _ _ _ _ (by omega)), by rw [size_setRow]; exact B.1.2.1.2⟩, setRow_heap _ _ _ _ _ _ (show Boxed _ _ _ _ from B.1.1), trivial⟩, below_setRow B.2 o1.2.1 _⟩, .inr o1.1, o1.2.1⟩
        clear O1 G
        have hcase : (f0 < e0 ∧ (e0 == f0) = false) ∨ (e0 = f0 ∧ ¬ e1 ≤ f1) := by
          rcases hord with h | h
          · exact .inl ⟨h, by simpa using (by omega : ¬ e0 = f0)⟩
          · exact .inr ⟨h.1.symm, by omega⟩
        clear hord
        rcases hcase with ⟨h1, h2⟩ | ⟨rfl, h2⟩
        · go_wp2_with (first | (refine wpList_store_row rfl 26 (.tmp 16) (.tmp _) rfl gL #[.int .i64 e0, .int .i64 e1] rfl rfl _ _ (show Boxed _ _ _ _ from B1.out.1.1) (by kernel_rfl) rfl (duOnes _ _) ?_))
          go_roundw
          case rel => exact ⟨rp, rn, rq, j + 1, rfl, by go_num, ⟨_, _, _, _, Fin.out⟩⟩
          case measure => simp [intOf]; omega
        · have hd2 : decide (e1 ≤ f1) = false := decide_eq_false h2
          go_wp2_with (first | (refine wpList_store_row rfl 26 (.tmp 16) (.tmp _) rfl gL #[.int .i64 e0, .int .i64 e1] rfl rfl _ _ (show Boxed _ _ _ _ from B1.out.1.1) (by kernel_rfl) rfl (duOnes _ _) ?_))
          go_roundw
          case rel => exact ⟨rp, rn, rq, j + 1, rfl, by go_num, ⟨_, _, _, _, Fin.out⟩⟩
          case measure => simp [intOf]; omega
      · obtain rfl : z = 0 := by omega
        obtain rfl : j = mn := by omega
        have bl : Hid (Below w.heap.size w v1) := HH1.out.lies.2
        clear HH1
        go_wp2
        go_ret
        exact ⟨rfl, bl.out⟩
  · have e := HY.out.2 h
    have hyn := Hyn.out
    rw [e] at hyn
    subst h
    obtain rfl : yn = 0 := by simpa using hyn.symm
    have bl : Hid (Below w.heap.size w wc) := ZR.out.2
    clear ZR HY Hyn e hyn
    go_wp2
    go_ret
    exact ⟨rfl, bl.out⟩
end Go.Proofs.Ytkocbfikcjgigaa
