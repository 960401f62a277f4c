/-
  The walks of the program's table of choices and of its Choice. By the verifier.
-/
import Derived.Test.YtlednodibgcpeaaCoFair
import Derived.Test.YtlednodibgcpeaaStepRow
import Derived.Laws.ResultCell
import Derived.Laws.CopyOwn
namespace Go.Proofs.Ytlednodibgcpeaa
open Go.RowKit

theorem chOnes : (#[Value.bool true, .func (.func 10) #[] #[], .int .i64 1, .bool false, .func (.func 33) #[] #[], .int .i64 2] : Array Value).all (·.oneCell') = true := by simp [Value.oneCell']
theorem chOne1 (b : Bool) (f : Fn) (n : Int) : (#[Value.bool b, .func f #[] #[], .int .i64 n] : Array Value).all (·.oneCell') = true := by simp [Value.oneCell']

set_option maxHeartbeats 1600000 in
theorem implChoices (w : World) :
    Calls Try.prog 27 #[] w fun e w' => e = .returned (.agg #[.bool true, .func (.func 10) #[] #[], .int .i64 1, .bool false, .func (.func 33) #[] #[], .int .i64 2]) ∧ Below w.heap.size w w' := by
  have X : Hid (Boxed (w.alloc (.cells #[.bool false, .nilFunc, .int .i64 0, .bool false, .nilFunc, .int .i64 0] 42)) w.heap.size #[.bool false, .nilFunc, .int .i64 0, .bool false, .nilFunc, .int .i64 0] 42) := Boxed.new _ _ _
  go_enter Try.func27, Try.ntmps27
  go_wp2_with (refine wpList_store_row rfl 42 (.tmp 0) (.tmp 3) rfl w.heap.size #[Value.bool true, .func (.func 10) #[] #[], .int .i64 1, .bool false, .func (.func 33) #[] #[], .int .i64 2] rfl rfl _ _ X.out (by kernel_rfl) rfl chOnes ?_)
  exact bodyPost_ret (results_cell_row Try.results27 _ _ w.heap.size _ _ _ _ rfl (setRow_heap _ w.heap.size _ _ _ _ X.out) Try.underlying42 rfl (by kernel_rfl)) rfl ⟨rfl, below_setRow ((Below.refl _ _).alloc (Nat.le_refl _) _) (Nat.le_refl _) _⟩

/-- An operation that yields this value and leaves the world as it is. -/
theorem wpList_valC {P : Program} {ops : Array Oper} {rest : List Oper} {o : Oper} {a : Act} {w : World} {Q : Exit → Act → World → Prop} (hg : o.guard = none) (dst : Option Tmp) (hdst : o.dst = dst)
    (v : Value) (hrun : (execOp a.eval o).run P w = .ok (.value v) w) (h : wpList P ops Q rest (a.put dst v) w) : wpList P ops Q (o :: rest) a w := by
  subst hdst
  refine wpList_plain hg fun K hK => ?_
  unfold Oper.wp
  rw [hrun, Oper.upon_value]
  exact hK _ _ h

/-- What a round of Choice lays. -/
theorem chLay {w wr : World} (h : Below w.heap.size w wr) (cs cs' : Array Value) (t : TypeId) :
    Boxed (wr.alloc (.cells cs t)) wr.heap.size cs t ∧ Boxed ((wr.alloc (.cells cs t)).setRow wr.heap.size cs') wr.heap.size cs' t ∧ Below w.heap.size w ((wr.alloc (.cells cs t)).setRow wr.heap.size cs') :=
  ⟨Boxed.new _ _ _, setRow_heap _ _ _ _ _ _ (Boxed.new _ _ _), below_setRow (h.alloc h.size _) h.size _⟩

set_option maxHeartbeats 3200000 in
theorem implChoice (p f : Int) (g : Bool) (x : Int) (w : World) :
    Calls Try.prog 16 #[.int .i64 p, .int .i64 f, .bool g, .int .i64 x] w fun e w' => e = .returned (.int .i64 (chO p f g x)) ∧ Below w.heap.size w w' := by
  have A1 := fun w => implCoupleOk p f w
  have A2 := fun B w h => implUpTo1 1048575 x w B h
  have A3 := fun w => implChoices w
  have A4 := fun w => implCoupled p f w
  have A5 := fun w => implSqAlone p f w
  have Hv : Hid (chO p f g x = if (coB p f && inB 0 1048575 x) = true then (if g = true then (if x < cpO p f then 1 else 0) else (if x < sqO p then 2 else 0)) else 3) := by
    show chO p f g x = _
    unfold chO
    by_cases h : (coB p f && inB 0 1048575 x) = true
    · rw [if_pos h, if_pos h]
      rw [Bool.and_eq_true] at h
      have h1 := coB_iff.1 h.1
      have e : cpO p f = cpV p f := by unfold cpO; rw [if_pos h.1]
      have hs : sqO p = p * p / 1048576 := by unfold sqO; rw [if_pos (by rw [inB_true]; exact h1.1)]
      rw [e, hs]
    · rw [if_neg h, if_neg h]
  generalize chO p f g x = F at Hv ⊢
  generalize coB p f = b at A1 Hv
  generalize inB 0 1048575 x = d at A2 Hv
  generalize cpO p f = c at A4 Hv
  generalize sqO p = s at A5 Hv
  have A1' : Hid _ := A1
  have A2' : Hid _ := A2
  have A3' : Hid _ := A3
  have A4' : Hid _ := A4
  have A5' : Hid _ := A5
  clear A1 A2 A3 A4 A5
  go_enter Try.func16, Try.ntmps16
  go_wp2_with fail
  refine (A1'.out _).mono ?_
  rintro e w1 ⟨rfl, q1⟩
  have Q1 : Hid (Below w.heap.size w w1) := q1
  clear q1 A1'
  cases b
  · go_wp2
    go_ret
    exact ⟨ret_num (by rw [Hv.out]; rfl), Q1.out⟩
  go_wp2_with fail
  refine (A2'.out _ _ (by simp)).mono ?_
  rintro e w2 ⟨rfl, rfl⟩
  have Q2 : Hid (Below w.heap.size w (w1.alloc (.cells #[.int .i64 x] 2))) := Q1.out.alloc Q1.out.size _
  generalize w1.alloc (.cells #[.int .i64 x] 2) = w2 at Q2 ⊢
  clear Q1 A2'
  cases d
  · go_wp2
    go_ret
    exact ⟨ret_num (by rw [Hv.out]; rfl), Q2.out⟩
  go_wp2_with fail
  refine (A3'.out _).mono ?_
  rintro e w3 ⟨rfl, q3⟩
  have Q3 : Hid (Below w.heap.size w w3) := Q2.out.trans (q3.mono Q2.out.size)
  clear q3 Q2 A3'
  cases g
  · go_wp2_with fail
    go_loopw [22] (fun i wr => ∃ z : Int, (z = 0 ∨ z = 1 ∨ (z = 2 ∧ ¬ x < s)) ∧ i = .int .i64 z ∧ Hid (Below w.heap.size w wr)) (fun i _ => 3 - (intOf i).toNat)
    case atStart => exact ⟨0, by simp, rfl, Q3.out⟩
    case round =>
      obtain ⟨z, hz, rfl, Q⟩ := hrel
      clear Q3
      rcases hz with rfl | rfl | ⟨rfl, hx⟩
      · have L : Hid _ := chLay Q.out #[.bool false, .nilFunc, .int .i64 0] #[.bool true, .func (.func 10) #[] #[], .int .i64 1] 41
        have c0 : ((wr.alloc (.cells #[.bool false, .nilFunc, .int .i64 0] 41)).setRow wr.heap.size #[.bool true, .func (.func 10) #[] #[], .int .i64 1]).cell? ⟨wr.heap.size, 0, none⟩ = some (.bool true) := L.out.2.1.cell 0 rfl
        go_wp2_with (first | (refine wpList_valC rfl (some 24) rfl (.agg #[.bool true, .func (.func 10) #[] #[], .int .i64 1]) (by kernel_rfl) ?_) | (refine wpList_store_row rfl 41 (.tmp 10) (.tmp 24) rfl wr.heap.size #[.bool true, .func (.func 10) #[] #[], .int .i64 1] rfl rfl _ _ L.out.1 (by kernel_rfl) rfl (chOne1 _ _ _) ?_))
        go_roundw
        case rel => exact ⟨1, by simp, rfl, L.out.2.2⟩
        case measure => simp [intOf]
      · have L : Hid _ := chLay Q.out #[.bool false, .nilFunc, .int .i64 0] #[.bool false, .func (.func 33) #[] #[], .int .i64 2] 41
        have c0 : ((wr.alloc (.cells #[.bool false, .nilFunc, .int .i64 0] 41)).setRow wr.heap.size #[.bool false, .func (.func 33) #[] #[], .int .i64 2]).cell? ⟨wr.heap.size, 0, none⟩ = some (.bool false) := L.out.2.1.cell 0 rfl
        have c1 : ((wr.alloc (.cells #[.bool false, .nilFunc, .int .i64 0] 41)).setRow wr.heap.size #[.bool false, .func (.func 33) #[] #[], .int .i64 2]).cell? ⟨wr.heap.size, 1, none⟩ = some (.func (.func 33) #[] #[]) := L.out.2.1.cell 1 rfl
        go_wp2_with (first | (refine wpList_valC rfl (some 24) rfl (.agg #[.bool false, .func (.func 33) #[] #[], .int .i64 2]) (by kernel_rfl) ?_) | (refine wpList_store_row rfl 41 (.tmp 10) (.tmp 24) rfl wr.heap.size #[.bool false, .func (.func 33) #[] #[], .int .i64 2] rfl rfl _ _ L.out.1 (by kernel_rfl) rfl (chOne1 _ _ _) ?_))
        refine (A5'.out _).mono ?_
        rintro e w4 ⟨rfl, q4⟩
        have Q4 : Hid (Below w.heap.size w w4) := L.out.2.2.trans (q4.mono L.out.2.2.size)
        have c2 : w4.cell? ⟨wr.heap.size, 2, none⟩ = some (.int .i64 2) := (L.out.2.1.below L.out.2.1.under q4).cell 2 rfl
        clear q4 L c0 c1
        by_cases hx : x < s
        · go_wp2
          go_ret
          exact ⟨ret_num (by rw [Hv.out]; simp [hx]), Q4.out⟩
        · go_wp2
          go_roundw
          case rel => exact ⟨2, by simp; omega, rfl, Q4.out⟩
          case measure => simp [intOf]
      · go_wp2
        go_ret
        exact ⟨ret_num (by rw [Hv.out]; simp [hx]), Q.out⟩
  · go_wp2_with fail
    go_loopw [22] (fun i wr => ∃ z : Int, (z = 0 ∨ (z = 1 ∧ ¬ x < c) ∨ (z = 2 ∧ ¬ x < c)) ∧ i = .int .i64 z ∧ Hid (Below w.heap.size w wr)) (fun i _ => 3 - (intOf i).toNat)
    case atStart => exact ⟨0, by simp, rfl, Q3.out⟩
    case round =>
      obtain ⟨z, hz, rfl, Q⟩ := hrel
      clear Q3
      rcases hz with rfl | ⟨rfl, hx⟩ | ⟨rfl, hx⟩
      · have L : Hid _ := chLay Q.out #[.bool false, .nilFunc, .int .i64 0] #[.bool true, .func (.func 10) #[] #[], .int .i64 1] 41
        have c0 : ((wr.alloc (.cells #[.bool false, .nilFunc, .int .i64 0] 41)).setRow wr.heap.size #[.bool true, .func (.func 10) #[] #[], .int .i64 1]).cell? ⟨wr.heap.size, 0, none⟩ = some (.bool true) := L.out.2.1.cell 0 rfl
        have c1 : ((wr.alloc (.cells #[.bool false, .nilFunc, .int .i64 0] 41)).setRow wr.heap.size #[.bool true, .func (.func 10) #[] #[], .int .i64 1]).cell? ⟨wr.heap.size, 1, none⟩ = some (.func (.func 10) #[] #[]) := L.out.2.1.cell 1 rfl
        go_wp2_with (first | (refine wpList_valC rfl (some 24) rfl (.agg #[.bool true, .func (.func 10) #[] #[], .int .i64 1]) (by kernel_rfl) ?_) | (refine wpList_store_row rfl 41 (.tmp 10) (.tmp 24) rfl wr.heap.size #[.bool true, .func (.func 10) #[] #[], .int .i64 1] rfl rfl _ _ L.out.1 (by kernel_rfl) rfl (chOne1 _ _ _) ?_))
        refine (A4'.out _).mono ?_
        rintro e w4 ⟨rfl, q4⟩
        have Q4 : Hid (Below w.heap.size w w4) := L.out.2.2.trans (q4.mono L.out.2.2.size)
        have c2 : w4.cell? ⟨wr.heap.size, 2, none⟩ = some (.int .i64 1) := (L.out.2.1.below L.out.2.1.under q4).cell 2 rfl
        clear q4 L c0 c1
        by_cases hx : x < c
        · go_wp2
          go_ret
          exact ⟨ret_num (by rw [Hv.out]; simp [hx]), Q4.out⟩
        · go_wp2
          go_roundw
          case rel => exact ⟨1, by simp; omega, rfl, Q4.out⟩
          case measure => simp [intOf]
      · have L : Hid _ := chLay Q.out #[.bool false, .nilFunc, .int .i64 0] #[.bool false, .func (.func 33) #[] #[], .int .i64 2] 41
        have c0 : ((wr.alloc (.cells #[.bool false, .nilFunc, .int .i64 0] 41)).setRow wr.heap.size #[.bool false, .func (.func 33) #[] #[], .int .i64 2]).cell? ⟨wr.heap.size, 0, none⟩ = some (.bool false) := L.out.2.1.cell 0 rfl
        go_wp2_with (first | (refine wpList_valC rfl (some 24) rfl (.agg #[.bool false, .func (.func 33) #[] #[], .int .i64 2]) (by kernel_rfl) ?_) | (refine wpList_store_row rfl 41 (.tmp 10) (.tmp 24) rfl wr.heap.size #[.bool false, .func (.func 33) #[] #[], .int .i64 2] rfl rfl _ _ L.out.1 (by kernel_rfl) rfl (chOne1 _ _ _) ?_))
        go_roundw
        case rel => exact ⟨2, by simp; omega, rfl, L.out.2.2⟩
        case measure => simp [intOf]
      · go_wp2
        go_ret
        exact ⟨ret_num (by rw [Hv.out]; simp [hx]), Q.out⟩
end Go.Proofs.Ytlednodibgcpeaa
