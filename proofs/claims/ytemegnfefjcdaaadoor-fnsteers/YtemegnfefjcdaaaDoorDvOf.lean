/-
  The walk of the program's divisorOf, the table of divisors given. By the verifier, by program.
-/
import Derived.Test.YtemegnfefjcdaaaDoorDvImpl
namespace Go.Proofs.YtemegnfefjcdaaaDoor
open Go.RowKit

/-- What a round of divisorOf finds. -/
structure DvL (w W : World) (S : Nat) (b0 b1 b2 b3 : Bool) (wr : World) : Prop where
  bel : Below w.heap.size w wr
  box : Boxed wr S #[.bool b0, .bool b1, .bool b2, .bool b3] 57
theorem DvL.grow {w W : World} {S : Nat} {b0 b1 b2 b3 : Bool} {wr : World} (h : DvL w W S b0 b1 b2 b3 wr) (cs cs' : Array Value) (t : TypeId) : DvL w W S b0 b1 b2 b3 ((wr.alloc (.cells cs t)).setRow wr.heap.size cs') :=
  ⟨below_setRow (h.bel.alloc h.bel.size _) h.bel.size _, (setRow_other _ _ _ _ (by have := h.box.under; omega)).trans (h.box.more _)⟩
/-- An operation that yields this value and leaves the world as it is. -/
theorem wpList_val {P : Program} {ops : Array Oper} {rest : List Oper} {o : Oper} {a : Act} {w : World} {Q : Exit → Act → World → Prop} (hg : o.guard = none) (dst : Option Tmp) (hdst : o.dst = dst)
    (v : Value) (hrun : (execOp a.eval o).run P w = .ok (.value v) w) (h : wpList P ops Q rest (a.put dst v) w) : wpList P ops Q (o :: rest) a w := by
  subst hdst
  refine wpList_plain hg fun K hK => ?_
  unfold Oper.wp
  rw [hrun, Oper.upon_value]
  exact hK _ _ h
theorem dvRange {w : World} {B : Nat} {b0 b1 b2 b3 : Bool} {n : Int} {t : TypeId} (h : Boxed w B #[.bool b0, .bool b1, .bool b2, .bool b3, .int .i64 n] t) : w.rangeAt B 0 [.bool b0, .bool b1, .bool b2, .bool b3] := by
  intro j v hv
  rw [Nat.zero_add]
  refine h.cell j ?_
  match j, hv with
  | 0, hv => simpa using hv
  | 1, hv => simpa using hv
  | 2, hv => simpa using hv
  | 3, hv => simpa using hv
  | j + 4, hv => simp at hv

set_option maxHeartbeats 3200000 in
set_option maxRecDepth 100000 in
theorem implDivisorOf (x : Int) (w : World) (hD : Dv w) :
    Calls Tryd.prog 32 #[.int .i64 x] w fun e w' => e = .returned (.int .i64 (byOf x)) ∧ Below w.heap.size w w' := by
  have C := fun w => implBelowOf x w
  have HB : Hid (byOf x = if x < 1048 then 2048 else if x < 10485 then 512 else if x < 104857 then 128 else if x < 262144 then 32 else 1) := rfl
  generalize byOf x = B at HB ⊢
  have main : (B = 2048 ∧ decide (x < 1048) = true ∧ decide (x < 10485) = true ∧ decide (x < 104857) = true ∧ decide (x < 262144) = true) ∨ (B = 512 ∧ decide (x < 1048) = false ∧ decide (x < 10485) = true ∧ decide (x < 104857) = true ∧ decide (x < 262144) = true) ∨ (B = 128 ∧ decide (x < 1048) = false ∧ decide (x < 10485) = false ∧ decide (x < 104857) = true ∧ decide (x < 262144) = true) ∨ (B = 32 ∧ decide (x < 1048) = false ∧ decide (x < 10485) = false ∧ decide (x < 104857) = false ∧ decide (x < 262144) = true) ∨ (B = 1 ∧ decide (x < 1048) = false ∧ decide (x < 10485) = false ∧ decide (x < 104857) = false ∧ decide (x < 262144) = false) := by
    have h := HB.out
    simp only [decide_eq_true_eq, decide_eq_false_iff_not]
    rw [h]
    split
    · omega
    split
    · omega
    split
    · omega
    split <;> omega
  generalize decide (x < 1048) = b0 at C main
  generalize decide (x < 10485) = b1 at C main
  generalize decide (x < 104857) = b2 at C main
  generalize decide (x < 262144) = b3 at C main
  clear HB
  have C' : Hid _ := C
  have HD : Hid (Dv w) := hD
  clear C hD
  rcases main with ⟨rfl, rfl, rfl, rfl, rfl⟩ | ⟨rfl, rfl, rfl, rfl, rfl⟩ | ⟨rfl, rfl, rfl, rfl, rfl⟩ | ⟨rfl, rfl, rfl, rfl, rfl⟩ | ⟨rfl, rfl, rfl, rfl, rfl⟩
  · go_enter Tryd.func32, Tryd.ntmps32
    go_wp2_with fail
    refine (C'.out _).mono ?_
    rintro e w1 ⟨rfl, q⟩
    have Z : Hid (Boxed (w1.alloc (.cells #[.bool false, .bool false, .bool false, .bool false] 57)) w1.heap.size #[.bool false, .bool false, .bool false, .bool false] 57) := Boxed.new _ _ _
    have L : Hid (DvL w w1 w1.heap.size true true true true ((w1.alloc (.cells #[.bool false, .bool false, .bool false, .bool false] 57)).setRow w1.heap.size #[.bool true, .bool true, .bool true, .bool true])) := ⟨below_setRow (q.alloc q.size _) q.size _, setRow_heap _ _ _ _ _ _ Z.out⟩
    obtain ⟨t, hT⟩ := HD.out.on L.out.bel
    have HT : Hid (Boxed ((w1.alloc (.cells #[.bool false, .bool false, .bool false, .bool false] 57)).setRow w1.heap.size #[.bool true, .bool true, .bool true, .bool true]) 0 dvCells t) := hT
    clear hT q HD
    simp only [dvCells] at HT
    go_wp2_with (first | (refine wpList_store_row rfl 57 (.tmp 3) (.tmp 7) rfl w1.heap.size #[.bool true, .bool true, .bool true, .bool true] rfl rfl _ _ Z.out (by kernel_rfl) rfl (bwOnes _ _ _ _) ?_) | (refine wpList_load_row rfl 61 (.global 0) rfl 0 rfl _ _ _ _ HT.out Tryd.underlying61 rfl (by kernel_rfl) ?_))
    clear Z HT
    generalize w1.heap.size = S at L ⊢
    generalize ((w1.alloc (.cells #[.bool false, .bool false, .bool false, .bool false] 57)).setRow S #[.bool true, .bool true, .bool true, .bool true]) = W at L ⊢
    go_loopw [9] (fun i wr => ∃ z : Int, (z = 0) ∧ i = .int .i64 z ∧ Hid (DvL w w1 S true true true true wr)) (fun i _ => 4 - (intOf i).toNat)
    case atStart => exact ⟨0, by simp, rfl, L.out⟩
    case round =>
      obtain ⟨z, hz, rfl, HL⟩ := hrel
      clear L
      subst hz
      · have N : Hid (Boxed (wr.alloc (.cells #[.bool false, .bool false, .bool false, .bool false, .int .i64 0] 60)) wr.heap.size #[.bool false, .bool false, .bool false, .bool false, .int .i64 0] 60) := Boxed.new _ _ _
        have V : Hid (DvL w w1 S true true true true ((wr.alloc (.cells #[.bool false, .bool false, .bool false, .bool false, .int .i64 0] 60)).setRow wr.heap.size #[.bool true, .bool true, .bool true, .bool true, .int .i64 2048]) ∧ Boxed ((wr.alloc (.cells #[.bool false, .bool false, .bool false, .bool false, .int .i64 0] 60)).setRow wr.heap.size #[.bool true, .bool true, .bool true, .bool true, .int .i64 2048]) wr.heap.size #[.bool true, .bool true, .bool true, .bool true, .int .i64 2048] 60) := ⟨HL.out.grow _ _ _, setRow_heap _ _ _ _ _ _ N.out⟩
        have c4 : (((wr.alloc (.cells #[.bool false, .bool false, .bool false, .bool false, .int .i64 0] 60)).setRow wr.heap.size #[.bool true, .bool true, .bool true, .bool true, .int .i64 2048])).cell? ⟨wr.heap.size, 4, none⟩ = some (.int .i64 2048) := V.out.2.cell 4 rfl
        go_wp2_with (first | (refine wpList_val rfl (some 11) rfl (.agg #[.bool true, .bool true, .bool true, .bool true, .int .i64 2048]) (by kernel_rfl) ?_) | (refine wpList_val rfl (some 15) rfl (.bool true) (by kernel_rfl) ?_) | (refine wpList_store_row rfl 60 (.tmp 5) (.tmp 11) rfl wr.heap.size #[.bool true, .bool true, .bool true, .bool true, .int .i64 2048] rfl rfl _ _ N.out (by kernel_rfl) rfl (dvOnes _ _ _ _ _) ?_) | (refine wpList_load_mid rfl 57 (.tmp 12) rfl wr.heap.size 0 rfl [Value.bool true, Value.bool true, Value.bool true, Value.bool true] _ (dvRange V.out.2) Tryd.underlying57 rfl (by kernel_rfl) ?_) | (refine wpList_load_row rfl 57 (.tmp 3) rfl S rfl _ _ _ _ V.out.1.box Tryd.underlying57 rfl (by kernel_rfl) ?_))
        go_ret
        exact ⟨rfl, V.out.1.bel⟩
  · go_enter Tryd.func32, Tryd.ntmps32
    go_wp2_with fail
    refine (C'.out _).mono ?_
    rintro e w1 ⟨rfl, q⟩
    have Z : Hid (Boxed (w1.alloc (.cells #[.bool false, .bool false, .bool false, .bool false] 57)) w1.heap.size #[.bool false, .bool false, .bool false, .bool false] 57) := Boxed.new _ _ _
    have L : Hid (DvL w w1 w1.heap.size false true true true ((w1.alloc (.cells #[.bool false, .bool false, .bool false, .bool false] 57)).setRow w1.heap.size #[.bool false, .bool true, .bool true, .bool true])) := ⟨below_setRow (q.alloc q.size _) q.size _, setRow_heap _ _ _ _ _ _ Z.out⟩
    obtain ⟨t, hT⟩ := HD.out.on L.out.bel
    have HT : Hid (Boxed ((w1.alloc (.cells #[.bool false, .bool false, .bool false, .bool false] 57)).setRow w1.heap.size #[.bool false, .bool true, .bool true, .bool true]) 0 dvCells t) := hT
    clear hT q HD
    simp only [dvCells] at HT
    go_wp2_with (first | (refine wpList_store_row rfl 57 (.tmp 3) (.tmp 7) rfl w1.heap.size #[.bool false, .bool true, .bool true, .bool true] rfl rfl _ _ Z.out (by kernel_rfl) rfl (bwOnes _ _ _ _) ?_) | (refine wpList_load_row rfl 61 (.global 0) rfl 0 rfl _ _ _ _ HT.out Tryd.underlying61 rfl (by kernel_rfl) ?_))
    clear Z HT
    generalize w1.heap.size = S at L ⊢
    generalize ((w1.alloc (.cells #[.bool false, .bool false, .bool false, .bool false] 57)).setRow S #[.bool false, .bool true, .bool true, .bool true]) = W at L ⊢
    go_loopw [9] (fun i wr => ∃ z : Int, (z = 0 ∨ z = 1) ∧ i = .int .i64 z ∧ Hid (DvL w w1 S false true true true wr)) (fun i _ => 4 - (intOf i).toNat)
    case atStart => exact ⟨0, by simp, rfl, L.out⟩
    case round =>
      obtain ⟨z, hz, rfl, HL⟩ := hrel
      clear L
      rcases hz with rfl | rfl
      · have N : Hid (Boxed (wr.alloc (.cells #[.bool false, .bool false, .bool false, .bool false, .int .i64 0] 60)) wr.heap.size #[.bool false, .bool false, .bool false, .bool false, .int .i64 0] 60) := Boxed.new _ _ _
        have V : Hid (DvL w w1 S false true true true ((wr.alloc (.cells #[.bool false, .bool false, .bool false, .bool false, .int .i64 0] 60)).setRow wr.heap.size #[.bool true, .bool true, .bool true, .bool true, .int .i64 2048]) ∧ Boxed ((wr.alloc (.cells #[.bool false, .bool false, .bool false, .bool false, .int .i64 0] 60)).setRow wr.heap.size #[.bool true, .bool true, .bool true, .bool true, .int .i64 2048]) wr.heap.size #[.bool true, .bool true, .bool true, .bool true, .int .i64 2048] 60) := ⟨HL.out.grow _ _ _, setRow_heap _ _ _ _ _ _ N.out⟩
        have c4 : (((wr.alloc (.cells #[.bool false, .bool false, .bool false, .bool false, .int .i64 0] 60)).setRow wr.heap.size #[.bool true, .bool true, .bool true, .bool true, .int .i64 2048])).cell? ⟨wr.heap.size, 4, none⟩ = some (.int .i64 2048) := V.out.2.cell 4 rfl
        go_wp2_with (first | (refine wpList_val rfl (some 11) rfl (.agg #[.bool true, .bool true, .bool true, .bool true, .int .i64 2048]) (by kernel_rfl) ?_) | (refine wpList_val rfl (some 15) rfl (.bool false) (by kernel_rfl) ?_) | (refine wpList_store_row rfl 60 (.tmp 5) (.tmp 11) rfl wr.heap.size #[.bool true, .bool true, .bool true, .bool true, .int .i64 2048] rfl rfl _ _ N.out (by kernel_rfl) rfl (dvOnes _ _ _ _ _) ?_) | (refine wpList_load_mid rfl 57 (.tmp 12) rfl wr.heap.size 0 rfl [Value.bool true, Value.bool true, Value.bool true, Value.bool true] _ (dvRange V.out.2) Tryd.underlying57 rfl (by kernel_rfl) ?_) | (refine wpList_load_row rfl 57 (.tmp 3) rfl S rfl _ _ _ _ V.out.1.box Tryd.underlying57 rfl (by kernel_rfl) ?_))
        go_roundw
        case rel => exact ⟨1, by simp, rfl, V.out.1⟩
        case measure => simp [intOf]
      · have N : Hid (Boxed (wr.alloc (.cells #[.bool false, .bool false, .bool false, .bool false, .int .i64 0] 60)) wr.heap.size #[.bool false, .bool false, .bool false, .bool false, .int .i64 0] 60) := Boxed.new _ _ _
        have V : Hid (DvL w w1 S false true true true ((wr.alloc (.cells #[.bool false, .bool false, .bool false, .bool false, .int .i64 0] 60)).setRow wr.heap.size #[.bool false, .bool true, .bool true, .bool true, .int .i64 512]) ∧ Boxed ((wr.alloc (.cells #[.bool false, .bool false, .bool false, .bool false, .int .i64 0] 60)).setRow wr.heap.size #[.bool false, .bool true, .bool true, .bool true, .int .i64 512]) wr.heap.size #[.bool false, .bool true, .bool true, .bool true, .int .i64 512] 60) := ⟨HL.out.grow _ _ _, setRow_heap _ _ _ _ _ _ N.out⟩
        have c4 : (((wr.alloc (.cells #[.bool false, .bool false, .bool false, .bool false, .int .i64 0] 60)).setRow wr.heap.size #[.bool false, .bool true, .bool true, .bool true, .int .i64 512])).cell? ⟨wr.heap.size, 4, none⟩ = some (.int .i64 512) := V.out.2.cell 4 rfl
        go_wp2_with (first | (refine wpList_val rfl (some 11) rfl (.agg #[.bool false, .bool true, .bool true, .bool true, .int .i64 512]) (by kernel_rfl) ?_) | (refine wpList_val rfl (some 15) rfl (.bool true) (by kernel_rfl) ?_) | (refine wpList_store_row rfl 60 (.tmp 5) (.tmp 11) rfl wr.heap.size #[.bool false, .bool true, .bool true, .bool true, .int .i64 512] rfl rfl _ _ N.out (by kernel_rfl) rfl (dvOnes _ _ _ _ _) ?_) | (refine wpList_load_mid rfl 57 (.tmp 12) rfl wr.heap.size 0 rfl [Value.bool false, Value.bool true, Value.bool true, Value.bool true] _ (dvRange V.out.2) Tryd.underlying57 rfl (by kernel_rfl) ?_) | (refine wpList_load_row rfl 57 (.tmp 3) rfl S rfl _ _ _ _ V.out.1.box Tryd.underlying57 rfl (by kernel_rfl) ?_))
        go_ret
        exact ⟨rfl, V.out.1.bel⟩
  · go_enter Tryd.func32, Tryd.ntmps32
    go_wp2_with fail
    refine (C'.out _).mono ?_
    rintro e w1 ⟨rfl, q⟩
    have Z : Hid (Boxed (w1.alloc (.cells #[.bool false, .bool false, .bool false, .bool false] 57)) w1.heap.size #[.bool false, .bool false, .bool false, .bool false] 57) := Boxed.new _ _ _
    have L : Hid (DvL w w1 w1.heap.size false false true true ((w1.alloc (.cells #[.bool false, .bool false, .bool false, .bool false] 57)).setRow w1.heap.size #[.bool false, .bool false, .bool true, .bool true])) := ⟨below_setRow (q.alloc q.size _) q.size _, setRow_heap _ _ _ _ _ _ Z.out⟩
    obtain ⟨t, hT⟩ := HD.out.on L.out.bel
    have HT : Hid (Boxed ((w1.alloc (.cells #[.bool false, .bool false, .bool false, .bool false] 57)).setRow w1.heap.size #[.bool false, .bool false, .bool true, .bool true]) 0 dvCells t) := hT
    clear hT q HD
    simp only [dvCells] at HT
    go_wp2_with (first | (refine wpList_store_row rfl 57 (.tmp 3) (.tmp 7) rfl w1.heap.size #[.bool false, .bool false, .bool true, .bool true] rfl rfl _ _ Z.out (by kernel_rfl) rfl (bwOnes _ _ _ _) ?_) | (refine wpList_load_row rfl 61 (.global 0) rfl 0 rfl _ _ _ _ HT.out Tryd.underlying61 rfl (by kernel_rfl) ?_))
    clear Z HT
    generalize w1.heap.size = S at L ⊢
    generalize ((w1.alloc (.cells #[.bool false, .bool false, .bool false, .bool false] 57)).setRow S #[.bool false, .bool false, .bool true, .bool true]) = W at L ⊢
    go_loopw [9] (fun i wr => ∃ z : Int, (z = 0 ∨ z = 1 ∨ z = 2) ∧ i = .int .i64 z ∧ Hid (DvL w w1 S false false true true wr)) (fun i _ => 4 - (intOf i).toNat)
    case atStart => exact ⟨0, by simp, rfl, L.out⟩
    case round =>
      obtain ⟨z, hz, rfl, HL⟩ := hrel
      clear L
      rcases hz with rfl | rfl | rfl
      · have N : Hid (Boxed (wr.alloc (.cells #[.bool false, .bool false, .bool false, .bool false, .int .i64 0] 60)) wr.heap.size #[.bool false, .bool false, .bool false, .bool false, .int .i64 0] 60) := Boxed.new _ _ _
        have V : Hid (DvL w w1 S false false true true ((wr.alloc (.cells #[.bool false, .bool false, .bool false, .bool false, .int .i64 0] 60)).setRow wr.heap.size #[.bool true, .bool true, .bool true, .bool true, .int .i64 2048]) ∧ Boxed ((wr.alloc (.cells #[.bool false, .bool false, .bool false, .bool false, .int .i64 0] 60)).setRow wr.heap.size #[.bool true, .bool true, .bool true, .bool true, .int .i64 2048]) wr.heap.size #[.bool true, .bool true, .bool true, .bool true, .int .i64 2048] 60) := ⟨HL.out.grow _ _ _, setRow_heap _ _ _ _ _ _ N.out⟩
        have c4 : (((wr.alloc (.cells #[.bool false, .bool false, .bool false, .bool false, .int .i64 0] 60)).setRow wr.heap.size #[.bool true, .bool true, .bool true, .bool true, .int .i64 2048])).cell? ⟨wr.heap.size, 4, none⟩ = some (.int .i64 2048) := V.out.2.cell 4 rfl
        go_wp2_with (first | (refine wpList_val rfl (some 11) rfl (.agg #[.bool true, .bool true, .bool true, .bool true, .int .i64 2048]) (by kernel_rfl) ?_) | (refine wpList_val rfl (some 15) rfl (.bool false) (by kernel_rfl) ?_) | (refine wpList_store_row rfl 60 (.tmp 5) (.tmp 11) rfl wr.heap.size #[.bool true, .bool true, .bool true, .bool true, .int .i64 2048] rfl rfl _ _ N.out (by kernel_rfl) rfl (dvOnes _ _ _ _ _) ?_) | (refine wpList_load_mid rfl 57 (.tmp 12) rfl wr.heap.size 0 rfl [Value.bool true, Value.bool true, Value.bool true, Value.bool true] _ (dvRange V.out.2) Tryd.underlying57 rfl (by kernel_rfl) ?_) | (refine wpList_load_row rfl 57 (.tmp 3) rfl S rfl _ _ _ _ V.out.1.box Tryd.underlying57 rfl (by kernel_rfl) ?_))
        go_roundw
        case rel => exact ⟨1, by simp, rfl, V.out.1⟩
        case measure => simp [intOf]
      · have N : Hid (Boxed (wr.alloc (.cells #[.bool false, .bool false, .bool false, .bool false, .int .i64 0] 60)) wr.heap.size #[.bool false, .bool false, .bool false, .bool false, .int .i64 0] 60) := Boxed.new _ _ _
        have V : Hid (DvL w w1 S false false true true ((wr.alloc (.cells #[.bool false, .bool false, .bool false, .bool false, .int .i64 0] 60)).setRow wr.heap.size #[.bool false, .bool true, .bool true, .bool true, .int .i64 512]) ∧ Boxed ((wr.alloc (.cells #[.bool false, .bool false, .bool false, .bool false, .int .i64 0] 60)).setRow wr.heap.size #[.bool false, .bool true, .bool true, .bool true, .int .i64 512]) wr.heap.size #[.bool false, .bool true, .bool true, .bool true, .int .i64 512] 60) := ⟨HL.out.grow _ _ _, setRow_heap _ _ _ _ _ _ N.out⟩
        have c4 : (((wr.alloc (.cells #[.bool false, .bool false, .bool false, .bool false, .int .i64 0] 60)).setRow wr.heap.size #[.bool false, .bool true, .bool true, .bool true, .int .i64 512])).cell? ⟨wr.heap.size, 4, none⟩ = some (.int .i64 512) := V.out.2.cell 4 rfl
        go_wp2_with (first | (refine wpList_val rfl (some 11) rfl (.agg #[.bool false, .bool true, .bool true, .bool true, .int .i64 512]) (by kernel_rfl) ?_) | (refine wpList_val rfl (some 15) rfl (.bool false) (by kernel_rfl) ?_) | (refine wpList_store_row rfl 60 (.tmp 5) (.tmp 11) rfl wr.heap.size #[.bool false, .bool true, .bool true, .bool true, .int .i64 512] rfl rfl _ _ N.out (by kernel_rfl) rfl (dvOnes _ _ _ _ _) ?_) | (refine wpList_load_mid rfl 57 (.tmp 12) rfl wr.heap.size 0 rfl [Value.bool false, Value.bool true, Value.bool true, Value.bool true] _ (dvRange V.out.2) Tryd.underlying57 rfl (by kernel_rfl) ?_) | (refine wpList_load_row rfl 57 (.tmp 3) rfl S rfl _ _ _ _ V.out.1.box Tryd.underlying57 rfl (by kernel_rfl) ?_))
        go_roundw
        case rel => exact ⟨2, by simp, rfl, V.out.1⟩
        case measure => simp [intOf]
      · have N : Hid (Boxed (wr.alloc (.cells #[.bool false, .bool false, .bool false, .bool false, .int .i64 0] 60)) wr.heap.size #[.bool false, .bool false, .bool false, .bool false, .int .i64 0] 60) := Boxed.new _ _ _
        have V : Hid (DvL w w1 S false false true true ((wr.alloc (.cells #[.bool false, .bool false, .bool false, .bool false, .int .i64 0] 60)).setRow wr.heap.size #[.bool false, .bool false, .bool true, .bool true, .int .i64 128]) ∧ Boxed ((wr.alloc (.cells #[.bool false, .bool false, .bool false, .bool false, .int .i64 0] 60)).setRow wr.heap.size #[.bool false, .bool false, .bool true, .bool true, .int .i64 128]) wr.heap.size #[.bool false, .bool false, .bool true, .bool true, .int .i64 128] 60) := ⟨HL.out.grow _ _ _, setRow_heap _ _ _ _ _ _ N.out⟩
        have c4 : (((wr.alloc (.cells #[.bool false, .bool false, .bool false, .bool false, .int .i64 0] 60)).setRow wr.heap.size #[.bool false, .bool false, .bool true, .bool true, .int .i64 128])).cell? ⟨wr.heap.size, 4, none⟩ = some (.int .i64 128) := V.out.2.cell 4 rfl
        go_wp2_with (first | (refine wpList_val rfl (some 11) rfl (.agg #[.bool false, .bool false, .bool true, .bool true, .int .i64 128]) (by kernel_rfl) ?_) | (refine wpList_val rfl (some 15) rfl (.bool true) (by kernel_rfl) ?_) | (refine wpList_store_row rfl 60 (.tmp 5) (.tmp 11) rfl wr.heap.size #[.bool false, .bool false, .bool true, .bool true, .int .i64 128] rfl rfl _ _ N.out (by kernel_rfl) rfl (dvOnes _ _ _ _ _) ?_) | (refine wpList_load_mid rfl 57 (.tmp 12) rfl wr.heap.size 0 rfl [Value.bool false, Value.bool false, Value.bool true, Value.bool true] _ (dvRange V.out.2) Tryd.underlying57 rfl (by kernel_rfl) ?_) | (refine wpList_load_row rfl 57 (.tmp 3) rfl S rfl _ _ _ _ V.out.1.box Tryd.underlying57 rfl (by kernel_rfl) ?_))
        go_ret
        exact ⟨rfl, V.out.1.bel⟩
  · go_enter Tryd.func32, Tryd.ntmps32
    go_wp2_with fail
    refine (C'.out _).mono ?_
    rintro e w1 ⟨rfl, q⟩
    have Z : Hid (Boxed (w1.alloc (.cells #[.bool false, .bool false, .bool false, .bool false] 57)) w1.heap.size #[.bool false, .bool false, .bool false, .bool false] 57) := Boxed.new _ _ _
    have L : Hid (DvL w w1 w1.heap.size false false false true ((w1.alloc (.cells #[.bool false, .bool false, .bool false, .bool false] 57)).setRow w1.heap.size #[.bool false, .bool false, .bool false, .bool true])) := ⟨below_setRow (q.alloc q.size _) q.size _, setRow_heap _ _ _ _ _ _ Z.out⟩
    obtain ⟨t, hT⟩ := HD.out.on L.out.bel
    have HT : Hid (Boxed ((w1.alloc (.cells #[.bool false, .bool false, .bool false, .bool false] 57)).setRow w1.heap.size #[.bool false, .bool false, .bool false, .bool true]) 0 dvCells t) := hT
    clear hT q HD
    simp only [dvCells] at HT
    go_wp2_with (first | (refine wpList_store_row rfl 57 (.tmp 3) (.tmp 7) rfl w1.heap.size #[.bool false, .bool false, .bool false, .bool true] rfl rfl _ _ Z.out (by kernel_rfl) rfl (bwOnes _ _ _ _) ?_) | (refine wpList_load_row rfl 61 (.global 0) rfl 0 rfl _ _ _ _ HT.out Tryd.underlying61 rfl (by kernel_rfl) ?_))
    clear Z HT
    generalize w1.heap.size = S at L ⊢
    generalize ((w1.alloc (.cells #[.bool false, .bool false, .bool false, .bool false] 57)).setRow S #[.bool false, .bool false, .bool false, .bool true]) = W at L ⊢
    go_loopw [9] (fun i wr => ∃ z : Int, (z = 0 ∨ z = 1 ∨ z = 2 ∨ z = 3) ∧ i = .int .i64 z ∧ Hid (DvL w w1 S false false false true wr)) (fun i _ => 4 - (intOf i).toNat)
    case atStart => exact ⟨0, by simp, rfl, L.out⟩
    case round =>
      obtain ⟨z, hz, rfl, HL⟩ := hrel
      clear L
      rcases hz with rfl | rfl | rfl | rfl
      · have N : Hid (Boxed (wr.alloc (.cells #[.bool false, .bool false, .bool false, .bool false, .int .i64 0] 60)) wr.heap.size #[.bool false, .bool false, .bool false, .bool false, .int .i64 0] 60) := Boxed.new _ _ _
        have V : Hid (DvL w w1 S false false false true ((wr.alloc (.cells #[.bool false, .bool false, .bool false, .bool false, .int .i64 0] 60)).setRow wr.heap.size #[.bool true, .bool true, .bool true, .bool true, .int .i64 2048]) ∧ Boxed ((wr.alloc (.cells #[.bool false, .bool false, .bool false, .bool false, .int .i64 0] 60)).setRow wr.heap.size #[.bool true, .bool true, .bool true, .bool true, .int .i64 2048]) wr.heap.size #[.bool true, .bool true, .bool true, .bool true, .int .i64 2048] 60) := ⟨HL.out.grow _ _ _, setRow_heap _ _ _ _ _ _ N.out⟩
        have c4 : (((wr.alloc (.cells #[.bool false, .bool false, .bool false, .bool false, .int .i64 0] 60)).setRow wr.heap.size #[.bool true, .bool true, .bool true, .bool true, .int .i64 2048])).cell? ⟨wr.heap.size, 4, none⟩ = some (.int .i64 2048) := V.out.2.cell 4 rfl
        go_wp2_with (first | (refine wpList_val rfl (some 11) rfl (.agg #[.bool true, .bool true, .bool true, .bool true, .int .i64 2048]) (by kernel_rfl) ?_) | (refine wpList_val rfl (some 15) rfl (.bool false) (by kernel_rfl) ?_) | (refine wpList_store_row rfl 60 (.tmp 5) (.tmp 11) rfl wr.heap.size #[.bool true, .bool true, .bool true, .bool true, .int .i64 2048] rfl rfl _ _ N.out (by kernel_rfl) rfl (dvOnes _ _ _ _ _) ?_) | (refine wpList_load_mid rfl 57 (.tmp 12) rfl wr.heap.size 0 rfl [Value.bool true, Value.bool true, Value.bool true, Value.bool true] _ (dvRange V.out.2) Tryd.underlying57 rfl (by kernel_rfl) ?_) | (refine wpList_load_row rfl 57 (.tmp 3) rfl S rfl _ _ _ _ V.out.1.box Tryd.underlying57 rfl (by kernel_rfl) ?_))
        go_roundw
        case rel => exact ⟨1, by simp, rfl, V.out.1⟩
        case measure => simp [intOf]
      · have N : Hid (Boxed (wr.alloc (.cells #[.bool false, .bool false, .bool false, .bool false, .int .i64 0] 60)) wr.heap.size #[.bool false, .bool false, .bool false, .bool false, .int .i64 0] 60) := Boxed.new _ _ _
        have V : Hid (DvL w w1 S false false false true ((wr.alloc (.cells #[.bool false, .bool false, .bool false, .bool false, .int .i64 0] 60)).setRow wr.heap.size #[.bool false, .bool true, .bool true, .bool true, .int .i64 512]) ∧ Boxed ((wr.alloc (.cells #[.bool false, .bool false, .bool false, .bool false, .int .i64 0] 60)).setRow wr.heap.size #[.bool false, .bool true, .bool true, .bool true, .int .i64 512]) wr.heap.size #[.bool false, .bool true, .bool true, .bool true, .int .i64 512] 60) := ⟨HL.out.grow _ _ _, setRow_heap _ _ _ _ _ _ N.out⟩
        have c4 : (((wr.alloc (.cells #[.bool false, .bool false, .bool false, .bool false, .int .i64 0] 60)).setRow wr.heap.size #[.bool false, .bool true, .bool true, .bool true, .int .i64 512])).cell? ⟨wr.heap.size, 4, none⟩ = some (.int .i64 512) := V.out.2.cell 4 rfl
        go_wp2_with (first | (refine wpList_val rfl (some 11) rfl (.agg #[.bool false, .bool true, .bool true, .bool true, .int .i64 512]) (by kernel_rfl) ?_) | (refine wpList_val rfl (some 15) rfl (.bool false) (by kernel_rfl) ?_) | (refine wpList_store_row rfl 60 (.tmp 5) (.tmp 11) rfl wr.heap.size #[.bool false, .bool true, .bool true, .bool true, .int .i64 512] rfl rfl _ _ N.out (by kernel_rfl) rfl (dvOnes _ _ _ _ _) ?_) | (refine wpList_load_mid rfl 57 (.tmp 12) rfl wr.heap.size 0 rfl [Value.bool false, Value.bool true, Value.bool true, Value.bool true] _ (dvRange V.out.2) Tryd.underlying57 rfl (by kernel_rfl) ?_) | (refine wpList_load_row rfl 57 (.tmp 3) rfl S rfl _ _ _ _ V.out.1.box Tryd.underlying57 rfl (by kernel_rfl) ?_))
        go_roundw
        case rel => exact ⟨2, by simp, rfl, V.out.1⟩
        case measure => simp [intOf]
      · have N : Hid (Boxed (wr.alloc (.cells #[.bool false, .bool false, .bool false, .bool false, .int .i64 0] 60)) wr.heap.size #[.bool false, .bool false, .bool false, .bool false, .int .i64 0] 60) := Boxed.new _ _ _
        have V : Hid (DvL w w1 S false false false true ((wr.alloc (.cells #[.bool false, .bool false, .bool false, .bool false, .int .i64 0] 60)).setRow wr.heap.size #[.bool false, .bool false, .bool true, .bool true, .int .i64 128]) ∧ Boxed ((wr.alloc (.cells #[.bool false, .bool false, .bool false, .bool false, .int .i64 0] 60)).setRow wr.heap.size #[.bool false, .bool false, .bool true, .bool true, .int .i64 128]) wr.heap.size #[.bool false, .bool false, .bool true, .bool true, .int .i64 128] 60) := ⟨HL.out.grow _ _ _, setRow_heap _ _ _ _ _ _ N.out⟩
        have c4 : (((wr.alloc (.cells #[.bool false, .bool false, .bool false, .bool false, .int .i64 0] 60)).setRow wr.heap.size #[.bool false, .bool false, .bool true, .bool true, .int .i64 128])).cell? ⟨wr.heap.size, 4, none⟩ = some (.int .i64 128) := V.out.2.cell 4 rfl
        go_wp2_with (first | (refine wpList_val rfl (some 11) rfl (.agg #[.bool false, .bool false, .bool true, .bool true, .int .i64 128]) (by kernel_rfl) ?_) | (refine wpList_val rfl (some 15) rfl (.bool false) (by kernel_rfl) ?_) | (refine wpList_store_row rfl 60 (.tmp 5) (.tmp 11) rfl wr.heap.size #[.bool false, .bool false, .bool true, .bool true, .int .i64 128] rfl rfl _ _ N.out (by kernel_rfl) rfl (dvOnes _ _ _ _ _) ?_) | (refine wpList_load_mid rfl 57 (.tmp 12) rfl wr.heap.size 0 rfl [Value.bool false, Value.bool false, Value.bool true, Value.bool true] _ (dvRange V.out.2) Tryd.underlying57 rfl (by kernel_rfl) ?_) | (refine wpList_load_row rfl 57 (.tmp 3) rfl S rfl _ _ _ _ V.out.1.box Tryd.underlying57 rfl (by kernel_rfl) ?_))
        go_roundw
        case rel => exact ⟨3, by simp, rfl, V.out.1⟩
        case measure => simp [intOf]
      · have N : Hid (Boxed (wr.alloc (.cells #[.bool false, .bool false, .bool false, .bool false, .int .i64 0] 60)) wr.heap.size #[.bool false, .bool false, .bool false, .bool false, .int .i64 0] 60) := Boxed.new _ _ _
        have V : Hid (DvL w w1 S false false false true ((wr.alloc (.cells #[.bool false, .bool false, .bool false, .bool false, .int .i64 0] 60)).setRow wr.heap.size #[.bool false, .bool false, .bool false, .bool true, .int .i64 32]) ∧ Boxed ((wr.alloc (.cells #[.bool false, .bool false, .bool false, .bool false, .int .i64 0] 60)).setRow wr.heap.size #[.bool false, .bool false, .bool false, .bool true, .int .i64 32]) wr.heap.size #[.bool false, .bool false, .bool false, .bool true, .int .i64 32] 60) := ⟨HL.out.grow _ _ _, setRow_heap _ _ _ _ _ _ N.out⟩
        have c4 : (((wr.alloc (.cells #[.bool false, .bool false, .bool false, .bool false, .int .i64 0] 60)).setRow wr.heap.size #[.bool false, .bool false, .bool false, .bool true, .int .i64 32])).cell? ⟨wr.heap.size, 4, none⟩ = some (.int .i64 32) := V.out.2.cell 4 rfl
        go_wp2_with (first | (refine wpList_val rfl (some 11) rfl (.agg #[.bool false, .bool false, .bool false, .bool true, .int .i64 32]) (by kernel_rfl) ?_) | (refine wpList_val rfl (some 15) rfl (.bool true) (by kernel_rfl) ?_) | (refine wpList_store_row rfl 60 (.tmp 5) (.tmp 11) rfl wr.heap.size #[.bool false, .bool false, .bool false, .bool true, .int .i64 32] rfl rfl _ _ N.out (by kernel_rfl) rfl (dvOnes _ _ _ _ _) ?_) | (refine wpList_load_mid rfl 57 (.tmp 12) rfl wr.heap.size 0 rfl [Value.bool false, Value.bool false, Value.bool false, Value.bool true] _ (dvRange V.out.2) Tryd.underlying57 rfl (by kernel_rfl) ?_) | (refine wpList_load_row rfl 57 (.tmp 3) rfl S rfl _ _ _ _ V.out.1.box Tryd.underlying57 rfl (by kernel_rfl) ?_))
        go_ret
        exact ⟨rfl, V.out.1.bel⟩
  · go_enter Tryd.func32, Tryd.ntmps32
    go_wp2_with fail
    refine (C'.out _).mono ?_
    rintro e w1 ⟨rfl, q⟩
    have Z : Hid (Boxed (w1.alloc (.cells #[.bool false, .bool false, .bool false, .bool false] 57)) w1.heap.size #[.bool false, .bool false, .bool false, .bool false] 57) := Boxed.new _ _ _
    have L : Hid (DvL w w1 w1.heap.size false false false false ((w1.alloc (.cells #[.bool false, .bool false, .bool false, .bool false] 57)).setRow w1.heap.size #[.bool false, .bool false, .bool false, .bool false])) := ⟨below_setRow (q.alloc q.size _) q.size _, setRow_heap _ _ _ _ _ _ Z.out⟩
    obtain ⟨t, hT⟩ := HD.out.on L.out.bel
    have HT : Hid (Boxed ((w1.alloc (.cells #[.bool false, .bool false, .bool false, .bool false] 57)).setRow w1.heap.size #[.bool false, .bool false, .bool false, .bool false]) 0 dvCells t) := hT
    clear hT q HD
    simp only [dvCells] at HT
    go_wp2_with (first | (refine wpList_store_row rfl 57 (.tmp 3) (.tmp 7) rfl w1.heap.size #[.bool false, .bool false, .bool false, .bool false] rfl rfl _ _ Z.out (by kernel_rfl) rfl (bwOnes _ _ _ _) ?_) | (refine wpList_load_row rfl 61 (.global 0) rfl 0 rfl _ _ _ _ HT.out Tryd.underlying61 rfl (by kernel_rfl) ?_))
    clear Z HT
    generalize w1.heap.size = S at L ⊢
    generalize ((w1.alloc (.cells #[.bool false, .bool false, .bool false, .bool false] 57)).setRow S #[.bool false, .bool false, .bool false, .bool false]) = W at L ⊢
    go_loopw [9] (fun i wr => ∃ z : Int, (z = 0 ∨ z = 1 ∨ z = 2 ∨ z = 3 ∨ z = 4) ∧ i = .int .i64 z ∧ Hid (DvL w w1 S false false false false wr)) (fun i _ => 4 - (intOf i).toNat)
    case atStart => exact ⟨0, by simp, rfl, L.out⟩
    case round =>
      obtain ⟨z, hz, rfl, HL⟩ := hrel
      clear L
      rcases hz with rfl | rfl | rfl | rfl | rfl
      · have N : Hid (Boxed (wr.alloc (.cells #[.bool false, .bool false, .bool false, .bool false, .int .i64 0] 60)) wr.heap.size #[.bool false, .bool false, .bool false, .bool false, .int .i64 0] 60) := Boxed.new _ _ _
        have V : Hid (DvL w w1 S false false false false ((wr.alloc (.cells #[.bool false, .bool false, .bool false, .bool false, .int .i64 0] 60)).setRow wr.heap.size #[.bool true, .bool true, .bool true, .bool true, .int .i64 2048]) ∧ Boxed ((wr.alloc (.cells #[.bool false, .bool false, .bool false, .bool false, .int .i64 0] 60)).setRow wr.heap.size #[.bool true, .bool true, .bool true, .bool true, .int .i64 2048]) wr.heap.size #[.bool true, .bool true, .bool true, .bool true, .int .i64 2048] 60) := ⟨HL.out.grow _ _ _, setRow_heap _ _ _ _ _ _ N.out⟩
        have c4 : (((wr.alloc (.cells #[.bool false, .bool false, .bool false, .bool false, .int .i64 0] 60)).setRow wr.heap.size #[.bool true, .bool true, .bool true, .bool true, .int .i64 2048])).cell? ⟨wr.heap.size, 4, none⟩ = some (.int .i64 2048) := V.out.2.cell 4 rfl
        go_wp2_with (first | (refine wpList_val rfl (some 11) rfl (.agg #[.bool true, .bool true, .bool true, .bool true, .int .i64 2048]) (by kernel_rfl) ?_) | (refine wpList_val rfl (some 15) rfl (.bool false) (by kernel_rfl) ?_) | (refine wpList_store_row rfl 60 (.tmp 5) (.tmp 11) rfl wr.heap.size #[.bool true, .bool true, .bool true, .bool true, .int .i64 2048] rfl rfl _ _ N.out (by kernel_rfl) rfl (dvOnes _ _ _ _ _) ?_) | (refine wpList_load_mid rfl 57 (.tmp 12) rfl wr.heap.size 0 rfl [Value.bool true, Value.bool true, Value.bool true, Value.bool true] _ (dvRange V.out.2) Tryd.underlying57 rfl (by kernel_rfl) ?_) | (refine wpList_load_row rfl 57 (.tmp 3) rfl S rfl _ _ _ _ V.out.1.box Tryd.underlying57 rfl (by kernel_rfl) ?_))
        go_roundw
        case rel => exact ⟨1, by simp, rfl, V.out.1⟩
        case measure => simp [intOf]
      · have N : Hid (Boxed (wr.alloc (.cells #[.bool false, .bool false, .bool false, .bool false, .int .i64 0] 60)) wr.heap.size #[.bool false, .bool false, .bool false, .bool false, .int .i64 0] 60) := Boxed.new _ _ _
        have V : Hid (DvL w w1 S false false false false ((wr.alloc (.cells #[.bool false, .bool false, .bool false, .bool false, .int .i64 0] 60)).setRow wr.heap.size #[.bool false, .bool true, .bool true, .bool true, .int .i64 512]) ∧ Boxed ((wr.alloc (.cells #[.bool false, .bool false, .bool false, .bool false, .int .i64 0] 60)).setRow wr.heap.size #[.bool false, .bool true, .bool true, .bool true, .int .i64 512]) wr.heap.size #[.bool false, .bool true, .bool true, .bool true, .int .i64 512] 60) := ⟨HL.out.grow _ _ _, setRow_heap _ _ _ _ _ _ N.out⟩
        have c4 : (((wr.alloc (.cells #[.bool false, .bool false, .bool false, .bool false, .int .i64 0] 60)).setRow wr.heap.size #[.bool false, .bool true, .bool true, .bool true, .int .i64 512])).cell? ⟨wr.heap.size, 4, none⟩ = some (.int .i64 512) := V.out.2.cell 4 rfl
        go_wp2_with (first | (refine wpList_val rfl (some 11) rfl (.agg #[.bool false, .bool true, .bool true, .bool true, .int .i64 512]) (by kernel_rfl) ?_) | (refine wpList_val rfl (some 15) rfl (.bool false) (by kernel_rfl) ?_) | (refine wpList_store_row rfl 60 (.tmp 5) (.tmp 11) rfl wr.heap.size #[.bool false, .bool true, .bool true, .bool true, .int .i64 512] rfl rfl _ _ N.out (by kernel_rfl) rfl (dvOnes _ _ _ _ _) ?_) | (refine wpList_load_mid rfl 57 (.tmp 12) rfl wr.heap.size 0 rfl [Value.bool false, Value.bool true, Value.bool true, Value.bool true] _ (dvRange V.out.2) Tryd.underlying57 rfl (by kernel_rfl) ?_) | (refine wpList_load_row rfl 57 (.tmp 3) rfl S rfl _ _ _ _ V.out.1.box Tryd.underlying57 rfl (by kernel_rfl) ?_))
        go_roundw
        case rel => exact ⟨2, by simp, rfl, V.out.1⟩
        case measure => simp [intOf]
      · have N : Hid (Boxed (wr.alloc (.cells #[.bool false, .bool false, .bool false, .bool false, .int .i64 0] 60)) wr.heap.size #[.bool false, .bool false, .bool false, .bool false, .int .i64 0] 60) := Boxed.new _ _ _
        have V : Hid (DvL w w1 S false false false false ((wr.alloc (.cells #[.bool false, .bool false, .bool false, .bool false, .int .i64 0] 60)).setRow wr.heap.size #[.bool false, .bool false, .bool true, .bool true, .int .i64 128]) ∧ Boxed ((wr.alloc (.cells #[.bool false, .bool false, .bool false, .bool false, .int .i64 0] 60)).setRow wr.heap.size #[.bool false, .bool false, .bool true, .bool true, .int .i64 128]) wr.heap.size #[.bool false, .bool false, .bool true, .bool true, .int .i64 128] 60) := ⟨HL.out.grow _ _ _, setRow_heap _ _ _ _ _ _ N.out⟩
        have c4 : (((wr.alloc (.cells #[.bool false, .bool false, .bool false, .bool false, .int .i64 0] 60)).setRow wr.heap.size #[.bool false, .bool false, .bool true, .bool true, .int .i64 128])).cell? ⟨wr.heap.size, 4, none⟩ = some (.int .i64 128) := V.out.2.cell 4 rfl
        go_wp2_with (first | (refine wpList_val rfl (some 11) rfl (.agg #[.bool false, .bool false, .bool true, .bool true, .int .i64 128]) (by kernel_rfl) ?_) | (refine wpList_val rfl (some 15) rfl (.bool false) (by kernel_rfl) ?_) | (refine wpList_store_row rfl 60 (.tmp 5) (.tmp 11) rfl wr.heap.size #[.bool false, .bool false, .bool true, .bool true, .int .i64 128] rfl rfl _ _ N.out (by kernel_rfl) rfl (dvOnes _ _ _ _ _) ?_) | (refine wpList_load_mid rfl 57 (.tmp 12) rfl wr.heap.size 0 rfl [Value.bool false, Value.bool false, Value.bool true, Value.bool true] _ (dvRange V.out.2) Tryd.underlying57 rfl (by kernel_rfl) ?_) | (refine wpList_load_row rfl 57 (.tmp 3) rfl S rfl _ _ _ _ V.out.1.box Tryd.underlying57 rfl (by kernel_rfl) ?_))
        go_roundw
        case rel => exact ⟨3, by simp, rfl, V.out.1⟩
        case measure => simp [intOf]
      · have N : Hid (Boxed (wr.alloc (.cells #[.bool false, .bool false, .bool false, .bool false, .int .i64 0] 60)) wr.heap.size #[.bool false, .bool false, .bool false, .bool false, .int .i64 0] 60) := Boxed.new _ _ _
        have V : Hid (DvL w w1 S false false false false ((wr.alloc (.cells #[.bool false, .bool false, .bool false, .bool false, .int .i64 0] 60)).setRow wr.heap.size #[.bool false, .bool false, .bool false, .bool true, .int .i64 32]) ∧ Boxed ((wr.alloc (.cells #[.bool false, .bool false, .bool false, .bool false, .int .i64 0] 60)).setRow wr.heap.size #[.bool false, .bool false, .bool false, .bool true, .int .i64 32]) wr.heap.size #[.bool false, .bool false, .bool false, .bool true, .int .i64 32] 60) := ⟨HL.out.grow _ _ _, setRow_heap _ _ _ _ _ _ N.out⟩
        have c4 : (((wr.alloc (.cells #[.bool false, .bool false, .bool false, .bool false, .int .i64 0] 60)).setRow wr.heap.size #[.bool false, .bool false, .bool false, .bool true, .int .i64 32])).cell? ⟨wr.heap.size, 4, none⟩ = some (.int .i64 32) := V.out.2.cell 4 rfl
        go_wp2_with (first | (refine wpList_val rfl (some 11) rfl (.agg #[.bool false, .bool false, .bool false, .bool true, .int .i64 32]) (by kernel_rfl) ?_) | (refine wpList_val rfl (some 15) rfl (.bool false) (by kernel_rfl) ?_) | (refine wpList_store_row rfl 60 (.tmp 5) (.tmp 11) rfl wr.heap.size #[.bool false, .bool false, .bool false, .bool true, .int .i64 32] rfl rfl _ _ N.out (by kernel_rfl) rfl (dvOnes _ _ _ _ _) ?_) | (refine wpList_load_mid rfl 57 (.tmp 12) rfl wr.heap.size 0 rfl [Value.bool false, Value.bool false, Value.bool false, Value.bool true] _ (dvRange V.out.2) Tryd.underlying57 rfl (by kernel_rfl) ?_) | (refine wpList_load_row rfl 57 (.tmp 3) rfl S rfl _ _ _ _ V.out.1.box Tryd.underlying57 rfl (by kernel_rfl) ?_))
        go_roundw
        case rel => exact ⟨4, by simp, rfl, V.out.1⟩
        case measure => simp [intOf]
      · go_wp2
        go_ret
        exact ⟨rfl, HL.out.bel⟩
end Go.Proofs.YtemegnfefjcdaaaDoor
