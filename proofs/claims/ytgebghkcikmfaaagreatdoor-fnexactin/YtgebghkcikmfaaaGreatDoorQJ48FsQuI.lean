import Derived.Test.YtgebghkcikmfaaaGreatDoorQJ1FrInner
import Derived.Laws.MakeOwn
import Derived.Test.YtgebghkcikmfaaaGreatDoorQJ0NumUp
import Derived.Laws.CopyRow
import Derived.Laws.IdiomCopy
import Derived.Laws.CopyOwn
import Derived.Laws.AppendOwn
import Derived.Test.YtgebghkcikmfaaaGreatDoorQJ44RwOkI
import Derived.Test.YtgebghkcikmfaaaGreatDoorQJ3SrPlain
import Derived.Test.YtgebghkcikmfaaaGreatDoorQJ5StepRow
import Derived.Shelf.Abstract
import Derived.Laws.ResultCell
import Derived.WalkKit
import Derived.WalkSpells
import Derived.WalkLawsBesides
import Derived.RegionTactic
import Derived.Deep.RegionWith
import Derived.BigQuiet
import Derived.Test.YtgebghkcikmfaaaGreatDoorQJ22FwBlk
import Derived.Test.YtgebghkcikmfaaaGreatDoorQJ8FsCopyS
import Derived.Test.YtgebghkcikmfaaaGreatDoorQJ14NumMax
/-
  A list of numbers made: make([]int64, n). By the verifier.
-/
namespace Go.Proofs.YtgebghkcikmfaaaGreatDoor
open Go.RowKit

theorem mkInts_run (n : Nat) (hn : n ≤ 1048576) (wx : World) : (Instr.makeSlice 27 (.int .i64 (n : Int)) (.int .i64 (n : Int))).run Tryz.prog wx = .ok (.slice (some ⟨wx.heap.size, 0, none⟩) n n) (wx.alloc (.cells (madeCells #[.int .i64 0] (n * 1)) 2)) := by
  obtain ⟨i0, hi, hz0, hz1, hz2⟩ := info_parts info2'
  have := run_make (P := Tryz.prog) wx 27 2 i0 (.int .i64 0) Tryz.underlying27 hi hz0 .i64 .i64 n n (by omega) (by omega) (by rw [hz2]; omega) (by omega)
  rw [this, hz1]; simp [Value.cells]
end Go.Proofs.YtgebghkcikmfaaaGreatDoor

/-
  A list of numbers copied (make and copy), and one number put behind a list whose room ends: the program's copyOf and withLast at numbers. By the verifier.
-/
namespace Go.Proofs.YtgebghkcikmfaaaGreatDoor
open Go.RowKit

theorem IntsAt.src {w : World} {ad : Addr} {L : List Int} (h : IntsAt w (some ad) L) : ∀ j v, (L.map (Value.int .i64))[j]? = some v → w.cell? (ad.add j) = some v := by
  intro j u hj
  have hj' : j < L.length := by have := (List.getElem?_eq_some_iff.1 hj).1; simpa using this
  obtain ⟨b, off, e, _, c0⟩ := h j hj'
  cases e
  rw [show (⟨b, off, none⟩ : Addr).add j = ⟨b, off + j, none⟩ by by_cases h0 : j = 0 <;> simp [Addr.add, h0], c0]
  rw [List.getElem?_map, List.getElem?_eq_getElem hj'] at hj
  rw [List.getElem?_eq_getElem hj']
  simpa using hj
theorem int_oneCell (L : List Int) : ∀ v ∈ L.map (Value.int .i64), v.oneCell' = true := by
  intro v hv
  obtain ⟨y, _, rfl⟩ := List.mem_map.1 hv
  rfl
theorem int_copy (w : World) (ty : TypeId) (g : Nat) (a : Option Addr) (sCap : Nat) (l : List Int) (cur : Array Value)
    (hg : w.heap[g]? = some (.cells cur 2 (0, 0))) (hc : cur.size = l.length) (h : IntsAt w a l) :
    (Builtin.copy_ #[27, 27] ty #[.slice (some ⟨g, 0, none⟩) l.length l.length, .slice a l.length sCap]).run Tryz.prog w =
      .ok (.int .i64 (l.length : Int)) (w.setRow g (l.map (Value.int .i64)).toArray) := by
  obtain ⟨i0, hi0, hz0, hz1, hz2⟩ := info_parts info2'
  have hs : (Tryz.prog.info? 2).map (·.size) = some 1 := by rw [hi0]; simp [hz1]
  cases l with
  | nil =>
    have e : w.setRow g (([] : List Int).map (Value.int .i64)).toArray = w := by
      obtain rfl : cur = #[] := by simpa using hc
      exact setRow_self w g _ _ _ hg
    rw [e]
    exact run_copy_none w _ _ ty 2 _ _ _ _ _ _ Tryz.underlying27 hs rfl
  | cons x xs =>
    obtain ⟨b, off, ha, _⟩ := h 0 (by simp)
    subst ha
    have hr := run_copy_row (P := Tryz.prog) w 27 27 ty 2 g 0 (x :: xs).length (x :: xs).length ⟨b, off, none⟩ (x :: xs).length sCap cur _ ((x :: xs).map (Value.int .i64)) Tryz.underlying27 hs hg (by simp) h.src (by simp [hc]) (int_oneCell _)
    have e1 : (cur.toList.take 0 ++ (x :: xs).map (Value.int .i64) ++ cur.toList.drop (0 + ((x :: xs).map (Value.int .i64)).length)) = (x :: xs).map (Value.int .i64) := by
      rw [List.take_zero, List.nil_append, Nat.zero_add, List.length_map, ← hc, ← Array.length_toList, List.drop_length, List.append_nil]
    rw [e1, List.length_map] at hr
    exact hr

set_option maxHeartbeats 1600000 in
theorem implCopyN (a : Option Addr) (cap : Nat) (l : List Int) (w : World) (h : Hid (IntsAt w a l)) (hT : l.length ≤ 1048576) :
    Calls Tryz.prog 98 #[.slice a l.length cap] w fun e w' => ∃ v, e = .returned v ∧ IRow w.heap.size w' v l ∧ Below w.heap.size w w' := by
  have hgm : (w.alloc (.cells (madeCells #[.int .i64 0] (l.length * 1)) 2)).heap[w.heap.size]? = some (.cells (madeCells #[.int .i64 0] (l.length * 1)) 2 (0, 0)) := by
    show (w.heap.push _)[w.heap.size]? = _
    simp
  have hcp := fun ty => int_copy (w.alloc (.cells (madeCells #[.int .i64 0] (l.length * 1)) 2)) ty w.heap.size a cap l _ hgm (by rw [size_madeCells]; omega) (h.out.below ((Below.refl _ _).alloc (Nat.le_refl _) _))
  have Fin : Hid (IRow w.heap.size ((w.alloc (.cells (madeCells #[.int .i64 0] (l.length * 1)) 2)).setRow w.heap.size (l.map (Value.int .i64)).toArray) (.slice (some ⟨w.heap.size, 0, none⟩) l.length l.length) l ∧ Below w.heap.size w ((w.alloc (.cells (madeCells #[.int .i64 0] (l.length * 1)) 2)).setRow w.heap.size (l.map (Value.int .i64)).toArray)) := by
    refine ⟨⟨by simp, .inr ⟨w.heap.size, l.length, (l.map (Value.int .i64)).toArray, rfl, Nat.le_refl _, setRow_heap _ _ _ _ _ _ hgm, Nat.le_refl _, by unfold maxLen; omega, by simp, ?_⟩⟩, ?_⟩
    · rw [Nat.mul_one]
      exact List.take_of_length_le (by simp)
    · exact below_setRow ((Below.refl _ _).alloc (Nat.le_refl _) _) (Nat.le_refl _) _
  clear hgm
  have hmk := mkInts_run l.length hT
  obtain ⟨len, hlen⟩ : ∃ n, l.length = n := ⟨_, rfl⟩
  rw [hlen] at hT hcp Fin hmk ⊢
  clear hlen
  rw [Nat.mul_one] at hcp Fin hmk
  generalize (w.alloc (.cells (madeCells #[.int .i64 0] len) 2)).setRow w.heap.size (l.map (Value.int .i64)).toArray = W2 at hcp Fin
  go_enter Tryz.func98, Tryz.ntmps98
  go_wp2
  go_ret
  exact ⟨_, rfl, Fin.out⟩

end Go.Proofs.YtgebghkcikmfaaaGreatDoor

/-
  One number put behind a list of numbers, by the program. By the verifier.
-/
namespace Go.Proofs.YtgebghkcikmfaaaGreatDoor
open Go.RowKit

/-- A list of its own out of what an append lays. -/
theorem int_grown (w : World) (L : List Int) (y : Int) (cap : Nat) (z : Array Value) (hz : z.size = 1) (hge : L.length + 1 ≤ cap) (hcm : cap ≤ maxLen) :
    IRow w.heap.size (w.drew.alloc (.cells ((L.map (Value.int .i64)).toArray ++ #[Value.int .i64 y] ++ Builtin.zeroCells z (cap - (L.length + 1))) 2)) (.slice (some ⟨w.heap.size, 0, none⟩) (L.length + 1) cap) (L ++ [y]) := by
  have hlen : ((L ++ [y]).map (Value.int .i64)).length = (L.length + 1) * 1 := by simp
  unfold IRow
  rw [List.length_append, List.length_singleton]
  refine ⟨hlen, .inr ⟨w.heap.size, _, _, rfl, Nat.le_refl _, heap_alloc_new w.drew _, hge, hcm, ?_, ?_⟩⟩
  · simp only [Array.size_append, List.size_toArray, size_zeroCells, hz, List.length_map]
    show L.length + 1 + (cap - (L.length + 1)) * 1 = cap * 1
    omega
  · simp only [Array.toList_append]
    rw [← hlen, List.map_append]
    exact List.take_left
theorem int_app_full (w : World) (ty : TypeId) (a : Option Addr) (L : List Int) (y : Int) (h : IntsAt w a L) (hl : L.length ≤ 1048576) :
    ∃ v' w', (Builtin.append_ #[27, 27] ty #[.slice a L.length L.length, .slice (some ⟨w.heap.size, 0, none⟩) 1 1]).run Tryz.prog (w.alloc (.cells #[.int .i64 y] 2)) = .ok v' w' ∧ IRow w.heap.size w' v' (L ++ [y]) ∧ Below w.heap.size w w' := by
  obtain ⟨i0, hi0, hz0, hz1, hz2⟩ := info_parts info2'
  obtain ⟨W, hW⟩ : ∃ W, W = w.alloc (.cells #[.int .i64 y] 2) := ⟨_, rfl⟩
  have hsz : W.heap.size = w.heap.size + 1 := by rw [hW]; simp
  have hnews : ∀ j v, ([Value.int .i64 y])[j]? = some v → W.cell? ((⟨w.heap.size, 0, none⟩ : Addr).add j) = some v := by
    intro j v hj
    match j, hj with
    | 0, hj =>
      simp at hj
      subst hj
      rw [hW]
      simp [Addr.add]
  have hb0 : Below w.heap.size w W := by rw [hW]; exact (Below.refl _ _).alloc (Nat.le_refl _) _
  have hA : IntsAt W a L := h.below hb0
  have bel : ∀ o, Below w.heap.size w (W.drew.alloc o) := fun o => hb0.drew.alloc (by show w.heap.size ≤ W.heap.size; omega) _
  rw [← hW]
  cases a with
  | none =>
    obtain rfl : L = [] := by
      cases L with
      | nil => rfl
      | cons x xs => obtain ⟨b, off, e, _⟩ := hA 0 (by simp); cases e
    have hr := run_append_nil (P := Tryz.prog) W 27 ty 2 i0 (.int .i64 0) Tryz.underlying27 hi0 hz0 ⟨w.heap.size, 0, none⟩ 1 1 [Value.int .i64 y] (by rw [hz1]; rfl) hnews (by omega) (by omega) (by rw [hz2]; omega)
    refine ⟨_, _, hr, ?_, bel _⟩
    have hge := grownCap_ge W 1 0 2
    have hcm := grownCap_le_maxLen W 1 0 2 (by unfold maxLen; omega)
    have := int_grown W [] y (grownCap W 1 0 2) (Value.cells (.int .i64 0)) rfl hge hcm
    simp only [List.map_nil, Array.empty_append, List.length_nil, Nat.zero_add] at this
    exact IRow.mono this (by omega)
  | some ad =>
    have hr := run_append_grow (P := Tryz.prog) W 27 ty 2 i0 (.int .i64 0) Tryz.underlying27 hi0 hz0 ad L.length L.length (L.map (Value.int .i64)) (by rw [hz1]; simp) hA.src ⟨w.heap.size, 0, none⟩ 1 1 [Value.int .i64 y] (by rw [hz1]; rfl) hnews (by omega) (by omega) (growslice_fits (by omega) (by rw [hz2]; omega))
    refine ⟨_, _, hr, ?_, bel _⟩
    exact IRow.mono (int_grown W L y _ _ rfl (grownCap_ge W _ _ _) (grownCap_le_maxLen W _ _ _ (by unfold maxLen; omega))) (by omega)
theorem int_row_full {ops : Array Oper} {rest : List Oper} {o : Oper} {a : Act} {Q : Exit → Act → World → Prop} {w : World} (hgd : o.guard = none) (s x : Operand)
    (ho : o.op = .call { callee := .builtin .append, args := #[s, x], argTypes := #[27, 27] })
    (a0 : Option Addr) (L : List Int) (n : Nat) (hL : L.length = n) (y : Int) (hs : a.eval s = .slice a0 n n) (hM : IntsAt w a0 L) {m : Nat} (hx : a.eval x = .slice (some ⟨m, 0, none⟩) 1 1) (hm : m = w.heap.size)
    (hlen : L.length ≤ 1048576)
    (h : ∀ v' w', IRow w.heap.size w' v' (L ++ [y]) → Below w.heap.size w w' → wpList Tryz.prog ops Q rest (a.put o.dst v') w') :
    wpList Tryz.prog ops Q (o :: rest) a (w.alloc (.cells #[.int .i64 y] 2)) := by
  subst hm
  subst hL
  refine wpList_plain hgd fun K hK => ?_
  obtain ⟨v', w', hrun, h1, h2⟩ := int_app_full w o.type a0 L y hM hlen
  unfold Oper.wp
  simp [execOp, ho, resolve, invoke, builtin, hs, hx, hrun, Result.andThen]
  exact hK _ _ (h v' w' h1 h2)

set_option maxHeartbeats 3200000 in
set_option maxRecDepth 100000 in
theorem implLastN (a : Option Addr) (c : Nat) (L : List Int) (y : Int) (w : World) (hT : L.length ≤ 1048576) (hc : L.length ≤ c) (hn : a = none → c = 0) (h : Hid (IntsAt w a L)) :
    Calls Tryz.prog 285 #[.slice a L.length c, .int .i64 y] w fun e w' => (∃ v, e = .returned v ∧ IRow w.heap.size w' v (L ++ [y])) ∧ Below w.heap.size w w' := by
  obtain ⟨n, hL⟩ : ∃ n, L.length = n := ⟨_, rfl⟩
  have Hmax : Hid (L.length ≤ 1048576) := hT
  rw [hL] at hT hc ⊢
  have HL : Hid (L.length = n) := hL
  clear hL
  cases a with
  | none =>
    obtain rfl := hn rfl
    obtain rfl : n = 0 := by omega
    clear hn
    go_enter Tryz.func285, Tryz.ntmps285
    go_wp2_with (refine int_row_full rfl (.tmp 10) (.tmp 12) rfl none L 0 HL.out y rfl h.out rfl rfl Hmax.out ?_; intro v' w2 q1 q2; have R : Hid (IRow w.heap.size w2 v' (L ++ [y]) ∧ Below w.heap.size w w2) := ⟨q1, q2⟩; clear q1 q2)
    go_ret
    exact ⟨⟨_, rfl, R.out.1⟩, R.out.2⟩
  | some ad =>
    clear hn
    have hc' : ((n : Nat) : Int) ≤ (c : Int) := by omega
    go_enter Tryz.func285, Tryz.ntmps285
    go_wp2_with (refine int_row_full rfl (.tmp 10) (.tmp 12) rfl (some ad) L n HL.out y rfl h.out rfl rfl Hmax.out ?_; intro v' w2 q1 q2; have R : Hid (IRow w.heap.size w2 v' (L ++ [y]) ∧ Below w.heap.size w w2) := ⟨q1, q2⟩; clear q1 q2)
    go_ret
    exact ⟨⟨_, rfl, R.out.1⟩, R.out.2⟩
end Go.Proofs.YtgebghkcikmfaaaGreatDoor

/-
  The walk of the program's isPlace. By the verifier.
-/
namespace Go.Proofs.YtgebghkcikmfaaaGreatDoor
open Go.RowKit

set_option maxHeartbeats 1600000 in
theorem implPlace (n : Nat) (p : Int) (w : World) (hn : n ≤ 1048576) :
    Calls Tryz.prog 158 #[.int .i64 (n : Int), .int .i64 p] w fun e w' => e = .returned (.bool (inB 0 ((n : Int) - 1) p)) ∧ w' = w.alloc (.cells #[.int .i64 p] 2) := by
  have A := fun B w h => implUpTo1 ((n : Int) - 1) p w B h
  generalize inB 0 ((n : Int) - 1) p = y at A ⊢
  have A' : Hid _ := A
  clear A
  have q1 : -9223372036854775808 ≤ (n : Int) - 1 := by omega
  have q2 : (n : Int) - 1 ≤ 9223372036854775807 := by omega
  go_enter Tryz.func158, Tryz.ntmps158
  go_wp2_with fail
  refine (A'.out _ _ (by simp)).mono ?_
  rintro e w' ⟨rfl, rfl⟩
  go_wp2
  go_ret
  exact ⟨rfl, rfl⟩
end Go.Proofs.YtgebghkcikmfaaaGreatDoor

/-
  The walks of slices.IndexFunc and slices.ContainsFunc on flows, for whatever function tells yes or no; of the program's fromOne on lists, of the rows' and payers' own methods, and of FairOk. By the verifier.
-/
namespace Go.Proofs.YtgebghkcikmfaaaGreatDoor
open Go.RowKit Go.Shelf

theorem ones_of (most : Int) (l : List Int) : (l.all (inB 0 most) && !decide ((0 : Int) ∈ l)) = l.all (inB 1 most) := by
  induction l with
  | nil => rfl
  | cons x r ih =>
    rw [List.all_cons, List.all_cons, ← ih, Bool.eq_iff_iff]
    simp only [Bool.and_eq_true, inB_true, Bool.not_eq_true', decide_eq_false_iff_not, List.mem_cons, not_or]
    constructor
    · rintro ⟨⟨h1, h2⟩, h3, h4⟩
      exact ⟨by omega, h2, h4⟩
    · rintro ⟨h1, h2, h3⟩
      exact ⟨⟨by omega, h2⟩, by omega, h3⟩
set_option maxHeartbeats 1600000 in
theorem implFromOneL (most : Int) (a : Option Addr) (cap : Nat) (l : List Int) (w : World) (hT : l.length ≤ 1048576) (h : Hid (IntsAt w a l)) :
    Calls Tryz.prog 133 #[.int .i64 most, .slice a l.length cap] w fun e w' => e = .returned (.bool (l.all (inB 1 most))) ∧ w' = w := by
  have A1 := fun (_ : Nat) => implUpTo most a cap l w hT h
  have A2 := fun (_ : Nat) => implHasN a cap l 0 w hT h
  have H := ones_of most l
  generalize decide ((0 : Int) ∈ l) = z at A2 H
  generalize l.all (inB 0 most) = y at A1 H
  generalize l.all (inB 1 most) = x at H ⊢
  generalize l.length = n at A1 A2 ⊢
  have A1' : Hid _ := A1
  have A2' : Hid _ := A2
  have HH : Hid _ := H
  clear A1 A2 H h hT
  go_enter Tryz.func133, Tryz.ntmps133
  go_wp2_with fail
  refine (A1'.out 0).mono ?_
  rintro e w1 ⟨rfl, rfl⟩
  cases y
  · go_wp2
    go_ret
    exact ⟨ret_bool (by rw [← HH.out]; rfl), rfl⟩
  go_wp2_with fail
  refine (A2'.out 0).mono ?_
  rintro e w2 ⟨rfl, rfl⟩
  go_wp2
  go_ret
  exact ⟨ret_bool (by rw [← HH.out]; cases z <;> rfl), rfl⟩
/-- A flow as one that embeds its row. -/
def Fw.pay (x : Fw) (a : Option Addr) (c : Nat) : Value := .agg #[.slice a x.sizes.length c, .int .i64 x.weight, .int .i64 x.finish]

theorem implSizesOk (a : Option Addr) (cap : Nat) (l : List Int) (w : World) (hT : l.length ≤ 1048576) (h : Hid (IntsAt w a l)) :
    Calls Tryz.prog 270 #[.slice a l.length cap] w fun e w' => e = .returned (.bool (inB 0 40 (l.length : Int) && l.all (inB 1 2000))) ∧ w' = w := by
  have A := fun (_ : Nat) => implFromOneL 2000 a cap l w hT h
  generalize l.all (inB 1 2000) = y at A ⊢
  generalize l.length = n at A ⊢
  have A' : Hid _ := A
  clear A h hT
  by_cases hn : (n : Int) ≤ 40
  · have e1 : inB 0 40 (n : Int) = true := by rw [inB_true]; omega
    rw [e1]
    clear e1
    go_enter Tryz.func270, Tryz.ntmps270
    go_wp2_with fail
    refine (A'.out 0).mono ?_
    rintro e w' ⟨rfl, rfl⟩
    go_wp2
    go_ret
    exact ⟨by simp, rfl⟩
  · have e1 : inB 0 40 (n : Int) = false := by rw [inB_false]; omega
    rw [e1]
    clear e1
    go_enter Tryz.func270, Tryz.ntmps270
    go_wp2
    go_ret
    exact ⟨by simp, rfl⟩
theorem implPayerOf (x : Fw) (a : Option Addr) (c : Nat) (w : World) :
    Calls Tryz.prog 170 #[x.val a c] w fun e w' => e = .returned (x.pay a c) ∧ Below w.heap.size w w' := by
  obtain ⟨t, u, fl⟩ := x
  simp only [Fw.val, Fw.pay]
  generalize fl.length = n
  obtain ⟨W0, hW0⟩ : ∃ W0, W0 = (w.alloc (.cells #[.int .i64 t, .int .i64 u, .slice a n c] 116)).alloc (.cells #[.slice none 0 0, .int .i64 0, .int .i64 0] 211) := ⟨_, rfl⟩
  have X : Hid (Boxed W0 w.heap.size #[.int .i64 t, .int .i64 u, .slice a n c] 116 ∧ Boxed W0 (w.heap.size + 1) #[.slice none 0 0, .int .i64 0, .int .i64 0] 211 ∧ Below w.heap.size w W0) := by
    rw [hW0]
    refine ⟨(Boxed.new w _ _).more _, ?_, ((Below.refl _ _).alloc (Nat.le_refl _) _).alloc (by simp) _⟩
    have := Boxed.new (w.alloc (.cells #[.int .i64 t, .int .i64 u, .slice a n c] 116)) #[.slice none 0 0, .int .i64 0, .int .i64 0] 211
    simpa using this
  have HW : Hid (W0 = _) := hW0
  clear hW0
  have c0 : W0.cell? ⟨w.heap.size, 0, none⟩ = some (.int .i64 t) := X.out.1.cell 0 rfl
  have c1 : W0.cell? ⟨w.heap.size, 1, none⟩ = some (.int .i64 u) := X.out.1.cell 1 rfl
  have c2 : W0.cell? ⟨w.heap.size, 2, none⟩ = some (.slice a n c) := X.out.1.cell 2 rfl
  go_enter Tryz.func170, Tryz.ntmps170
  go_upto_region 1 with fail
  rw [← HW.out]
  go_wp2_with (refine wpList_store_row rfl 211 (.tmp 2) (.tmp 9) rfl (w.heap.size + 1) _ rfl rfl _ _ X.out.2.1 (by kernel_rfl) rfl (by simp [Value.oneCell']) ?_)
  exact bodyPost_ret (results_cell_row Tryz.results170 _ _ (w.heap.size + 1) _ _ _ _ rfl (setRow_heap _ (w.heap.size + 1) _ _ _ _ X.out.2.1) Tryz.underlying211 rfl (by kernel_rfl)) rfl ⟨rfl, below_setRow X.out.2.2 (by omega) _⟩

set_option maxHeartbeats 3200000 in
theorem implPayerOk (x : Fw) (a : Option Addr) (c : Nat) (w : World) (hT : x.sizes.length ≤ 1048576) (H : IntsAt w a x.sizes) :
    Calls Tryz.prog 222 #[x.pay a c] w fun e w' => e = .returned (.bool x.ok) ∧ Below w.heap.size w w' := by
  have Hok : Hid (x.ok = (inB 1 10 x.weight && (inB 0 1125899906842624 x.finish && (inB 0 40 (x.sizes.length : Int) && x.sizes.all (inB 1 2000))))) := rfl
  have A1 := fun B w hh => implFromOne 10 x.weight B w hh
  have A2 := fun B w hh => implUpTo1 1125899906842624 x.finish w B hh
  have A3 := fun w hh => implSizesOk a c x.sizes w hT hh
  generalize x.ok = ok at Hok ⊢
  have HI : Hid (∀ w', Below w.heap.size w w' → IntsAt w' a x.sizes) := fun w' g => H.below g
  generalize (inB 0 40 (x.sizes.length : Int) && x.sizes.all (inB 1 2000)) = b3 at A3 Hok
  obtain ⟨t, u, fl⟩ := x
  simp only [Fw.pay] at Hok A1 A2 A3 HI ⊢
  generalize fl.length = n at A3 ⊢
  generalize inB 1 10 t = b1 at A1 Hok
  generalize inB 0 1125899906842624 u = b2 at A2 Hok
  have A1' : Hid _ := A1
  have A2' : Hid _ := A2
  have A3' : Hid _ := A3
  clear A1 A2 A3 H hT
  go_enter Tryz.func222, Tryz.ntmps222
  cases b1
  · go_wp2_with fail
    refine (A1'.out _ _ (by simp)).mono ?_
    rintro e w' ⟨rfl, rfl⟩
    go_wp2
    go_ret
    exact ⟨ret_bool (by rw [Hok.out]; rfl), ((Below.refl _ _).alloc (Nat.le_refl _) _).alloc (by simp) _⟩
  cases b2
  · go_wp2_with fail
    refine (A1'.out _ _ (by simp)).mono ?_
    rintro e w' ⟨rfl, rfl⟩
    go_wp2_with fail
    refine (A2'.out _ _ (by simp)).mono ?_
    rintro e w' ⟨rfl, rfl⟩
    go_wp2
    go_ret
    exact ⟨ret_bool (by rw [Hok.out]; rfl), (((Below.refl _ _).alloc (Nat.le_refl _) _).alloc (by simp) _).alloc (by simp; omega) _⟩
  go_wp2_with fail
  refine (A1'.out _ _ (by simp)).mono ?_
  rintro e w' ⟨rfl, rfl⟩
  go_wp2_with fail
  refine (A2'.out _ _ (by simp)).mono ?_
  rintro e w' ⟨rfl, rfl⟩
  go_wp2_with fail
  refine (A3'.out _ (HI.out _ ((((Below.refl _ _).alloc (Nat.le_refl _) _).alloc (by simp) _).alloc (by simp; omega) _))).mono ?_
  rintro e w' ⟨rfl, rfl⟩
  go_wp2
  go_ret
  exact ⟨ret_bool (by rw [Hok.out]; rfl), (((Below.refl _ _).alloc (Nat.le_refl _) _).alloc (by simp) _).alloc (by simp; omega) _⟩

/-- A function that tells yes or no of a flow, as long as all that lay lies. -/
structure FwTells (W0 : World) (g : FuncId) (fs cb : Array Value) (p : Fw → Bool) : Prop where
  enters : Enters Tryz.prog g
  tells : ∀ (W : World) (ak : Option Addr) (ck : Nat) (h : Fw), Below W0.heap.size W0 W → h.sizes.length ≤ 1048576 → IntsAt W ak h.sizes → Calls Tryz.prog g (fs ++ #[h.val ak ck] ++ cb) W fun e w' => e = .returned (.bool (p h)) ∧ Below W.heap.size W w'

set_option maxHeartbeats 1600000 in
set_option maxRecDepth 100000 in
theorem implIndexF (a : Option Addr) (cap : Nat) (l : List Fw) (g : FuncId) (fs cb : Array Value) (p : Fw → Bool) (w : World) (hT : l.length ≤ 1048576) (hin : ∀ k, k < l.length → (fwAt l k).sizes.length ≤ 1048576) (h : Hid (FwsAt w a l)) (ht : Hid (FwTells w g fs cb p)) :
    Calls Tryz.prog 269 #[.slice a l.length cap, .func (.func g) fs cb] w fun e w' => e = .returned (.int .i64 (if l.findIdx p < l.length then (l.findIdx p : Int) else -1)) ∧ Below w.heap.size w w' := by
  have eg : ∀ args w, (callFunc g args).run Tryz.prog w = .ok (.enter g args) w := ht.out.enters
  have Hin : Hid (∀ k, k < l.length → (fwAt l k).sizes.length ≤ 1048576) := hin
  obtain ⟨len, hlen⟩ : ∃ n, l.length = n := ⟨_, rfl⟩
  have Hlen : Hid (l.length = len) := hlen
  obtain ⟨N, hN⟩ : ∃ N, l.findIdx p = N := ⟨_, rfl⟩
  have HN : Hid (l.findIdx p = N) := hN
  have hNl : N ≤ len := by rw [← hN, ← hlen]; exact List.findIdx_le_length
  rw [hlen] at hT ⊢
  rw [hN]
  clear hlen hN hin
  go_enter Tryz.func269, Tryz.ntmps269
  go_wp2
  go_loopw [8] (fun i wr => ∃ k : Nat, k ≤ N ∧ i = .int .i64 k ∧ Hid (Below w.heap.size w wr)) (fun i _ => len - (intOf i).toNat)
  case atStart => exact ⟨0, Nat.zero_le _, rfl, Below.refl _ _⟩
  case round =>
    obtain ⟨k, hk, rfl, H1⟩ := hrel
    by_cases hlt : k < len
    · have hkl : k < l.length := by rw [Hlen.out]; exact hlt
      obtain ⟨b1, o1, ak, ck, ha1, hb1, ⟨c0, c1, c2⟩, hr, -⟩ := (h.out.below H1.out) k hkl
      subst ha1
      have HC := ht.out.tells wr ak ck (fwAt l k) H1.out (Hin.out k hkl) hr
      unfold Fw.val at HC
      have hlt' : (k : Int) < (len : Int) := by omega
      by_cases hkN : k = N
      · have hp : p (fwAt l k) = true := by
          rw [fwAt_lt hkl]
          have := List.findIdx_getElem (p := p) (xs := l) (w := by rw [HN.out, Hlen.out, ← hkN]; exact hlt)
          simpa only [HN.out, ← hkN] using this
        rw [hp] at HC
        clear hp hr hkl
        generalize (fwAt l k).sizes.length = n at c2 HC
        generalize (fwAt l k).weight = t at c0 HC
        generalize (fwAt l k).finish = u at c1 HC
        subst hkN
        go_wp2_with fail
        refine HC.mono ?_
        rintro e w' ⟨rfl, hb'⟩
        have B2 : Hid (Below w.heap.size w w') := H1.out.trans (hb'.mono H1.out.size)
        clear hb' H1 HC c0 c1 c2
        go_wp2
        go_ret
        exact ⟨by first | rfl | (rw [if_pos hlt]; rfl), B2.out⟩
      · have hp : p (fwAt l k) = false := by
          rw [fwAt_lt hkl]
          have := List.not_of_lt_findIdx (p := p) (xs := l) (i := k) (by rw [HN.out]; omega)
          simpa using this
        rw [hp] at HC
        clear hp hr hkl
        generalize (fwAt l k).sizes.length = n at c2 HC
        generalize (fwAt l k).weight = t at c0 HC
        generalize (fwAt l k).finish = u at c1 HC
        go_wp2_with fail
        refine HC.mono ?_
        rintro e w' ⟨rfl, hb'⟩
        have B2 : Hid (Below w.heap.size w w') := H1.out.trans (hb'.mono H1.out.size)
        clear hb' H1 HC c0 c1 c2
        go_wp2
        go_roundw
        case rel => exact ⟨k + 1, by omega, by go_num, B2⟩
        case measure => simp [intOf]; omega
    · obtain rfl : k = len := by omega
      obtain rfl : k = N := by omega
      go_wp2
      go_ret
      exact ⟨by first | rfl | (rw [if_neg (Nat.lt_irrefl _)]; rfl), H1.out⟩

theorem any_idxF {α : Type} (l : List α) (p : α → Bool) : decide (l.findIdx p < l.length) = l.any p := by
  rw [Bool.eq_iff_iff, decide_eq_true_iff, List.findIdx_lt_length, List.any_eq_true]

set_option maxHeartbeats 1600000 in
theorem implContainsF (a : Option Addr) (cap : Nat) (l : List Fw) (g : FuncId) (fs cb : Array Value) (p : Fw → Bool) (w : World) (hT : l.length ≤ 1048576) (hin : ∀ k, k < l.length → (fwAt l k).sizes.length ≤ 1048576) (h : Hid (FwsAt w a l)) (ht : Hid (FwTells w g fs cb p)) :
    Calls Tryz.prog 220 #[.slice a l.length cap, .func (.func g) fs cb] w fun e w' => e = .returned (.bool (l.any p)) ∧ Below w.heap.size w w' := by
  have I := fun (_ : Nat) => implIndexF a cap l g fs cb p w hT hin h ht
  have Ha : Hid (decide (l.findIdx p < l.length) = l.any p) := any_idxF l p
  generalize l.any p = b at Ha ⊢
  generalize l.findIdx p = N at I Ha
  generalize l.length = len at I Ha ⊢
  have I' : Hid _ := I
  clear I hT hin h ht
  go_enter Tryz.func220, Tryz.ntmps220
  go_wp2_with fail
  refine (I'.out 0).mono ?_
  rintro e w' ⟨rfl, hb⟩
  have B2 : Hid (Below w.heap.size w w') := hb
  clear hb I'
  by_cases hk : N < len
  · rw [if_pos hk]
    have hp : (0 : Int) ≤ (N : Int) := by omega
    go_wp2
    go_ret
    exact ⟨ret_bool (by rw [← Ha.out, decide_eq_true hk]), B2.out⟩
  · rw [if_neg hk]
    go_wp2
    go_ret
    exact ⟨ret_bool (by rw [← Ha.out, decide_eq_false hk]), B2.out⟩

set_option maxHeartbeats 1600000 in
theorem implNotFlow (x : Fw) (a : Option Addr) (c : Nat) (w : World) (hT : x.sizes.length ≤ 1048576) (H : IntsAt w a x.sizes) :
    Calls Tryz.prog 221 #[x.val a c] w fun e w' => e = .returned (.bool (!x.ok)) ∧ Below w.heap.size w w' := by
  have C := fun (w : World) hh => implPayerOk x a c w hT hh
  have D := fun (w : World) => implPayerOf x a c w
  generalize x.ok = ok at C ⊢
  have HI : Hid (∀ w', Below w.heap.size w w' → IntsAt w' a x.sizes) := fun w' g => H.below g
  obtain ⟨t, u, fl⟩ := x
  simp only [Fw.val, Fw.pay] at C D HI ⊢
  generalize fl.length = n at C D ⊢
  have C' : Hid _ := C
  have D' : Hid _ := D
  clear C D H hT
  have hB : Hid (Below w.heap.size w (w.alloc (.cells #[.int .i64 t, .int .i64 u, .slice a n c] 116))) := (Below.refl _ _).alloc (Nat.le_refl _) _
  go_enter Tryz.func221, Tryz.ntmps221
  go_wp2_with fail
  refine (D'.out _).mono ?_
  rintro e w1 ⟨rfl, b1⟩
  have B1 : Hid (Below w.heap.size w w1) := hB.out.trans (b1.mono hB.out.size)
  clear b1 hB
  go_wp2_with fail
  refine (C'.out _ (HI.out _ B1.out)).mono ?_
  rintro e w2 ⟨rfl, b2⟩
  have B2 : Hid (Below w.heap.size w w2) := B1.out.trans (b2.mono B1.out.size)
  clear b2
  go_wp2
  go_ret
  exact ⟨rfl, B2.out⟩

theorem flows_any (l : List Fw) : (!l.any fun x => !x.ok) = l.all Fw.ok := by
  induction l with
  | nil => rfl
  | cons x r ih => simp only [List.any_cons, List.all_cons, Bool.not_or, Bool.not_not, ih]

set_option maxHeartbeats 3200000 in
set_option maxRecDepth 100000 in
theorem implFairOk (d : Fs) (v : Value) (w : World) (hB : d.big ≤ 1048576) (h : Hid (FsAt w v d)) :
    Calls Tryz.prog 154 #[v] w fun e w' => e = .returned (.bool d.ok) ∧ Below w.heap.size w w' := by
  obtain ⟨a, c, rfl, k1⟩ := h.out
  clear h
  obtain ⟨hT, -, hin⟩ := Fs.small hB
  have Hok : Hid (d.ok = (inB 0 1125899906842624 d.now && (inB 1 8 (d.flows.length : Int) && !d.flows.any fun x => !x.ok))) := by
    show d.ok = _
    rw [flows_any]
    rfl
  have A1 := fun B w hh => implUpTo1 1125899906842624 d.now w B hh
  have A2 := fun B w hh => implFromOne 8 (d.flows.length : Int) B w hh
  have A3 := fun (w : World) (hh : FwsAt w a d.flows) => implContainsF a c d.flows 221 #[] #[] (fun x => !x.ok) w hT hin hh ⟨enters_of Tryz.func221 (by kernel_rfl) rfl, fun W ak ck l _ hl hr => implNotFlow l ak ck W hl hr⟩
  generalize d.ok = ok at Hok ⊢
  have HI : Hid (∀ w', Below w.heap.size w w' → FwsAt w' a d.flows) := fun w' g => k1.below g
  generalize (d.flows.any fun x => !x.ok) = b3 at A3 Hok
  obtain ⟨t, fl⟩ := d
  simp only [Fs.val] at Hok A1 A2 A3 HI ⊢
  generalize fl.length = n at Hok A2 A3 ⊢
  generalize inB 0 1125899906842624 t = b1 at A1 Hok
  generalize inB 1 8 (n : Int) = b2 at A2 Hok
  have A1' : Hid _ := A1
  have A2' : Hid _ := A2
  have A3' : Hid _ := A3
  clear A1 A2 A3 k1 hT hin hB
  go_enter Tryz.func154, Tryz.ntmps154
  cases b1
  · go_wp2_with fail
    refine (A1'.out _ _ (by simp)).mono ?_
    rintro e w' ⟨rfl, rfl⟩
    go_wp2
    go_ret
    exact ⟨ret_bool (by rw [Hok.out]; rfl), ((Below.refl _ _).alloc (Nat.le_refl _) _).alloc (by simp) _⟩
  cases b2
  · go_wp2_with fail
    refine (A1'.out _ _ (by simp)).mono ?_
    rintro e w' ⟨rfl, rfl⟩
    go_wp2_with fail
    refine (A2'.out _ _ (by simp)).mono ?_
    rintro e w' ⟨rfl, rfl⟩
    go_wp2
    go_ret
    exact ⟨ret_bool (by rw [Hok.out]; rfl), (((Below.refl _ _).alloc (Nat.le_refl _) _).alloc (by simp) _).alloc (by simp; omega) _⟩
  go_wp2_with fail
  refine (A1'.out _ _ (by simp)).mono ?_
  rintro e w' ⟨rfl, rfl⟩
  go_wp2_with fail
  refine (A2'.out _ _ (by simp)).mono ?_
  rintro e w' ⟨rfl, rfl⟩
  have b0 : Hid (Below w.heap.size w (((w.alloc (.cells #[.int .i64 t, .slice a n c] 48)).alloc (.cells #[.int .i64 t] 2)).alloc (.cells #[.int .i64 (n : Int)] 2))) := (((Below.refl _ _).alloc (Nat.le_refl _) _).alloc (by simp) _).alloc (by simp; omega) _
  go_wp2_with fail
  refine (A3'.out _ (HI.out _ b0.out)).mono ?_
  rintro e w' ⟨rfl, q⟩
  have B2 : Hid (Below w.heap.size w w') := b0.out.trans (q.mono b0.out.size)
  clear q b0
  go_wp2
  go_ret
  exact ⟨ret_bool (by rw [Hok.out]; rfl), B2.out⟩
end Go.Proofs.YtgebghkcikmfaaaGreatDoor

/-
  Whether a row of sizes is empty, by the program. By the verifier.
-/
namespace Go.Proofs.YtgebghkcikmfaaaGreatDoor
open Go.RowKit Go.Shelf

theorem implEmpty (a : Option Addr) (n cap : Nat) (w : World) :
    Calls Tryz.prog 226 #[.slice a n cap] w fun e w' => e = .returned (.bool (decide ((n : Int) = 0))) ∧ w' = w := by
  by_cases hn : (n : Int) = 0
  · rw [decide_eq_true hn]
    go_enter Tryz.func226, Tryz.ntmps226
    go_wp2
    go_ret
    exact ⟨by first | rfl | simp | (simp; omega), rfl⟩
  · rw [decide_eq_false hn]
    go_enter Tryz.func226, Tryz.ntmps226
    go_wp2
    go_ret
    exact ⟨by first | rfl | (simp; omega), rfl⟩
end Go.Proofs.YtgebghkcikmfaaaGreatDoor

/-
  The walks of the program's Begins and Chosen, and of the choice among those that may. By the verifier.
-/
namespace Go.Proofs.YtgebghkcikmfaaaGreatDoor
open Go.RowKit

set_option maxRecDepth 100000 in
theorem payRow (v : Value) (x y : Int) (w : World) : (Instr.field 211 (.agg #[v, .int .i64 x, .int .i64 y]) 0).run Tryz.prog w = .ok v w := by rfl
theorem implBeg (x : Fw) (a : Option Addr) (c : Nat) (now : Int) (w : World) :
    Calls Tryz.prog 171 #[x.pay a c, .int .i64 now] w fun e w' => e = .returned (.int .i64 (max now x.finish)) ∧ Below w.heap.size w w' := by
  obtain ⟨t, u, fl⟩ := x
  simp only [Fw.pay]
  generalize fl.length = n
  go_enter Tryz.func171, Tryz.ntmps171
  go_wp2
  all_goals
    go_ret
    exact ⟨congrArg (fun z => Ending.returned (Value.int .i64 z)) (by first | rfl | omega | (simp only [Int.max_def]; split <;> omega)), (Below.refl _ _).alloc (Nat.le_refl _) _⟩

end Go.Proofs.YtgebghkcikmfaaaGreatDoor

/-
  A flow put whole among flows of the call's own, its list a new one. By the verifier.
-/
namespace Go.Proofs.YtgebghkcikmfaaaGreatDoor
open Go.RowKit

theorem FwG.flow {base g cap : Nat} {u : Value} {rs : List Fwr} {l : List Fw} {wr W : World} {j : Nat} (h : FwG base (.slice (some ⟨g, 0, none⟩) l.length cap) rs l wr) (hj : j < l.length) (gr : Below wr.heap.size wr W) {r : Fw} (hu : IRow wr.heap.size W u r.sizes) (hb : base ≤ wr.heap.size) :
    FwG base (.slice (some ⟨g, 0, none⟩) l.length cap) (rs.set j ⟨r.weight, r.finish, u⟩) (l.set j r) (((W.setCell ⟨g, j * 3, none⟩ (.int .i64 r.weight)).setCell ⟨g, j * 3 + 1, none⟩ (.int .i64 r.finish)).setCell ⟨g, j * 3 + 2, none⟩ u) := by
  have hW := h.below gr
  have hl := h.len
  have hg : g < wr.heap.size := (World.ownsRow.lt h.outer g rfl).2
  have oth : ∀ y, y ≠ g → (((W.setCell ⟨g, j * 3, none⟩ (.int .i64 r.weight)).setCell ⟨g, j * 3 + 1, none⟩ (.int .i64 r.finish)).setCell ⟨g, j * 3 + 2, none⟩ u).heap[y]? = W.heap[y]? := fun y hy => by
    rw [Below.heap_setCell _ _ _ _ (by exact hy), Below.heap_setCell _ _ _ _ (by exact hy), Below.heap_setCell _ _ _ _ (by exact hy)]
  have new : fwrAt (rs.set j ⟨r.weight, r.finish, u⟩) j = ⟨r.weight, r.finish, u⟩ := fwrAt_set (by omega)
  refine ⟨?_, by simp [hl], fun i hi => ?_, fun i hi => ?_, fun i k x hi hk hne h1 h2 => ?_⟩
  · have h0 := hW.outer
    have h0 := (h0.stored (j * 3) (.int .i64 r.weight)).1
    have h0 := (h0.stored (j * 3 + 1) (.int .i64 r.finish)).1
    have h0 := (h0.stored (j * 3 + 2) u).1
    have hs := fwcells_set rs j ⟨r.weight, r.finish, u⟩
    simp only at hs
    rw [hs] at h0
    rw [List.length_set]
    exact h0
  · rw [List.length_set] at hi
    by_cases hij : i = j
    · subst hij; rw [new, fwAt_set hj]; exact ⟨rfl, rfl⟩
    · rw [fwrAt_other hij, fwAt_other hij]; exact h.num i hi
  · rw [List.length_set] at hi
    by_cases hij : i = j
    · subst hij
      rw [new, fwAt_set hj]
      exact IRow.mono (fwrows_carry hu fun y hy _ => oth y (by have := (hu.lt y hy).1; omega)) hb
    · rw [fwrAt_other hij, fwAt_other hij]
      have hr := hW.row i hi
      exact fwrows_carry hr fun y hy _ => oth y fun e => hW.off hr (by rw [hy, e])
  · rw [List.length_set] at hi hk
    have old : ∀ i, i < l.length → (fwrAt rs i).hd.ownBlock = some x → u.ownBlock ≠ some x := fun i hi a1 a2 => by
      have b1 := ((h.row i hi).lt x a1).2
      have b2 := (hu.lt x a2).1
      omega
    by_cases ei : i = j
    · subst ei
      rw [new] at h1
      rw [fwrAt_other (fun e => hne e.symm)] at h2
      exact old k hk h2 h1
    · rw [fwrAt_other ei] at h1
      by_cases ek : k = j
      · subst ek
        rw [new] at h2
        exact old i hi h1 h2
      · rw [fwrAt_other ek] at h2
        exact h.apart i k x hi hk hne h1 h2
end Go.Proofs.YtgebghkcikmfaaaGreatDoor

/-
  The walks of the program's rows and payers that make new lists: with, rest, first, full, price, joined. By the verifier.
-/
namespace Go.Proofs.YtgebghkcikmfaaaGreatDoor
open Go.RowKit

/-- Three cells of a block put. -/
theorem Boxed.put3 {w : World} {B : Nat} {x y z : Value} {t : TypeId} (h : Boxed w B #[x, y, z] t) (a b c : Value) : Boxed (((w.setCell ⟨B, 0, none⟩ a).setCell ⟨B, 1, none⟩ b).setCell ⟨B, 2, none⟩ c) B #[a, b, c] t := by
  have := ((h.put 0 a).put 1 b).put 2 c
  simpa using this
theorem set3_other (w : World) (B y : Nat) (i j k : Nat) (a b c : Value) (h : y ≠ B) : (((w.setCell ⟨B, i, none⟩ a).setCell ⟨B, j, none⟩ b).setCell ⟨B, k, none⟩ c).heap[y]? = w.heap[y]? := by
  rw [Below.heap_setCell _ _ _ _ (by exact h), Below.heap_setCell _ _ _ _ (by exact h), Below.heap_setCell _ _ _ _ (by exact h)]

theorem implFull (a : Option Addr) (n cap : Nat) (w : World) :
    Calls Tryz.prog 207 #[.slice a n cap] w fun e w' => e = .returned (.bool (decide ((n : Int) = 40))) ∧ w' = w := by
  by_cases hn : (n : Int) = 40
  · rw [decide_eq_true hn]
    go_enter Tryz.func207, Tryz.ntmps207
    go_wp2
    go_ret
    exact ⟨by first | rfl | (simp; omega), rfl⟩
  · rw [decide_eq_false hn]
    go_enter Tryz.func207, Tryz.ntmps207
    go_wp2
    go_ret
    exact ⟨by first | rfl | (simp; omega), rfl⟩
theorem implWithN (a : Option Addr) (c : Nat) (L : List Int) (y : Int) (w : World) (hT : L.length ≤ 1048576) (hc : L.length ≤ c) (hn : a = none → c = 0) (h : Hid (IntsAt w a L)) :
    Calls Tryz.prog 258 #[.slice a L.length c, .int .i64 y] w fun e w' => (∃ v, e = .returned v ∧ IRow w.heap.size w' v (L ++ [y])) ∧ Below w.heap.size w w' := by
  have C := fun (_ : Nat) => implLastN a c L y w hT hc hn h
  generalize L.length = n at C ⊢
  have C' : Hid _ := C
  clear C h hT hc hn
  go_enter Tryz.func258, Tryz.ntmps258
  go_wp2_with fail
  refine (C'.out 0).mono ?_
  rintro e w' ⟨⟨v, rfl, q1⟩, q2⟩
  have R : Hid (IRow w.heap.size w' v (L ++ [y]) ∧ Below w.heap.size w w') := ⟨q1, q2⟩
  clear q1 q2
  go_wp2
  go_ret
  exact ⟨⟨_, rfl, R.out.1⟩, R.out.2⟩

set_option maxHeartbeats 3200000 in
set_option maxRecDepth 100000 in
theorem implJoined (x : Fw) (a : Option Addr) (c : Nat) (size now : Int) (w : World) (hT : x.sizes.length ≤ 1048576) (hc : x.sizes.length ≤ c) (hn : a = none → c = 0) (h : IntsAt w a x.sizes) :
    Calls Tryz.prog 208 #[x.pay a c, .int .i64 size, .int .i64 now] w fun e w' => (∃ v, e = .returned (.agg #[.int .i64 x.weight, .int .i64 (x.more now size).finish, v]) ∧ IRow w.heap.size w' v (x.sizes ++ [size])) ∧ Below w.heap.size w w' := by
  have C := fun w h => implWithN a c x.sizes size w hT hc hn h
  have D := fun w => implEmpty a x.sizes.length c w
  have E := fun w => implBeg x a c now w
  have Hm : Hid ((x.more now size).finish = if x.sizes.length = 0 then max x.finish now else x.finish) := rfl
  have Hx : Hid (max now x.finish = max x.finish now) := by show max now x.finish = max x.finish now; omega
  have HI : Hid (∀ w', Below w.heap.size w w' → IntsAt w' a x.sizes) := fun w' g => h.below g
  have Sh : Hid (∀ {b : Nat} {w : World} {v : Value}, IRow b w v (x.sizes ++ [size]) → ∃ p q, v = .slice p (x.sizes.length + 1) q) := fun h => by
    obtain ⟨p, q, e⟩ := IRow.shape h
    exact ⟨p, q, by rw [e]; simp⟩
  generalize (x.more now size).finish = m at Hm ⊢
  generalize max now x.finish = mx at E Hx
  obtain ⟨t, u, fl⟩ := x
  simp only [Fw.pay] at C D E Hm Hx HI Sh ⊢
  generalize fl.length = n at C D E Hm Sh ⊢
  have C' : Hid _ := C
  have D' : Hid _ := D
  have E' : Hid _ := E
  clear C D E h hT hc hn
  obtain ⟨W0, hW0⟩ : ∃ W0, W0 = (w.alloc (.cells #[.slice a n c, .int .i64 t, .int .i64 u] 211)).alloc (.cells #[.int .i64 0, .int .i64 0, .slice none 0 0] 116) := ⟨_, rfl⟩
  have X : Hid (Boxed W0 w.heap.size #[.slice a n c, .int .i64 t, .int .i64 u] 211 ∧ Boxed W0 (w.heap.size + 1) #[.int .i64 0, .int .i64 0, .slice none 0 0] 116 ∧ Below w.heap.size w W0) := by
    rw [hW0]
    refine ⟨(Boxed.new w _ _).more _, ?_, ((Below.refl _ _).alloc (Nat.le_refl _) _).alloc (by simp) _⟩
    have := Boxed.new (w.alloc (.cells #[.slice a n c, .int .i64 t, .int .i64 u] 211)) #[.int .i64 0, .int .i64 0, .slice none 0 0] 116
    simpa using this
  have HW : Hid (W0 = _) := hW0
  clear hW0
  have c0 : W0.cell? ⟨w.heap.size, 0, none⟩ = some (.slice a n c) := X.out.1.cell 0 rfl
  have c1 : W0.cell? ⟨w.heap.size, 1, none⟩ = some (.int .i64 t) := X.out.1.cell 1 rfl
  have c2 : W0.cell? ⟨w.heap.size, 2, none⟩ = some (.int .i64 u) := X.out.1.cell 2 rfl
  go_enter Tryz.func208, Tryz.ntmps208
  go_upto_region 1 with fail
  rw [← HW.out]
  clear HW
  go_wp2_with fail
  refine (D'.out _).mono ?_
  rintro e W ⟨rfl, hW⟩
  obtain rfl := hW.symm
  clear hW D'
  have rest : Hid (∀ w1, Below W0.heap.size W0 w1 → Boxed w1 w.heap.size #[.slice a n c, .int .i64 t, .int .i64 u] 211 ∧ Boxed w1 (w.heap.size + 1) #[.int .i64 0, .int .i64 0, .slice none 0 0] 116 ∧ Below w.heap.size w w1 ∧ IntsAt w1.drew a fl) := fun w1 g => by
    have b := X.out.2.2.trans (g.mono X.out.2.2.size)
    exact ⟨X.out.1.below X.out.1.under g, X.out.2.1.below X.out.2.1.under g, b, HI.out _ b.drew⟩
  by_cases hz : (n : Int) = 0
  · rw [decide_eq_true hz]
    have e1 : m = mx := by rw [Hm.out, if_pos (by omega), Hx.out]
    subst e1
    clear hz Hm Hx
    go_wp2_with fail
    refine (E'.out _).mono ?_
    rintro e w1 ⟨rfl, q⟩
    have Y : Hid _ := rest.out w1 q
    clear q E' c0 c1 c2
    have c0 : w1.cell? ⟨w.heap.size, 0, none⟩ = some (.slice a n c) := Y.out.1.cell 0 rfl
    have c1 : w1.cell? ⟨w.heap.size, 1, none⟩ = some (.int .i64 t) := Y.out.1.cell 1 rfl
    have c2 : w1.cell? ⟨w.heap.size, 2, none⟩ = some (.int .i64 u) := Y.out.1.cell 2 rfl
    go_upto_region 4 with fail
    go_region_with (go_at_call 258; refine (C'.out w1.drew Y.out.2.2.2).mono ?_; rintro e w2 ⟨⟨v, rfl, q1⟩, q2⟩; obtain ⟨p, q, ev⟩ := Sh.out q1; subst ev; have Z : Hid (Boxed w2 (w.heap.size + 1) #[.int .i64 0, .int .i64 0, .slice none 0 0] 116 ∧ IRow w.heap.size w2 (.slice p (n + 1) q) (fl ++ [size]) ∧ IRow w1.heap.size w2 (.slice p (n + 1) q) (fl ++ [size]) ∧ Below w.heap.size w w2 ∧ w.heap.size + 1 < w1.heap.size) := ⟨Boxed.below (w := w1.drew) Y.out.2.1 Y.out.2.1.under q2, q1.mono Y.out.2.2.1.size, q1, Y.out.2.2.1.drew.trans (q2.mono Y.out.2.2.1.size), Y.out.2.1.under⟩; have B2 : Hid (Boxed w2 w.heap.size #[.slice a n c, .int .i64 t, .int .i64 u] 211) := Boxed.below (w := w1.drew) Y.out.1 Y.out.1.under q2; have c1 : w2.cell? ⟨w.heap.size, 1, none⟩ = some (.int .i64 t) := B2.out.cell 1 rfl; have y0 : w2.cell? ⟨w.heap.size + 1, 0, none⟩ = some (.int .i64 0) := Z.out.1.cell 0 rfl; have y1 : w2.cell? ⟨w.heap.size + 1, 1, none⟩ = some (.int .i64 0) := Z.out.1.cell 1 rfl; have y2 : w2.cell? ⟨w.heap.size + 1, 2, none⟩ = some (.slice none 0 0) := Z.out.1.cell 2 rfl; have i0 := Z.out.1.ice 0; have i1 := Z.out.1.ice 1; have i2 := Z.out.1.ice 2; clear q1 q2)
    all_goals (
      have F : Hid (Boxed (((w2.setCell ⟨w.heap.size + 1, 0, none⟩ (.int .i64 t)).setCell ⟨w.heap.size + 1, 1, none⟩ (.int .i64 m)).setCell ⟨w.heap.size + 1, 2, none⟩ (.slice p (n + 1) q)) (w.heap.size + 1) #[.int .i64 t, .int .i64 m, .slice p (n + 1) q] 116 ∧ IRow w.heap.size (((w2.setCell ⟨w.heap.size + 1, 0, none⟩ (.int .i64 t)).setCell ⟨w.heap.size + 1, 1, none⟩ (.int .i64 m)).setCell ⟨w.heap.size + 1, 2, none⟩ (.slice p (n + 1) q)) (.slice p (n + 1) q) (fl ++ [size]) ∧ Below w.heap.size w (((w2.setCell ⟨w.heap.size + 1, 0, none⟩ (.int .i64 t)).setCell ⟨w.heap.size + 1, 1, none⟩ (.int .i64 m)).setCell ⟨w.heap.size + 1, 2, none⟩ (.slice p (n + 1) q))) := ⟨Z.out.1.put3 _ _ _, IRow.mono (fwrows_carry Z.out.2.2.1 fun y hy _ => set3_other _ _ _ _ _ _ _ _ _ (by have := (Z.out.2.2.1.lt y hy).1; have := Z.out.2.2.2.2; omega)) (by have := Z.out.2.2.2.2; omega), ((Z.out.2.2.2.1.setCell (by show w.heap.size ≤ w.heap.size + 1; omega) _).setCell (by show w.heap.size ≤ w.heap.size + 1; omega) _).setCell (by show w.heap.size ≤ w.heap.size + 1; omega) _⟩
      clear Z y0 y1 y2 i0 i1 i2
      generalize (((w2.setCell ⟨w.heap.size + 1, 0, none⟩ (.int .i64 t)).setCell ⟨w.heap.size + 1, 1, none⟩ (.int .i64 m)).setCell ⟨w.heap.size + 1, 2, none⟩ (.slice p (n + 1) q)) = Y at F ⊢
      go_wp2_with fail
      exact bodyPost_ret (results_cell_row Tryz.results208 _ _ (w.heap.size + 1) _ _ _ _ rfl F.out.1 Tryz.underlying116 rfl (by kernel_rfl)) rfl ⟨⟨_, rfl, F.out.2.1⟩, F.out.2.2⟩)
  · rw [decide_eq_false hz]
    have e1 : m = u := by rw [Hm.out, if_neg (by omega)]
    subst e1
    clear hz Hm Hx E'
    obtain ⟨w1, hw1⟩ : ∃ w1, w1 = W0 := ⟨_, rfl⟩
    have Y : Hid _ := rest.out w1 (by rw [hw1]; exact Below.refl _ _)
    subst hw1
    go_upto_region 4 with fail
    go_region_with (go_at_call 258; refine (C'.out w1.drew Y.out.2.2.2).mono ?_; rintro e w2 ⟨⟨v, rfl, q1⟩, q2⟩; obtain ⟨p, q, ev⟩ := Sh.out q1; subst ev; have Z : Hid (Boxed w2 (w.heap.size + 1) #[.int .i64 0, .int .i64 0, .slice none 0 0] 116 ∧ IRow w.heap.size w2 (.slice p (n + 1) q) (fl ++ [size]) ∧ IRow w1.heap.size w2 (.slice p (n + 1) q) (fl ++ [size]) ∧ Below w.heap.size w w2 ∧ w.heap.size + 1 < w1.heap.size) := ⟨Boxed.below (w := w1.drew) Y.out.2.1 Y.out.2.1.under q2, q1.mono Y.out.2.2.1.size, q1, Y.out.2.2.1.drew.trans (q2.mono Y.out.2.2.1.size), Y.out.2.1.under⟩; have B2 : Hid (Boxed w2 w.heap.size #[.slice a n c, .int .i64 t, .int .i64 m] 211) := Boxed.below (w := w1.drew) Y.out.1 Y.out.1.under q2; have c1 : w2.cell? ⟨w.heap.size, 1, none⟩ = some (.int .i64 t) := B2.out.cell 1 rfl; have y0 : w2.cell? ⟨w.heap.size + 1, 0, none⟩ = some (.int .i64 0) := Z.out.1.cell 0 rfl; have y1 : w2.cell? ⟨w.heap.size + 1, 1, none⟩ = some (.int .i64 0) := Z.out.1.cell 1 rfl; have y2 : w2.cell? ⟨w.heap.size + 1, 2, none⟩ = some (.slice none 0 0) := Z.out.1.cell 2 rfl; have i0 := Z.out.1.ice 0; have i1 := Z.out.1.ice 1; have i2 := Z.out.1.ice 2; clear q1 q2)
    all_goals (
      have F : Hid (Boxed (((w2.setCell ⟨w.heap.size + 1, 0, none⟩ (.int .i64 t)).setCell ⟨w.heap.size + 1, 1, none⟩ (.int .i64 m)).setCell ⟨w.heap.size + 1, 2, none⟩ (.slice p (n + 1) q)) (w.heap.size + 1) #[.int .i64 t, .int .i64 m, .slice p (n + 1) q] 116 ∧ IRow w.heap.size (((w2.setCell ⟨w.heap.size + 1, 0, none⟩ (.int .i64 t)).setCell ⟨w.heap.size + 1, 1, none⟩ (.int .i64 m)).setCell ⟨w.heap.size + 1, 2, none⟩ (.slice p (n + 1) q)) (.slice p (n + 1) q) (fl ++ [size]) ∧ Below w.heap.size w (((w2.setCell ⟨w.heap.size + 1, 0, none⟩ (.int .i64 t)).setCell ⟨w.heap.size + 1, 1, none⟩ (.int .i64 m)).setCell ⟨w.heap.size + 1, 2, none⟩ (.slice p (n + 1) q))) := ⟨Z.out.1.put3 _ _ _, IRow.mono (fwrows_carry Z.out.2.2.1 fun y hy _ => set3_other _ _ _ _ _ _ _ _ _ (by have := (Z.out.2.2.1.lt y hy).1; have := Z.out.2.2.2.2; omega)) (by have := Z.out.2.2.2.2; omega), ((Z.out.2.2.2.1.setCell (by show w.heap.size ≤ w.heap.size + 1; omega) _).setCell (by show w.heap.size ≤ w.heap.size + 1; omega) _).setCell (by show w.heap.size ≤ w.heap.size + 1; omega) _⟩
      clear Z y0 y1 y2 i0 i1 i2
      generalize (((w2.setCell ⟨w.heap.size + 1, 0, none⟩ (.int .i64 t)).setCell ⟨w.heap.size + 1, 1, none⟩ (.int .i64 m)).setCell ⟨w.heap.size + 1, 2, none⟩ (.slice p (n + 1) q)) = Y at F ⊢
      go_wp2_with fail
      exact bodyPost_ret (results_cell_row Tryz.results208 _ _ (w.heap.size + 1) _ _ _ _ rfl F.out.1 Tryz.underlying116 rfl (by kernel_rfl)) rfl ⟨⟨_, rfl, F.out.2.1⟩, F.out.2.2⟩)
end Go.Proofs.YtgebghkcikmfaaaGreatDoor

/-
  A list of records with a list (Flow) that is laid one by one, each list a row of the call's own. By the verifier, by program.
-/
namespace Go.Proofs.YtgebghkcikmfaaaGreatDoor
open Go.RowKit

/-- So many of the records laid already, each one's list behind the records (block G). -/
structure FwL (ls : List Fw) (len G k : Nat) (rs : List Fwr) (wr : World) : Prop where
  outer : wr.ownsRow G 116 3 (.slice (some ⟨G, 0, none⟩) len len) len (fwcells (rs ++ List.replicate (len - k) (Fwr.mk 0 0 (.slice none 0 0))))
  len : rs.length = k
  num : ∀ i, i < k → (fwrAt rs i).weight = (fwAt ls i).weight ∧ (fwrAt rs i).finish = (fwAt ls i).finish
  row : ∀ i, i < k → IRow (G + 1) wr (fwrAt rs i).hd (fwAt ls i).sizes
  apart : ∀ i j x, i < k → j < k → i ≠ j → (fwrAt rs i).hd.ownBlock = some x → (fwrAt rs j).hd.ownBlock ≠ some x
section
variable {ls : List Fw} {len G k : Nat} {rs : List Fwr} {wr wd : World} {u : Value}
theorem FwL.below (h : FwL ls len G k rs wr) (gr : Below wr.heap.size wr wd) : FwL ls len G k rs wd :=
  ⟨fwrows_carry h.outer fun x _ hx => gr.block x hx, h.len, h.num, fun i hi => fwrows_carry (h.row i hi) fun x _ hx => gr.block x hx, h.apart⟩
theorem FwL.add (h : FwL ls len G k rs wr) (hk : k < len) (gr : Below wr.heap.size wr wd) (hu : IRow wr.heap.size wd u (fwAt ls k).sizes) :
    FwL ls len G (k + 1) (rs ++ [⟨(fwAt ls k).weight, (fwAt ls k).finish, u⟩]) (((wd.setCell ⟨G, k * 3, none⟩ (.int .i64 (fwAt ls k).weight)).setCell ⟨G, k * 3 + 1, none⟩ (.int .i64 (fwAt ls k).finish)).setCell ⟨G, k * 3 + 2, none⟩ u) := by
  have hb := h.below gr
  have hG : G < wr.heap.size := (World.ownsRow.lt h.outer G rfl).2
  have hl := h.len
  have oth : ∀ y, y ≠ G → (((wd.setCell ⟨G, k * 3, none⟩ (.int .i64 (fwAt ls k).weight)).setCell ⟨G, k * 3 + 1, none⟩ (.int .i64 (fwAt ls k).finish)).setCell ⟨G, k * 3 + 2, none⟩ u).heap[y]? = wd.heap[y]? := fun y hy => by
    rw [Below.heap_setCell _ _ _ _ (by exact hy), Below.heap_setCell _ _ _ _ (by exact hy), Below.heap_setCell _ _ _ _ (by exact hy)]
  refine ⟨?_, by simp [hl], fun i hi => ?_, fun i hi => ?_, fun i j x hi hj hne h1 h2 => ?_⟩
  · have h0 := hb.outer
    have h0 := (h0.stored (k * 3) (.int .i64 (fwAt ls k).weight)).1
    have h0 := (h0.stored (k * 3 + 1) (.int .i64 (fwAt ls k).finish)).1
    have h0 := (h0.stored (k * 3 + 2) u).1
    have hs := fwcells_set (rs ++ List.replicate (len - k) (Fwr.mk 0 0 (.slice none 0 0))) k ⟨(fwAt ls k).weight, (fwAt ls k).finish, u⟩
    simp only at hs
    rw [hs] at h0
    have e : (rs ++ List.replicate (len - k) (Fwr.mk 0 0 (.slice none 0 0))).set k ⟨(fwAt ls k).weight, (fwAt ls k).finish, u⟩ = (rs ++ [⟨(fwAt ls k).weight, (fwAt ls k).finish, u⟩]) ++ List.replicate (len - (k + 1)) (Fwr.mk 0 0 (.slice none 0 0)) := by
      obtain ⟨n, hn⟩ : ∃ n, len - k = n + 1 := ⟨len - k - 1, by omega⟩
      rw [hn, show len - (k + 1) = n by omega, List.replicate_succ, List.set_append_right _ _ (by omega), hl, Nat.sub_self, List.set_cons_zero]
      simp
    rw [e] at h0
    exact h0
  · by_cases e : i = k
    · subst e
      rw [← hl, fwrAt_new, hl]
      try exact ⟨rfl, rfl⟩
    · rw [fwrAt_old (by omega)]
      exact h.num i (by omega)
  · by_cases e : i = k
    · subst e
      rw [← hl, fwrAt_new, hl]
      exact IRow.mono (fwrows_carry hu fun y hy hlt => oth y (by have := (hu.lt y hy).1; omega)) (by omega)
    · rw [fwrAt_old (by omega)]
      refine fwrows_carry (hb.row i (by omega)) fun y hy _ => oth y ?_
      have := ((hb.row i (by omega)).lt y hy).1
      omega
  · have old : ∀ i, i < k → (fwrAt rs i).hd.ownBlock = some x → u.ownBlock ≠ some x := fun i hi a1 a2 => by
      have b1 := ((h.row i hi).lt x a1).2
      have b2 := (hu.lt x a2).1
      omega
    have new : fwrAt (rs ++ [⟨(fwAt ls k).weight, (fwAt ls k).finish, u⟩]) k = ⟨(fwAt ls k).weight, (fwAt ls k).finish, u⟩ := by rw [← hl, fwrAt_new]
    by_cases ei : i = k
    · subst ei
      rw [new] at h1
      rw [fwrAt_old (by omega)] at h2
      exact old j (by omega) h2 h1
    · rw [fwrAt_old (by omega)] at h1
      by_cases ej : j = k
      · subst ej
        rw [new] at h2
        exact old i (by omega) h1 h2
      · rw [fwrAt_old (by omega)] at h2
        exact h.apart i j x (by omega) (by omega) hne h1 h2
theorem FwL.grow (h : FwL ls len G len rs wr) (hl : ls.length = len) : FwG G (.slice (some ⟨G, 0, none⟩) len len) rs ls wr := by
  subst hl
  have ho := h.outer
  rw [Nat.sub_self, List.replicate_zero, List.append_nil] at ho
  exact ⟨ho, h.len, h.num, fun i hi => IRow.mono (h.row i hi) (by omega), h.apart⟩
/-- Laid anew, none yet. -/
theorem FwL.new (ls : List Fw) (len : Nat) (w : World) (hT : len ≤ 1048576) : FwL ls len w.heap.size 0 [] (w.alloc (.cells (madeCells #[.int .i64 0, .int .i64 0, .slice none 0 0] (len * 3)) 116)) := by
  have := World.ownsRow_lit (size := 3) (e := 116) (base := w.heap.size) w (madeCells #[.int .i64 0, .int .i64 0, .slice none 0 0] (len * 3)) len (Nat.le_refl _) (by unfold maxLen; omega) (by rw [size_madeCells])
  rw [fwMade] at this
  exact ⟨by simpa using this, rfl, fun i hi => by omega, fun i hi => by omega, fun i j x hi => by omega⟩
/-- The cells of the next one are there. -/
theorem FwL.cell (h : FwL ls len G k rs wr) (hk : k < len) {j : Nat} (hj : j < 3) : (∃ y, wr.cell? ⟨G, k * 3 + j, none⟩ = some y) ∧ wr.frozen? ⟨G, k * 3 + j, none⟩ = false := by
  have hcl := fwcells_length (rs ++ List.replicate (len - k) (Fwr.mk 0 0 (.slice none 0 0)))
  have hlr := h.len
  simp only [List.length_append, List.length_replicate] at hcl
  refine ⟨?_, h.outer.frozenAt (k * 3 + j)⟩
  rw [h.outer.cellAt (k * 3 + j) (by omega)]
  exact ⟨_, List.getElem?_eq_getElem (by omega)⟩
end
end Go.Proofs.YtgebghkcikmfaaaGreatDoor

/-
  The walk of the program's copy of flows. By the verifier.
-/
namespace Go.Proofs.YtgebghkcikmfaaaGreatDoor
open Go.RowKit

set_option maxHeartbeats 6400000 in
set_option maxRecDepth 100000 in
theorem implOwnFair (d : Fs) (a : Option Addr) (c : Nat) (w : World) (hB : d.big ≤ 1048576) (h : Hid (FwsAt w a d.flows)) :
    Calls Tryz.prog 101 #[d.val a c] w fun e w' => (∃ v rs, e = .returned (.agg #[.int .i64 d.now, v]) ∧ FwG (w.heap.size + 2) v rs d.flows w') ∧ Below w.heap.size w w' := by
  obtain ⟨hT, -, hin⟩ := Fs.small hB
  obtain ⟨f, ls⟩ := d
  simp only [Fs.val] at h hT hin ⊢
  clear hB
  have Hin : Hid (∀ k, k < ls.length → (fwAt ls k).sizes.length ≤ 1048576) := hin
  obtain ⟨i0, hi, hz0, hz1, hz2⟩ := info_parts fwInfo
  obtain ⟨n, hn⟩ : ∃ n, ls.length = n := ⟨_, rfl⟩
  rw [hn] at hT ⊢
  have Hn : Hid (ls.length = n) := hn
  clear hn hin
  have hmk : ∀ wx, (Instr.makeSlice 46 (.int .i64 (n : Int)) (.int .i64 (n : Int))).run Tryz.prog wx = .ok (.slice (some ⟨wx.heap.size, 0, none⟩) n n) (wx.alloc (.cells (madeCells #[.int .i64 0, .int .i64 0, .slice none 0 0] (n * 3)) 116)) := by
    intro wx
    have := run_make (P := Tryz.prog) wx 46 116 i0 (.agg #[.int .i64 0, .int .i64 0, .slice none 0 0]) Tryz.underlying46 hi hz0 .i64 .i64 n n (by omega) (by omega) (by rw [hz2]; omega) (by omega)
    rw [this, hz1]; simp [Value.cells]
  clear hi hz0 hz1 hz2
  obtain ⟨W0, hW0⟩ : ∃ W0, W0 = (w.alloc (.cells #[.int .i64 f, .slice a n c] 48)).alloc (.cells #[.int .i64 0, .slice none 0 0] 48) := ⟨_, rfl⟩
  have hs0 : W0.heap.size = w.heap.size + 1 + 1 := by rw [hW0]; simp
  have X0 : Hid (Boxed W0 w.heap.size #[.int .i64 f, .slice a n c] 48 ∧ Boxed W0 (w.heap.size + 1) #[.int .i64 0, .slice none 0 0] 48 ∧ Below w.heap.size w W0) := by
    rw [hW0]
    refine ⟨(Boxed.new w _ _).more _, ?_, ((Below.refl _ _).alloc (Nat.le_refl _) _).alloc (by simp) _⟩
    have := Boxed.new (w.alloc (.cells #[.int .i64 f, .slice a n c] 48)) #[.int .i64 0, .slice none 0 0] 48
    simpa using this
  have X : Hid (FwL ls n (w.heap.size + 1 + 1) 0 [] (W0.alloc (.cells (madeCells #[.int .i64 0, .int .i64 0, .slice none 0 0] (n * 3)) 116)) ∧ Below (w.heap.size + 1 + 1) W0 (W0.alloc (.cells (madeCells #[.int .i64 0, .int .i64 0, .slice none 0 0] (n * 3)) 116))) := by
    rw [← hs0]
    exact ⟨FwL.new ls n W0 hT, (Below.refl _ _).alloc (Nat.le_refl _) _⟩
  have HS : Hid (W0.heap.size = w.heap.size + 1 + 1) := hs0
  have HW : Hid (W0 = _) := hW0
  clear hW0 hs0
  go_enter Tryz.func101, Tryz.ntmps101
  go_wp2
  rw [← HW.out]
  generalize W0.alloc (.cells (madeCells #[.int .i64 0, .int .i64 0, .slice none 0 0] (n * 3)) 116) = W1 at X ⊢
  go_loopw [4, 5, 13] (fun _ _ i wr => ∃ k : Nat, k ≤ n ∧ i = .int .i64 k ∧ Hid (∃ rs, FwL ls n (w.heap.size + 1 + 1) k rs wr ∧ Below (w.heap.size + 1 + 1) W0 wr)) (fun _ _ i _ => n - (intOf i).toNat)
  case atStart => exact ⟨0, Nat.zero_le _, rfl, [], X.out⟩
  case round =>
    clear X hmk
    obtain ⟨k, hk, rfl, H1⟩ := hrel
    obtain ⟨rs, H1⟩ : ∃ rs, Hid (FwL ls n (w.heap.size + 1 + 1) k rs wr ∧ Below (w.heap.size + 1 + 1) W0 wr) := H1.out
    have Bw : Hid (Below w.heap.size w wr) := X0.out.2.2.trans (H1.out.2.mono (by omega))
    obtain ⟨wo, rfl⟩ : ∃ wo, wo = wr := ⟨_, rfl⟩
    by_cases hlt : k < n
    · have hkl : k < ls.length := by rw [Hn.out]; exact hlt
      obtain ⟨b1, o1, ak, ck, ha1, hb1, ⟨c0, c1, c2⟩, hr1, -⟩ := (h.out.below Bw.out) k hkl
      subst ha1
      have hn := Hin.out k hkl
      have T := fun w h => implCopyN ak ck (fwAt ls k).sizes w h hn
      have hG : w.heap.size + 1 + 1 < wo.heap.size := (World.ownsRow.lt H1.out.1.outer _ rfl).2
      have hlt' : (k : Int) < (n : Int) := by omega
      have St : Hid (∀ w1 w2 u, Below wo.heap.size wo w1 → IRow w1.heap.size w2 u (fwAt ls k).sizes → Below w1.heap.size w1 w2 →
          (∃ rs', FwL ls n (w.heap.size + 1 + 1) (k + 1) rs' (((w2.setCell ⟨w.heap.size + 1 + 1, k * 3, none⟩ (.int .i64 (fwAt ls k).weight)).setCell ⟨w.heap.size + 1 + 1, k * 3 + 1, none⟩ (.int .i64 (fwAt ls k).finish)).setCell ⟨w.heap.size + 1 + 1, k * 3 + 2, none⟩ u) ∧ Below (w.heap.size + 1 + 1) W0 (((w2.setCell ⟨w.heap.size + 1 + 1, k * 3, none⟩ (.int .i64 (fwAt ls k).weight)).setCell ⟨w.heap.size + 1 + 1, k * 3 + 1, none⟩ (.int .i64 (fwAt ls k).finish)).setCell ⟨w.heap.size + 1 + 1, k * 3 + 2, none⟩ u)) ∧ ((∃ y, w2.cell? ⟨w.heap.size + 1 + 1, k * 3, none⟩ = some y) ∧ w2.frozen? ⟨w.heap.size + 1 + 1, k * 3, none⟩ = false) ∧ ((∃ y, w2.cell? ⟨w.heap.size + 1 + 1, k * 3 + 1, none⟩ = some y) ∧ w2.frozen? ⟨w.heap.size + 1 + 1, k * 3 + 1, none⟩ = false) ∧ ((∃ y, w2.cell? ⟨w.heap.size + 1 + 1, k * 3 + 2, none⟩ = some y) ∧ w2.frozen? ⟨w.heap.size + 1 + 1, k * 3 + 2, none⟩ = false)) := fun w1 w2 u q0 q1 q2 => by
        have hb0 := H1.out.1.below q0
        have hb := hb0.below q2
        refine ⟨⟨_, hb0.add hlt q2 q1, (((((H1.out.2.trans (q0.mono (Nat.le_of_lt hG))).trans (q2.mono (Nat.le_trans (Nat.le_of_lt hG) q0.size)))).setCell (Nat.le_refl _) _).setCell (Nat.le_refl _) _).setCell (Nat.le_refl _) _⟩, ?_, hb.cell hlt (j := 1) (by omega), hb.cell hlt (j := 2) (by omega)⟩
        have := hb.cell hlt (j := 0) (by omega)
        simpa using this
      generalize fwAt ls k = q at c0 c1 c2 hr1 T St
      obtain ⟨t, tu, fl⟩ := q
      simp only at c0 c1 c2 hr1 T St
      have Hm : Hid (∀ {base : Nat} {w : World} {u : Value}, IRow base w u fl → ∃ x y, u = .slice x fl.length y) := fun h => h.shape
      generalize fl.length = m at c2 T Hm
      have T' : Hid _ := T
      have N : Hid (Boxed (wo.alloc (.cells #[.int .i64 0, .int .i64 0, .slice none 0 0] 116)) wo.heap.size #[.int .i64 0, .int .i64 0, .slice none 0 0] 116) := Boxed.new _ _ _
      obtain ⟨wh, hwh⟩ : ∃ wh, (wo.alloc (.cells #[.int .i64 0, .int .i64 0, .slice none 0 0] 116)).setRow wo.heap.size #[.int .i64 t, .int .i64 tu, .slice ak m ck] = wh := ⟨_, rfl⟩
      have b0 : Below wo.heap.size wo wh := by rw [← hwh]; exact below_setRow ((Below.refl _ _).alloc (Nat.le_refl _) _) (Nat.le_refl _) _
      have V : Hid (Boxed wh wo.heap.size #[.int .i64 t, .int .i64 tu, .slice ak m ck] 116 ∧ Below wo.heap.size wo wh ∧ IntsAt wh.drew ak fl) := ⟨by rw [← hwh]; exact setRow_heap _ _ _ _ _ _ N.out, b0, hr1.below b0.drew⟩
      have HW2 : Hid _ := hwh
      clear T hr1 hn hwh b0 hkl
      go_upto_region 5 with (refine wpList_store_row rfl 116 (.tmp 5) (.tmp 17) rfl wo.heap.size #[.int .i64 t, .int .i64 tu, .slice ak m ck] rfl rfl _ _ N.out (by kernel_rfl) rfl (by simp [Value.oneCell']) ?_)
      rw [HW2.out]
      clear N HW2 c0 c1 c2
      have d0 : wh.cell? ⟨wo.heap.size, 0, none⟩ = some (.int .i64 t) := V.out.1.cell 0 rfl
      have d1 : wh.cell? ⟨wo.heap.size, 1, none⟩ = some (.int .i64 tu) := V.out.1.cell 1 rfl
      have d2 : wh.cell? ⟨wo.heap.size, 2, none⟩ = some (.slice ak m ck) := V.out.1.cell 2 rfl
      have dl : wo.heap.size < wh.heap.size := V.out.1.under
      go_region_with (go_at_call 98; refine (T'.out wh.drew V.out.2.2).mono ?_; rintro e w2 ⟨u, rfl, q1, q2⟩; obtain ⟨x, y, ev⟩ := Hm.out q1; subst ev; obtain ⟨H3, ⟨⟨y0, hy0⟩, hz0⟩, ⟨⟨y1, hy1⟩, hz1⟩, ⟨yy2, hy2⟩, hz2⟩ := St.out wh.drew w2 _ V.out.2.1.drew q1 q2; have H3 : Hid _ := H3; have hG2 : w.heap.size + 1 + 1 < w2.heap.size := Nat.lt_of_lt_of_le hG (Nat.le_trans V.out.2.1.size q2.size); have V2 : Hid (Boxed w2 wo.heap.size #[.int .i64 t, .int .i64 tu, .slice ak m ck] 116) := Boxed.below (w := wh.drew) V.out.1 dl q2; have d0 : w2.cell? ⟨wo.heap.size, 0, none⟩ = some (.int .i64 t) := V2.out.cell 0 rfl; have d1 : w2.cell? ⟨wo.heap.size, 1, none⟩ = some (.int .i64 tu) := V2.out.cell 1 rfl; clear q1 q2)
      all_goals (
        go_wp2
        go_roundw
        case rel => exact ⟨k + 1, by omega, by go_num, H3⟩
        case measure => simp [intOf]; omega)
    · obtain rfl : k = n := by omega
      have hlt2 : w.heap.size + 1 < w.heap.size + 1 + 1 := by omega
      have B0 : Hid (Boxed wo w.heap.size #[.int .i64 f, .slice a k c] 48 ∧ Boxed wo (w.heap.size + 1) #[.int .i64 0, .slice none 0 0] 48 ∧ FwG (w.heap.size + 1 + 1) (.slice (some ⟨w.heap.size + 1 + 1, 0, none⟩) k k) rs ls wo) := ⟨X0.out.1.below (by omega) H1.out.2, X0.out.2.1.below hlt2 H1.out.2, H1.out.1.grow Hn.out⟩
      have c0 : wo.cell? ⟨w.heap.size, 0, none⟩ = some (.int .i64 f) := B0.out.1.cell 0 rfl
      clear H1 hlt2
      go_wp2_with (refine wpList_store_row rfl 48 (.tmp 2) (.tmp 33) rfl (w.heap.size + 1) _ rfl rfl _ _ B0.out.2.1 (by kernel_rfl) rfl (by simp [Value.oneCell']) ?_)
      refine bodyPost_ret (results_cell_row Tryz.results101 _ _ (w.heap.size + 1) _ _ _ _ rfl (setRow_heap _ (w.heap.size + 1) _ _ _ _ B0.out.2.1) Tryz.underlying48 rfl (by kernel_rfl)) rfl ⟨⟨_, rs, rfl, B0.out.2.2.other fun y hy _ => setRow_other _ _ _ _ (by omega)⟩, below_setRow Bw.out (by omega) _⟩
end Go.Proofs.YtgebghkcikmfaaaGreatDoor

/-
  The walk of the model's Served. By the verifier.
-/
namespace Go.Proofs.YtgebghkcikmfaaaGreatDoor
open Go.RowKit

theorem fsIn_zero (b t : Nat) (w : World) : FsIn b t w (.agg #[.int .i64 0, .slice none 0 0]) ⟨0, []⟩ :=
  ⟨none, 0, rfl, [], ⟨SlIn.nil _ _ _ _ _ _, rfl, fun i hi => by simp at hi, fun i hi => by simp at hi, fun i hi => by simp at hi, fun i j k o hi => by simp at hi, fun i k o hi => by simp at hi⟩⟩
end Go.Proofs.YtgebghkcikmfaaaGreatDoor

/-
  The walk of the program's Queued. By the verifier, by program.
-/
namespace Go.Proofs.YtgebghkcikmfaaaGreatDoor
open Go.RowKit

set_option maxHeartbeats 6400000 in
set_option maxRecDepth 100000 in
theorem implQueued (d : Fs) (v : Value) (flow size : Int) (w : World) (hB : d.big ≤ 1048576) (h : Hid (FsAt w v d)) :
    Calls Tryz.prog 137 #[v, .int .i64 flow, .int .i64 size] w fun e w' => (∃ v', e = .returned (.tuple #[v', .bool (d.queuedB flow size)]) ∧ FsIn w.heap.size w'.heap.size w' v' (d.queued flow size)) ∧ Below w.heap.size w w' := by
  have A1 := fun v w h => implFairOk d v w hB h
  have A3 := fun a c w h => implOwnFair d a c w hB h
  obtain ⟨a, c, rfl, k1⟩ := h.out
  clear h
  have Hv : Hid (d.queued flow size = if d.ok = true then (if d.mayQ flow size = true then ⟨d.now, d.flows.set flow.toNat ((fwAt d.flows flow.toNat).more d.now size)⟩ else d) else ⟨0, []⟩) := rfl
  have Hb : Hid (d.queuedB flow size = (d.ok && d.mayQ flow size)) := rfl
  have Hm : Hid (d.mayQ flow size = decide ((0 ≤ flow ∧ flow < (d.flows.length : Int)) ∧ (1 ≤ size ∧ size ≤ 2000) ∧ (fwAt d.flows flow.toNat).sizes.length ≠ 40)) := rfl
  have Hg : Hid (d.ok = true → d.flows.length ≤ 8 ∧ ∀ k, k < d.flows.length → (fwAt d.flows k).ok = true) := fun hk => ⟨(Fs.ok_iff.1 hk).2.1.2, fun k h => Fs.ok_at hk h⟩
  generalize d.queued flow size = F at Hv ⊢
  generalize d.queuedB flow size = bb at Hb ⊢
  have A2 : ∀ a c w, FwsAt w a d.flows → Calls Tryz.prog 154 #[.agg #[.int .i64 d.now, .slice a d.flows.length c]] w fun e w' => e = .returned (.bool d.ok) ∧ Below w.heap.size w w' := fun a c w h => A1 _ w ⟨a, c, rfl, h⟩
  generalize d.mayQ flow size = may at Hv Hb Hm
  generalize d.ok = ok at A2 Hv Hb Hg
  clear A1 hB
  obtain ⟨f, ls⟩ := d
  simp only [Fs.val] at A2 A3 Hv Hm Hg k1 ⊢
  obtain ⟨n, hn⟩ : ∃ n, ls.length = n := ⟨_, rfl⟩
  have Hn : Hid (ls.length = n) := hn
  rw [hn] at A2 A3 Hm Hg ⊢
  clear hn
  have A2' : Hid _ := A2
  have A3' : Hid _ := A3
  clear A2 A3
  have X : Hid (FwsAt ((w.alloc (.cells #[.int .i64 f, .slice a n c] 48)).alloc (.cells #[.int .i64 0, .slice none 0 0] 48)) a ls ∧ Boxed ((w.alloc (.cells #[.int .i64 f, .slice a n c] 48)).alloc (.cells #[.int .i64 0, .slice none 0 0] 48)) w.heap.size #[.int .i64 f, .slice a n c] 48 ∧ Boxed ((w.alloc (.cells #[.int .i64 f, .slice a n c] 48)).alloc (.cells #[.int .i64 0, .slice none 0 0] 48)) (w.heap.size + 1) #[.int .i64 0, .slice none 0 0] 48 ∧ Below w.heap.size w ((w.alloc (.cells #[.int .i64 f, .slice a n c] 48)).alloc (.cells #[.int .i64 0, .slice none 0 0] 48))) := by
    refine ⟨(k1.alloc _).alloc _, (Boxed.new w _ _).more _, ?_, ((Below.refl _ _).alloc (Nat.le_refl _) _).alloc (by simp) _⟩
    have := Boxed.new (w.alloc (.cells #[.int .i64 f, .slice a n c] 48)) #[.int .i64 0, .slice none 0 0] 48
    simpa using this
  clear k1
  go_enter Tryz.func137, Tryz.ntmps137
  go_wp2_with (refine wpList_load_row rfl 48 (.tmp 3) rfl w.heap.size rfl _ _ _ _ X.out.2.1 Tryz.underlying48 rfl (by kernel_rfl) ?_)
  refine (A2'.out _ _ _ X.out.1).mono ?_
  rintro e w1 ⟨rfl, q⟩
  have X1 : Hid (FwsAt w1 a ls ∧ Boxed w1 w.heap.size #[.int .i64 f, .slice a n c] 48 ∧ Boxed w1 (w.heap.size + 1) #[.int .i64 0, .slice none 0 0] 48 ∧ Below w.heap.size w w1) := ⟨X.out.1.below q, X.out.2.1.below X.out.2.1.under q, X.out.2.2.1.below X.out.2.2.1.under q, X.out.2.2.2.trans (q.mono X.out.2.2.2.size)⟩
  clear q X A2'
  cases ok
  · have e1 : F = ⟨0, []⟩ := by rw [Hv.out]; rfl
    have e2 : bb = false := by rw [Hb.out]; rfl
    subst e1 e2
    go_wp2_with (refine wpList_store_row rfl 48 (.tmp 6) (.tmp 12) rfl (w.heap.size + 1) #[.int .i64 0, .slice none 0 0] rfl rfl _ _ X1.out.2.2.1 (by kernel_rfl) rfl (by simp [Value.oneCell']) ?_)
    exact bodyPost_ret (results_row_tmp Tryz.results137 _ _ (w.heap.size + 1) _ _ _ _ (.bool false) rfl rfl (setRow_heap _ (w.heap.size + 1) _ _ _ _ X1.out.2.2.1) Tryz.underlying48 rfl (by kernel_rfl)) rfl ⟨⟨_, rfl, fsIn_zero _ _ _⟩, below_setRow X1.out.2.2.2 (by omega) _⟩
  go_wp2_with (refine wpList_load_row rfl 48 (.tmp 3) rfl w.heap.size rfl _ _ _ _ X1.out.2.1 Tryz.underlying48 rfl (by kernel_rfl) ?_)
  refine (A3'.out _ _ _ X1.out.1).mono ?_
  rintro e w2 ⟨⟨vv, rs, rfl, hG⟩, q⟩
  obtain ⟨vx, vc, ev⟩ := fwrows_shape hG.outer
  rw [Hn.out] at ev
  subst ev
  have N : Hid (Boxed (w2.alloc (.cells #[.int .i64 0, .slice none 0 0] 48)) w2.heap.size #[.int .i64 0, .slice none 0 0] 48) := Boxed.new _ _ _
  obtain ⟨w3, hw3⟩ : ∃ w3, (w2.alloc (.cells #[.int .i64 0, .slice none 0 0] 48)).setRow w2.heap.size #[.int .i64 f, .slice vx n vc] = w3 := ⟨_, rfl⟩
  obtain ⟨B, hB⟩ : ∃ B, w2.heap.size = B := ⟨_, rfl⟩
  have b3 : Below w2.heap.size w2 w3 := by rw [← hw3]; exact below_setRow ((Below.refl _ _).alloc (Nat.le_refl _) _) (Nat.le_refl _) _
  have X3 : Hid (Boxed w3 w.heap.size #[.int .i64 f, .slice a n c] 48 ∧ Boxed w3 (w.heap.size + 1) #[.int .i64 0, .slice none 0 0] 48 ∧ Boxed w3 B #[.int .i64 f, .slice vx n vc] 48 ∧ Below w.heap.size w w3 ∧ FwsAt w3 a ls) := by
    have u1 := X1.out.2.2.1.under
    have u2 := q.size
    refine ⟨(X1.out.2.1.below X1.out.2.1.under q).below (by omega) b3, (X1.out.2.2.1.below u1 q).below (by omega) b3, ?_, (X1.out.2.2.2.trans (q.mono X1.out.2.2.2.size)).trans (b3.mono (by have := X1.out.2.2.2.size; omega)), (X1.out.1.below q).below b3⟩
    rw [← hB, ← hw3]
    exact setRow_heap _ _ _ _ _ _ N.out
  have Y3 : Hid (FwG (w1.heap.size + 2) (.slice vx n vc) rs ls w2 ∧ Below w2.heap.size w2 w3 ∧ w.heap.size + 2 ≤ w1.heap.size ∧ w1.heap.size ≤ w2.heap.size) := ⟨hG, b3, X1.out.2.2.1.under, q.size⟩
  have HB : Hid _ := hB
  have H3 : Hid _ := hw3
  clear hB hw3 b3 hG q X1
  go_upto_region 4 with (refine wpList_store_row rfl 48 (.tmp 8) (.tmp 14) rfl w2.heap.size #[.int .i64 f, .slice vx n vc] rfl rfl _ _ N.out (by kernel_rfl) rfl (by simp [Value.oneCell']) ?_)
  rw [H3.out, HB.out]
  clear N H3 A3'
  obtain ⟨hl8, hg⟩ := Hg.out (by first | exact trivial | exact rfl)
  have HG : Hid _ := hg
  clear hg Hg
  have Bsz : Hid (w.heap.size + 2 ≤ B ∧ B < w3.heap.size) := ⟨by have := Y3.out.2.2; have := HB.out; omega, X3.out.2.2.1.under⟩
  have lift : Hid (∀ x, Below w3.heap.size w3 x → Boxed x w.heap.size #[.int .i64 f, .slice a n c] 48 ∧ Boxed x (w.heap.size + 1) #[.int .i64 0, .slice none 0 0] 48 ∧ Boxed x B #[.int .i64 f, .slice vx n vc] 48 ∧ Below w.heap.size w x ∧ FwsAt x a ls) := fun x g => by
    have hb := Bsz.out
    exact ⟨X3.out.1.below (by omega) g, X3.out.2.1.below (by omega) g, X3.out.2.2.1.below (by omega) g, X3.out.2.2.2.1.trans (g.mono X3.out.2.2.2.1.size), X3.out.2.2.2.2.below g⟩
  have low : Hid (∀ x, Below w3.heap.size w3 x → Below w2.heap.size w2 x) := fun x g => Y3.out.2.1.trans (g.mono Y3.out.2.1.size)
  have fin : Hid (∀ x y : World, Below w3.heap.size w3 y → (∀ k, k ≠ w.heap.size + 1 → x.heap[k]? = y.heap[k]?) → y.heap.size ≤ x.heap.size → FsIn w.heap.size x.heap.size x (.agg #[.int .i64 f, .slice vx n vc]) ⟨f, ls⟩) := fun x y g hx hs => by
    refine ⟨vx, vc, by simp [Fs.val, Hn.out], ?_⟩
    show FwsIn _ _ _ (.slice vx ls.length vc) ls
    rw [Hn.out]
    have h1 := Y3.out.2.2
    have h3 := (low.out y g).size
    exact ⟨rs, ((Y3.out.1.done.below (low.out y g)).keep hs fun k k1 k2 => hx k (by omega)).wide (by omega) (by omega) (Nat.le_refl _)⟩
  have no : Hid (may = false → F = ⟨f, ls⟩ ∧ bb = false) := fun e => ⟨by rw [Hv.out, e]; rfl, by rw [Hb.out, e]; rfl⟩
  have AP1 := fun (w : World) => implPlace n flow w (by omega)
  have Hp1 : Hid (inB 0 ((n : Int) - 1) flow = true ↔ 0 ≤ flow ∧ flow ≤ (n : Int) - 1) := inB_true
  generalize inB 0 ((n : Int) - 1) flow = p1 at AP1 Hp1
  have AP1' : Hid _ := AP1
  have AP2 := fun B w hh => implFromOne 2000 size B w hh
  have Hp2 : Hid (inB 1 2000 size = true ↔ 1 ≤ size ∧ size ≤ 2000) := inB_true
  generalize inB 1 2000 size = p2 at AP2 Hp2
  have AP2' : Hid _ := AP2
  clear AP1 AP2
  have cb : w3.cell? ⟨w.heap.size, 1, none⟩ = some (.slice a n c) := X3.out.1.cell 1 rfl
  cases p1
  · obtain ⟨e1, e2⟩ := no.out (by rw [Hm.out]; exact decide_eq_false (fun g => by have := Hp1.out.2 ⟨g.1.1, by omega⟩; cases this))
    subst e1 e2
    go_wp2_with fail
    refine (AP1'.out _).mono ?_
    rintro e w4 ⟨rfl, hw4⟩
    have B4 : Hid (Below w3.heap.size w3 w4) := by rw [hw4]; exact (Below.refl _ _).alloc (Nat.le_refl _) _
    have X4 : Hid _ := lift.out w4 B4.out
    clear hw4 cb
    go_upto_region 5 with fail
    go_wp2_with (first | (refine wpList_load_row rfl 48 (.tmp 8) rfl B rfl _ _ _ _ X4.out.2.2.1 Tryz.underlying48 rfl (by kernel_rfl) ?_) | (refine wpList_store_row rfl 48 (.tmp 6) (.tmp _) rfl (w.heap.size + 1) #[.int .i64 f, .slice vx n vc] rfl rfl _ _ X4.out.2.1 (by kernel_rfl) rfl (by simp [Value.oneCell']) ?_))
    exact bodyPost_ret (results_row_tmp Tryz.results137 _ _ (w.heap.size + 1) _ _ _ _ (.bool false) rfl rfl (setRow_heap _ (w.heap.size + 1) _ _ _ _ X4.out.2.1) Tryz.underlying48 rfl (by kernel_rfl)) rfl ⟨⟨_, rfl, fin.out _ _ B4.out (fun k hk => setRow_other _ _ _ _ hk) (by rw [size_setRow]; exact Nat.le_refl _)⟩, below_setRow X4.out.2.2.2.1 (by omega) _⟩
  obtain ⟨g1, g2⟩ := Hp1.out.1 (by first | exact trivial | exact rfl)
  obtain ⟨H, hH⟩ : ∃ H : Nat, flow = H := ⟨flow.toNat, by omega⟩
  subst hH
  rw [Int.toNat_natCast] at Hm Hv
  have hHl : H < n := by omega
  have hHl' : H < ls.length := by rw [Hn.out]; exact hHl
  have g2' : (H : Int) < (n : Int) := by omega
  go_wp2_with fail
  refine (AP1'.out _).mono ?_
  rintro e w4 ⟨rfl, hw4⟩
  have B4 : Hid (Below w3.heap.size w3 w4) := by rw [hw4]; exact (Below.refl _ _).alloc (Nat.le_refl _) _
  clear hw4 cb AP1' Hp1
  go_wp2_with fail
  refine (AP2'.out _ _ (by simp)).mono ?_
  rintro e w5 ⟨rfl, hw5⟩
  have B5 : Hid (Below w3.heap.size w3 w5) := by rw [hw5]; exact B4.out.alloc B4.out.size _
  have X5 : Hid _ := lift.out w5 B5.out
  clear hw5 B4
  cases p2
  · obtain ⟨e1, e2⟩ := no.out (by rw [Hm.out]; exact decide_eq_false (fun g => by have := Hp2.out.2 g.2.1; cases this))
    subst e1 e2
    go_upto_region 5 with fail
    go_wp2_with (first | (refine wpList_load_row rfl 48 (.tmp 8) rfl B rfl _ _ _ _ X5.out.2.2.1 Tryz.underlying48 rfl (by kernel_rfl) ?_) | (refine wpList_store_row rfl 48 (.tmp 6) (.tmp _) rfl (w.heap.size + 1) #[.int .i64 f, .slice vx n vc] rfl rfl _ _ X5.out.2.1 (by kernel_rfl) rfl (by simp [Value.oneCell']) ?_))
    exact bodyPost_ret (results_row_tmp Tryz.results137 _ _ (w.heap.size + 1) _ _ _ _ (.bool false) rfl rfl (setRow_heap _ (w.heap.size + 1) _ _ _ _ X5.out.2.1) Tryz.underlying48 rfl (by kernel_rfl)) rfl ⟨⟨_, rfl, fin.out _ _ B5.out (fun k hk => setRow_other _ _ _ _ hk) (by rw [size_setRow]; exact Nat.le_refl _)⟩, below_setRow X5.out.2.2.2.1 (by omega) _⟩
  have g3 := Hp2.out.1 (by first | exact trivial | exact rfl)
  have cb : w5.cell? ⟨w.heap.size, 1, none⟩ = some (.slice a n c) := X5.out.1.cell 1 rfl
  obtain ⟨b, off, ak, ck, ha, hb, ⟨c0, c1, c2⟩, hr, hcap, hnil⟩ := X5.out.2.2.2.2 H hHl'
  subst ha
  have D := fun w => implPayerOf (fwAt ls H) ak ck w
  have E := fun w => implFull ak (fwAt ls H).sizes.length ck w
  have hin : (fwAt ls H).sizes.length ≤ 1048576 := by have := (Fw.ok_iff.1 (HG.out H hHl)).2.2.1; omega
  have J := fun w h => implJoined (fwAt ls H) ak ck size f w hin hcap hnil h
  have Hrd : Hid (∀ x, Below w5.heap.size w5 x → IntsAt x ak (fwAt ls H).sizes) := fun x g => hr.below g
  have Hnew : Hid ((fwAt ls H).more f size = ⟨(fwAt ls H).weight, ((fwAt ls H).more f size).finish, (fwAt ls H).sizes ++ [size]⟩) := rfl
  have Rd : Hid (∀ x, Below w5.heap.size w5 x → x.cell? ⟨b, off + H * 3, none⟩ = some (.int .i64 (fwAt ls H).weight) ∧ x.cell? ⟨b, off + H * 3 + 1, none⟩ = some (.int .i64 (fwAt ls H).finish) ∧ x.cell? ⟨b, off + H * 3 + 2, none⟩ = some (.slice ak (fwAt ls H).sizes.length ck)) := fun x g => ⟨by rw [g.cell (p := ⟨b, off + H * 3, none⟩) hb]; exact c0, by rw [g.cell (p := ⟨b, off + H * 3 + 1, none⟩) hb]; exact c1, by rw [g.cell (p := ⟨b, off + H * 3 + 2, none⟩) hb]; exact c2⟩
  have Sh : Hid (∀ {b : Nat} {w : World} {v : Value}, IRow b w v ((fwAt ls H).sizes ++ [size]) → ∃ p q, v = .slice p ((fwAt ls H).sizes.length + 1) q) := fun h => by
    obtain ⟨p, q, e⟩ := IRow.shape h
    exact ⟨p, q, by rw [e]; simp⟩
  generalize (fwAt ls H).more f size = mr at Hv Hnew J
  generalize mr.finish = mf at Hnew J
  generalize fwAt ls H = q at c0 c1 c2 D E J Hrd Hnew Rd Sh Hm
  obtain ⟨t, u, fl⟩ := q
  simp only [Fw.val, Fw.pay] at c0 c1 c2 D E J Hrd Hnew Rd Sh Hm
  generalize fl.length = m at c2 D E J Rd Sh Hm
  have D' : Hid _ := D
  have E' : Hid _ := E
  have J' : Hid _ := J
  clear D E J hr hcap hnil hin AP2' Hp2
  go_wp2_with fail
  refine (D'.out _).mono ?_
  rintro e w6 ⟨rfl, q6⟩
  have hfd := fun w => payRow (.slice ak m ck) t u w
  go_wp2_with fail
  clear hfd
  refine (E'.out _).mono ?_
  rintro e w7 ⟨rfl, hw7⟩
  obtain rfl := hw7.symm
  have B6 : Hid (Below w3.heap.size w3 w6) := B5.out.trans (q6.mono B5.out.size)
  have X6 : Hid _ := lift.out w6 B6.out
  have C6 : Hid (Below w5.heap.size w5 w6) := q6
  clear q6 E' hw7 cb c0 c1 c2 hb
  by_cases g5 : (m : Int) = 40
  · obtain ⟨e1, e2⟩ := no.out (by rw [Hm.out]; exact decide_eq_false (fun g => g.2.2 (by omega)))
    subst e1 e2
    rw [decide_eq_true g5]
    clear g5
    go_upto_region 5 with fail
    go_wp2_with (first | (refine wpList_load_row rfl 48 (.tmp 8) rfl B rfl _ _ _ _ X6.out.2.2.1 Tryz.underlying48 rfl (by kernel_rfl) ?_) | (refine wpList_store_row rfl 48 (.tmp 6) (.tmp _) rfl (w.heap.size + 1) #[.int .i64 f, .slice vx n vc] rfl rfl _ _ X6.out.2.1 (by kernel_rfl) rfl (by simp [Value.oneCell']) ?_))
    exact bodyPost_ret (results_row_tmp Tryz.results137 _ _ (w.heap.size + 1) _ _ _ _ (.bool false) rfl rfl (setRow_heap _ (w.heap.size + 1) _ _ _ _ X6.out.2.1) Tryz.underlying48 rfl (by kernel_rfl)) rfl ⟨⟨_, rfl, fin.out _ _ B6.out (fun k hk => setRow_other _ _ _ _ hk) (by rw [size_setRow]; exact Nat.le_refl _)⟩, below_setRow X6.out.2.2.2.1 (by omega) _⟩
  rw [decide_eq_false g5]
  have hmay : may = true := by rw [Hm.out]; exact decide_eq_true ⟨⟨by omega, by omega⟩, g3, by omega⟩
  have e1 : F = ⟨f, ls.set H ⟨t, mf, fl ++ [size]⟩⟩ := by rw [Hv.out, hmay, Hnew.out]; rfl
  have e2 : bb = true := by rw [Hb.out, hmay]; rfl
  subst e1 e2
  clear g5 hmay Hm Hv Hb Hnew no fin
  have hn2 : 0 < n := by omega
  obtain ⟨xg, xc, exv, xg1, xg2⟩ := Y3.out.1.place (j := H) hHl'
  rw [Hn.out] at exv
  cases exv
  have Cs : Hid (∀ x, Below w3.heap.size w3 x → ((∃ y, x.cell? ⟨xg, H * 3, none⟩ = some y) ∧ x.frozen? ⟨xg, H * 3, none⟩ = false) ∧ ((∃ y, x.cell? ⟨xg, H * 3 + 1, none⟩ = some y) ∧ x.frozen? ⟨xg, H * 3 + 1, none⟩ = false) ∧ ((∃ y, x.cell? ⟨xg, H * 3 + 2, none⟩ = some y) ∧ x.frozen? ⟨xg, H * 3 + 2, none⟩ = false) ∧ xg < x.heap.size) := fun x g => by
    have gg := Y3.out.1.below (low.out x g)
    rw [← Hn.out] at gg
    obtain ⟨d0, d1, d2, d3⟩ := gg.cells hHl'
    exact ⟨⟨⟨_, d0⟩, d3 _⟩, ⟨⟨_, d1⟩, d3 _⟩, ⟨⟨_, d2⟩, d3 _⟩, Nat.lt_of_lt_of_le xg2 (low.out x g).size⟩
  have Put : Hid (∀ (x1 x2 : World) (p : Option Addr) (qc : Nat), Below w3.heap.size w3 x1 → Below x1.heap.size x1 x2 → IRow x1.heap.size x2 (.slice p (m + 1) qc) (fl ++ [size]) →
      ∃ rs', FwG (w1.heap.size + 2) (.slice (some ⟨xg, 0, none⟩) n vc) rs' (ls.set H ⟨t, mf, fl ++ [size]⟩) (((x2.setCell ⟨xg, H * 3, none⟩ (.int .i64 t)).setCell ⟨xg, H * 3 + 1, none⟩ (.int .i64 mf)).setCell ⟨xg, H * 3 + 2, none⟩ (.slice p (m + 1) qc))) := fun x1 x2 p qc g1 g2 g3 => by
    have gg := Y3.out.1
    rw [← Hn.out] at gg
    have h1 := (low.out x1 g1).size
    have bb := (low.out x1 g1).trans (g2.mono h1)
    have := gg.flow (W := x2) (r := ⟨t, mf, fl ++ [size]⟩) hHl' bb (g3.mono h1) (by omega)
    rw [Hn.out] at this
    exact ⟨_, this⟩
  have w6d : Hid (Below w3.heap.size w3 w6.drew ∧ Below w5.heap.size w5 w6.drew) := ⟨B6.out.drew, C6.out.drew⟩
  have cb : w6.cell? ⟨w.heap.size, 1, none⟩ = some (.slice (some ⟨b, off, none⟩) n c) := X6.out.1.cell 1 rfl
  have ca : w6.cell? ⟨w.heap.size, 0, none⟩ = some (.int .i64 f) := X6.out.1.cell 0 rfl
  have cx : w6.cell? ⟨B, 1, none⟩ = some (.slice (some ⟨xg, 0, none⟩) n vc) := X6.out.2.2.1.cell 1 rfl
  have hb6 : b < w6.heap.size ∧ B < w6.heap.size := ⟨by obtain ⟨b', off', ak', ck', ha', hb', -⟩ := X6.out.2.2.2.2 H hHl'; cases ha'; exact hb', X6.out.2.2.1.under⟩
  obtain ⟨hbl, hBl⟩ := hb6
  obtain ⟨c0, c1, c2⟩ := Rd.out w6 C6.out
  have Fx : Hid (∀ (x2 : World) (p : Option Addr) (qc : Nat), Below w3.heap.size w3 x2 → (∃ rs', FwG (w1.heap.size + 2) (.slice (some ⟨xg, 0, none⟩) n vc) rs' (ls.set H ⟨t, mf, fl ++ [size]⟩) (((x2.setCell ⟨xg, H * 3, none⟩ (.int .i64 t)).setCell ⟨xg, H * 3 + 1, none⟩ (.int .i64 mf)).setCell ⟨xg, H * 3 + 2, none⟩ (.slice p (m + 1) qc))) →
      Boxed (((x2.setCell ⟨xg, H * 3, none⟩ (.int .i64 t)).setCell ⟨xg, H * 3 + 1, none⟩ (.int .i64 mf)).setCell ⟨xg, H * 3 + 2, none⟩ (.slice p (m + 1) qc)) (w.heap.size + 1) #[.int .i64 0, .slice none 0 0] 48 ∧ Boxed (((x2.setCell ⟨xg, H * 3, none⟩ (.int .i64 t)).setCell ⟨xg, H * 3 + 1, none⟩ (.int .i64 mf)).setCell ⟨xg, H * 3 + 2, none⟩ (.slice p (m + 1) qc)) B #[.int .i64 f, .slice (some ⟨xg, 0, none⟩) n vc] 48 ∧ Below w.heap.size w (((x2.setCell ⟨xg, H * 3, none⟩ (.int .i64 t)).setCell ⟨xg, H * 3 + 1, none⟩ (.int .i64 mf)).setCell ⟨xg, H * 3 + 2, none⟩ (.slice p (m + 1) qc)) ∧ (∃ rs', FwG (w1.heap.size + 2) (.slice (some ⟨xg, 0, none⟩) n vc) rs' (ls.set H ⟨t, mf, fl ++ [size]⟩) (((x2.setCell ⟨xg, H * 3, none⟩ (.int .i64 t)).setCell ⟨xg, H * 3 + 1, none⟩ (.int .i64 mf)).setCell ⟨xg, H * 3 + 2, none⟩ (.slice p (m + 1) qc)))) := fun x2 p qc g1 g2 => by
    have zz := lift.out x2 g1
    have h0 := Y3.out.2.2.1
    have hB := HB.out
    have oth := fun y (h : y ≠ xg) => set3_other x2 xg y (H * 3) (H * 3 + 1) (H * 3 + 2) (.int .i64 t) (.int .i64 mf) (.slice p (m + 1) qc) h
    refine ⟨?_, ?_, ?_, g2⟩
    · unfold Boxed; rw [oth _ (by omega)]; exact zz.2.1
    · unfold Boxed; rw [oth _ (by omega)]; exact zz.2.2.1
    · exact ((zz.2.2.2.1.setCell (by show w.heap.size ≤ xg; omega) _).setCell (by show w.heap.size ≤ xg; omega) _).setCell (by show w.heap.size ≤ xg; omega) _
  have Fy : Hid (∀ (Y x : World), Boxed Y B #[.int .i64 f, .slice (some ⟨xg, 0, none⟩) n vc] 48 → (∃ rs', FwG (w1.heap.size + 2) (.slice (some ⟨xg, 0, none⟩) n vc) rs' (ls.set H ⟨t, mf, fl ++ [size]⟩) Y) → (∀ k, k ≠ w.heap.size + 1 → x.heap[k]? = Y.heap[k]?) → Y.heap.size ≤ x.heap.size → FsIn w.heap.size x.heap.size x (.agg #[.int .i64 f, .slice (some ⟨xg, 0, none⟩) n vc]) ⟨f, ls.set H ⟨t, mf, fl ++ [size]⟩⟩) := fun Y x hBx g2 hx hs => by
    obtain ⟨rs', g2⟩ := g2
    refine ⟨some ⟨xg, 0, none⟩, vc, by simp [Fs.val, Hn.out], ?_⟩
    show FwsIn _ _ _ (.slice (some ⟨xg, 0, none⟩) (ls.set H ⟨t, mf, fl ++ [size]⟩).length vc) _
    rw [List.length_set, Hn.out]
    have h0 := Y3.out.2.2.1
    exact ⟨rs', (g2.done.keep hs fun k k1 k2 => hx k (by omega)).wide (by omega) hs (Nat.le_refl _)⟩
  go_upto_region 6 with fail
  go_region_law (first | (refine stepCall rfl 170 rfl #[.agg #[.int .i64 t, .int .i64 u, .slice ak m ck]] (by kernel_rfl) (D'.out w6.drew) ?_; rintro e x1 ⟨rfl, q1⟩; refine ⟨_, rfl, ?_⟩; have E1 : Hid (Below w3.heap.size w3 x1 ∧ Below w5.heap.size w5 x1) := ⟨w6d.out.1.trans (q1.mono B6.out.size), w6d.out.2.trans (q1.mono C6.out.size)⟩; have Z1 : Hid _ := lift.out x1 E1.out.1; have cb1 : x1.cell? ⟨w.heap.size, 1, none⟩ = some (.slice (some ⟨b, off, none⟩) n c) := Z1.out.1.cell 1 rfl; have ca1 : x1.cell? ⟨w.heap.size, 0, none⟩ = some (.int .i64 f) := Z1.out.1.cell 0 rfl; have cx1 : x1.cell? ⟨B, 1, none⟩ = some (.slice (some ⟨xg, 0, none⟩) n vc) := Z1.out.2.2.1.cell 1 rfl; clear q1) | (refine stepCall rfl 208 rfl #[.agg #[.slice ak m ck, .int .i64 t, .int .i64 u], .int .i64 size, .int .i64 f] (by kernel_rfl) (J'.out x1 (Hrd.out _ E1.out.2)) ?_; rintro e x2 ⟨⟨vj, rfl, q2⟩, q3⟩; obtain ⟨p, qc, ev⟩ := Sh.out q2; subst ev; refine ⟨_, rfl, ?_⟩; have E2 : Hid (Below w3.heap.size w3 x2) := E1.out.1.trans (q3.mono E1.out.1.size); have P2 : Hid _ := Put.out x1 x2 p qc E1.out.1 q3 q2; have Z2 : Hid _ := lift.out x2 E2.out; have cx2 : x2.cell? ⟨B, 1, none⟩ = some (.slice (some ⟨xg, 0, none⟩) n vc) := Z2.out.2.2.1.cell 1 rfl; obtain ⟨⟨⟨y0, hy0⟩, hz0⟩, ⟨⟨y1, hy1⟩, hz1⟩, ⟨⟨yy2, hy2⟩, hz2⟩, hxl⟩ := Cs.out x2 E2.out; clear q2 q3))
  all_goals (
    have F : Hid _ := Fx.out x2 p qc E2.out P2.out
    clear P2 Z2 Z1 E1 cb1 ca1 cx1 cx2 hy0 hy1 hy2 hz0 hz1 hz2 hxl
    generalize (((x2.setCell ⟨xg, H * 3, none⟩ (.int .i64 t)).setCell ⟨xg, H * 3 + 1, none⟩ (.int .i64 mf)).setCell ⟨xg, H * 3 + 2, none⟩ (.slice p (m + 1) qc)) = Y at F ⊢
    go_wp2_with (first | (refine wpList_load_row rfl 48 (.tmp 8) rfl B rfl _ _ _ _ F.out.2.1 Tryz.underlying48 rfl (by kernel_rfl) ?_) | (refine wpList_store_row rfl 48 (.tmp 6) (.tmp _) rfl (w.heap.size + 1) #[.int .i64 f, .slice (some ⟨xg, 0, none⟩) n vc] rfl rfl _ _ F.out.1 (by kernel_rfl) rfl (by simp [Value.oneCell']) ?_))
    exact bodyPost_ret (results_row_tmp Tryz.results137 _ _ (w.heap.size + 1) _ _ _ _ (.bool true) rfl rfl (setRow_heap _ (w.heap.size + 1) _ _ _ _ F.out.1) Tryz.underlying48 rfl (by kernel_rfl)) rfl ⟨⟨_, rfl, Fy.out _ _ F.out.2.1 F.out.2.2.2 (fun k hk => setRow_other _ _ _ _ hk) (by rw [size_setRow]; exact Nat.le_refl _)⟩, below_setRow F.out.2.2.1 (by omega) _⟩)
end Go.Proofs.YtgebghkcikmfaaaGreatDoor
