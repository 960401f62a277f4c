import Derived.Test.YtkocbfikcjgigaaGreatM0DuOrd
import Derived.Laws.CopyRow
import Derived.Laws.IdiomCopy
import Derived.WalkKit
import Derived.WalkSpells
import Derived.WalkLawsBesides
import Derived.Test.YtkocbfikcjgigaaGreatM17DuMeth
import Derived.Test.YtkocbfikcjgigaaGreatM5WhFn
import Derived.Test.YtkocbfikcjgigaaGreatDuWhere
import Derived.Test.YtkocbfikcjgigaaGreatBoxed
import Derived.Lib.AppendZerosOnto
import Derived.Deep.DeepCutAuto
/-
  copy at two cells a record, and the walk of the program's copy of a list. By the verifier.
-/
namespace Go.Proofs.YtkocbfikcjgigaaGreat
open Go.RowKit

theorem ducopy_none (w : World) (ty : TypeId) (d s : Option Addr) (dc sc : Nat) :
    (Builtin.copy_ #[24, 24] ty #[.slice d 0 dc, .slice s 0 sc]).run Tryz.prog w = .ok (goInt 0) w := by
  obtain ⟨i0, hi0, hz0, hz1, hz2⟩ := info_parts duInfo
  have hl : ∀ (x : Addr), (loadCells x 0).run Tryz.prog w = .ok #[] w := fun x => by simpa using run_loadCells_list (P := Tryz.prog) w x [] (by simp)
  cases d <;> cases s <;> simp [Builtin.copy_, run_underlying Tryz.underlying24, Builtin.lenOf, Builtin.firstCells, sizeOf, typeInfo, hi0, storeCells, hl]
theorem ducopy_run (w : World) (ty : TypeId) (g : Nat) (a : Option Addr) (sCap : Nat) (l : List Du) (cur : Array Value)
    (hg : w.heap[g]? = some (.cells cur 33 (0, 0))) (hc : cur.size = l.length * 2) (h : DusAt w a l) :
    (Builtin.copy_ #[24, 24] ty #[.slice (some ⟨g, 0, none⟩) l.length l.length, .slice a l.length sCap]).run Tryz.prog w =
      .ok (.int .i64 (l.length : Int)) (w.setRow g (ducells l).toArray) := by
  obtain ⟨i0, hi0, hz0, hz1, hz2⟩ := info_parts duInfo
  cases l with
  | nil =>
    have e : w.setRow g (ducells []).toArray = w := by
      obtain rfl : cur = #[] := by simpa using hc
      exact setRow_self w g _ _ _ hg
    rw [e]
    exact ducopy_none w ty _ _ _ _
  | cons x xs =>
    obtain ⟨b, off, ha, _⟩ := h 0 (by simp)
    subst ha
    have hsrc : ∀ j v, (ducells (x :: xs))[j]? = some v → w.cell? ((⟨b, off, none⟩ : Addr).add j) = some v := by
      intro j u hj
      have hj' : j < (x :: xs).length * 2 := by
        have := (List.getElem?_eq_some_iff.1 hj).1
        rwa [ducells_length] at this
      obtain ⟨k, i, rfl, hi⟩ : ∃ k i, j = k * 2 + i ∧ i < 2 := ⟨j / 2, j % 2, by omega, Nat.mod_lt _ (by omega)⟩
      have hk : k < (x :: xs).length := by omega
      obtain ⟨b', off', e, _, c0, c1⟩ := h k hk
      cases e
      obtain ⟨e0, e1⟩ := ducells_get (x :: xs) k hk
      rw [show (⟨b, off, none⟩ : Addr).add (k * 2 + i) = ⟨b, off + k * 2 + i, none⟩ by by_cases h0 : k * 2 + i = 0 <;> simp [Addr.add, h0, Nat.add_assoc]; omega]
      match i, hi with
      | 0, _ => rw [Nat.add_zero] at hj; rw [e0] at hj; rw [Nat.add_zero, c0]; exact hj
      | 1, _ => rw [e1] at hj; rw [c1]; exact hj
    generalize hL : x :: xs = L at *
    have hl := run_loadCells_list (P := Tryz.prog) w ⟨b, off, none⟩ (ducells L) hsrc
    have hst := run_storeCells_at Tryz.prog g 0 33 (ducells L) 0 cur w hg (by simp [ducells_length, hc]) (ducells_one L)
    have e1 : (cur.toList.take 0 ++ ducells L ++ cur.toList.drop (0 + (ducells L).length)) = ducells L := by
      rw [List.take_zero, List.nil_append, Nat.zero_add, ducells_length, ← hc, ← Array.length_toList, List.drop_length, List.append_nil]
    rw [Nat.add_zero, e1] at hst
    have hm : Nat.min L.length L.length = L.length := Nat.min_self _
    rw [ducells_length] at hl
    simp [Builtin.copy_, run_underlying Tryz.underlying24, Builtin.lenOf, Builtin.firstCells, sizeOf, typeInfo, hi0, hz1, hm, hl, hst]
    rfl

set_option maxHeartbeats 1600000 in
theorem implCopyDu (a : Option Addr) (cap : Nat) (l : List Du) (w : World) (hT : l.length ≤ 1048576) (h : Hid (DusAt w a l)) :
    Calls Tryz.prog 53 #[.slice a l.length cap] w fun e w' => ∃ g, e = .returned (.slice (some ⟨g, 0, none⟩) l.length l.length) ∧ DuRow w.heap.size w' (.slice (some ⟨g, 0, none⟩) l.length l.length) l ∧ Below w.heap.size w w' := by
  obtain ⟨i0, hi, hz0, hz1, hz2⟩ := info_parts duInfo
  have hgm : (w.alloc (.cells (madeCells #[.int .i64 0, .int .i64 0] (l.length * 2)) 33)).heap[w.heap.size]? = some (.cells (madeCells #[.int .i64 0, .int .i64 0] (l.length * 2)) 33 (0, 0)) := by
    show (w.heap.push _)[w.heap.size]? = _
    simp
  have hcp := fun ty => ducopy_run (w.alloc (.cells (madeCells #[.int .i64 0, .int .i64 0] (l.length * 2)) 33)) ty w.heap.size a cap l _ hgm (by rw [size_madeCells]) (h.out.alloc _)
  have Fin : Hid (DuRow w.heap.size ((w.alloc (.cells (madeCells #[.int .i64 0, .int .i64 0] (l.length * 2)) 33)).setRow w.heap.size (ducells l).toArray) (.slice (some ⟨w.heap.size, 0, none⟩) l.length l.length) l ∧ Below w.heap.size w ((w.alloc (.cells (madeCells #[.int .i64 0, .int .i64 0] (l.length * 2)) 33)).setRow w.heap.size (ducells l).toArray)) := by
    refine ⟨⟨ducells_length l, .inr ⟨w.heap.size, l.length, (ducells l).toArray, rfl, Nat.le_refl _, setRow_heap _ _ _ _ _ _ hgm, Nat.le_refl _, by unfold maxLen; omega, by simp [ducells_length], ?_⟩⟩, ?_⟩
    · simp [← ducells_length]
    · have b : Below w.heap.size w (w.alloc (.cells (madeCells #[.int .i64 0, .int .i64 0] (l.length * 2)) 33)) := (Below.refl _ _).alloc (Nat.le_refl _) _
      exact b.trans ⟨rfl, rfl, rfl, by simp [World.setRow], fun k hk => setRow_other _ _ k _ (by omega)⟩
  clear hgm
  obtain ⟨len, hlen⟩ : ∃ n, l.length = n := ⟨_, rfl⟩
  rw [hlen] at hT hcp Fin ⊢
  clear hlen
  have hmk : ∀ wx, (Instr.makeSlice 24 (.int .i64 (len : Int)) (.int .i64 (len : Int))).run Tryz.prog wx = .ok (.slice (some ⟨wx.heap.size, 0, none⟩) len len) (wx.alloc (.cells (madeCells #[.int .i64 0, .int .i64 0] (len * 2)) 33)) := by
    intro wx
    have := run_make (P := Tryz.prog) wx 24 33 i0 (.agg #[.int .i64 0, .int .i64 0]) Tryz.underlying24 hi hz0 .i64 .i64 len len (by omega) (by omega) (by rw [hz2]; omega) (by omega)
    rw [this, hz1]; simp [Value.cells]
  clear hi hz0 hz1 hz2
  generalize (w.alloc (.cells (madeCells #[.int .i64 0, .int .i64 0] (len * 2)) 33)).setRow w.heap.size (ducells l).toArray = W2 at hcp Fin
  go_enter Tryz.func53, Tryz.ntmps53
  go_wp2
  go_ret
  exact ⟨_, rfl, Fin.out⟩
end Go.Proofs.YtkocbfikcjgigaaGreat

/-
  A list of dues of the call's own, put in order. By the verifier.
-/
namespace Go.Proofs.YtkocbfikcjgigaaGreat
open Go.RowKit Go.Shelf

/-- Dues as pairs, as the library's sort takes them. -/
def duEnc (x : Int × Int) : List Value := [.int .i64 x.1, .int .i64 x.2]
def Du.pair (d : Du) : Int × Int := (d.time, d.id)
def unpair (x : Int × Int) : Du := ⟨x.1, x.2⟩
theorem unpair_pair (d : Du) : unpair d.pair = d := rfl
def duCf (x y : Int × Int) : Int := duOrdV (unpair x) (unpair y)
theorem duLt (x y : Int × Int) : ltOf duCf x y = decide ((unpair x).lt (unpair y)) := by
  unfold ltOf duCf
  rw [decide_eq_decide]
  exact duOrd_lt _ _
theorem duSwo : Go.Sort.SWO (ltOf duCf) where
  irrefl x := by rw [duLt]; exact decide_eq_false (Du.lt_irrefl _)
  trans x y z h1 h2 := by rw [duLt] at *; exact decide_eq_true (Du.lt_trans (of_decide_eq_true h1) (of_decide_eq_true h2))
  ntrans x y z h1 h2 := by rw [duLt] at *; exact decide_eq_false (Du.le_trans (of_decide_eq_false h2) (of_decide_eq_false h1))
theorem duLays (blk off size : Nat) (w : World) : CmpLays Tryz.prog 79 #[] duEnc 2 duCf blk off size w :=
  fun _ _ _ _ x y => (implOrderG (unpair x) (unpair y) _).mono fun _ _ h => h
/-- The cells of a list, flat. -/
theorem flat_du (l : List Du) : (Go.Sort.flatK duEnc 2 (l.map Du.pair).toArray).toList = ducells l := by
  apply List.ext_getElem?
  intro i
  by_cases hi : i < l.length * 2
  · have hs : i < (Go.Sort.flatK duEnc 2 (l.map Du.pair).toArray).size := by rw [Go.Sort.size_flatK]; simpa using hi
    have hk : i / 2 < l.length := by omega
    have e := Go.Sort.get_flatK duEnc 2 (l.map Du.pair).toArray i (by simpa using hi)
    rw [Array.getElem?_toList, Array.getElem?_eq_getElem hs, ← getElem!_pos (Go.Sort.flatK duEnc 2 (l.map Du.pair).toArray) i hs, e]
    have hp : (l.map Du.pair).toArray[i / 2]! = (duAt l (i / 2)).pair := by
      rw [getElem!_pos _ _ (by simpa using hk), duAt_lt hk]
      simp
    rw [hp]
    obtain ⟨e0, e1⟩ := ducells_get l (i / 2) hk
    rcases Nat.mod_two_eq_zero_or_one i with m | m
    · rw [m]
      rw [show i / 2 * 2 = i by omega] at e0
      rw [e0]
      rfl
    · rw [m]
      rw [show i / 2 * 2 + 1 = i by omega] at e1
      rw [e1]
      rfl
  · rw [List.getElem?_eq_none (by rw [Array.length_toList, Go.Sort.size_flatK]; simp; omega), List.getElem?_eq_none (by rw [ducells_length]; omega)]
theorem du_holds {base : Nat} {w : World} {g cap : Nat} {l : List Du} (h : DuRow base w (.slice (some ⟨g, 0, none⟩) l.length cap) l) : Go.Sort.HoldsK duEnc 2 w g 0 (l.map Du.pair).toArray := by
  intro j hj
  have hj2 : j < l.length * 2 := by rw [Go.Sort.size_flatK] at hj; simpa using hj
  have hc := World.ownsRow.cellAt h
  refine ⟨?_, World.ownsRow.frozenAt h _⟩
  rw [Nat.zero_add, hc j (by omega), ← flat_du, Array.getElem?_toList, Array.getElem?_eq_getElem hj, getElem!_pos (Go.Sort.flatK duEnc 2 (l.map Du.pair).toArray) j hj]
  rfl
theorem take_put (F cur : Array Value) (h : F.size ≤ cur.size) : (Go.Sort.putCells id 0 F cur).toList.take F.size = F.toList := by
  apply List.ext_getElem?
  intro i
  by_cases hi : i < F.size
  · rw [List.getElem?_take_of_lt hi]
    unfold Go.Sort.putCells
    rw [Array.getElem?_toList, Array.getElem?_mapIdx, Array.getElem?_eq_getElem (by omega : i < cur.size)]
    simp only [Option.map_some, Nat.zero_le, Nat.zero_add, hi, and_self, if_true, Nat.sub_zero, id]
    rw [getElem!_pos F i hi, Array.getElem?_toList, Array.getElem?_eq_getElem hi]
  · rw [List.getElem?_eq_none (by rw [List.length_take]; omega), List.getElem?_eq_none (by rw [Array.length_toList]; omega)]
theorem sort_heap (w : World) (g n : Nat) (F : Array Value) (os : Array Obj) (k : Nat) (hk : k < w.heap.size) : (Go.Sort.grow (Go.Sort.putRow id (Go.Sort.ahead w n) g 0 F) os).heap[k]? = if k = g then (w.heap[k]?).map (Go.Sort.onCells (Go.Sort.putCells id 0 F)) else w.heap[k]? := by
  have hs : (Go.Sort.putRow id (Go.Sort.ahead w n) g 0 F).heap.size = w.heap.size := by
    unfold Go.Sort.putRow Go.Sort.mapBlock
    simp [Go.Sort.ahead]
  rw [Go.Sort.heap_grow_old _ os (by rw [hs]; exact hk)]
  unfold Go.Sort.putRow Go.Sort.mapBlock
  simp only [Array.getElem?_modify]
  by_cases e : k = g
  · subst e
    simp only [if_true]
    rfl
  · rw [if_neg e, if_neg (fun q => e q.symm)]
    rfl
/-- In order, none ahead of one that stands in front of it. -/
def Sorted (l : List Du) : Prop := ∀ i j, i < j → j < l.length → ¬ (duAt l j).lt (duAt l i)
theorem sortT_sort : sortT 59 = some [1, 12] := by kernel_rfl
theorem sortArgs (v1 v2 s : Value) : ArgR v1 v2 [1, 12] #[s, v1] #[s, v2] := by
  refine ⟨rfl, fun i hi => ?_, fun i hi => ?_⟩
  · match i, hi with
    | 0, _ => rfl
    | 1, hi => exact absurd (by simp) hi
    | i + 2, _ => simp
  · rcases List.mem_cons.1 hi with rfl | hi
    · right; exact ⟨rfl, rfl⟩
    · rcases List.mem_cons.1 hi with rfl | hi
      · left; simp
      · cases hi
set_option maxHeartbeats 1600000 in
set_option maxRecDepth 100000 in
theorem implSort0 (g cap : Nat) (l : List Du) (base : Nat) (w : World) (hT : l.length ≤ 1048576) (h : DuRow base w (.slice (some ⟨g, 0, none⟩) l.length cap) l) :
    Calls Tryz.prog 59 #[.slice (some ⟨g, 0, none⟩) l.length cap, .func (.func 79) #[] #[]] w fun e w' => e = .returned (.tuple #[]) ∧ ∃ d' n os, Go.Sort.PermIn 0 l.length (l.map Du.pair).toArray d' ∧ Go.Sort.SortedIn (ltOf duCf) 0 l.length d' ∧ w' = sortWorldK duEnc 2 w g 0 n d' os := by
  have hg := World.ownsRow.lt h g rfl
  have eg : ∀ args w, (callFunc 79 args).run Tryz.prog w = .ok (.enter 79 args) w := enters_of Tryz.func79 (by kernel_rfl) rfl
  have hsz : (l.map Du.pair).toArray.size = l.length := by simp
  have hcon := AnyQ.slices_SortFunc Tryz.sortA 2 Tryz.isAgg33 Tryz.sizeOf33 duEnc (fun _ => rfl) (fun x v hv => by simp [duEnc] at hv; rcases hv with rfl | rfl <;> rfl) duCf duSwo 79 #[] g 0 cap (l.map Du.pair).toArray w eg (duLays g 0 _ w) (du_holds h) hg.2 (by rw [hsz]; omega)
  change Calls Tryz.prog 59 _ _ _ at hcon
  rw [hsz] at hcon
  exact hcon
set_option maxHeartbeats 1600000 in
theorem implSort (g cap : Nat) (l : List Du) (base : Nat) (w : World) (hT : l.length ≤ 1048576) (h : DuRow base w (.slice (some ⟨g, 0, none⟩) l.length cap) l) :
    Calls Tryz.prog 59 #[.slice (some ⟨g, 0, none⟩) l.length cap, .func (.methodOf 33 "loop.example/g00316/impl.order") #[] #[]] w fun e w' => e = .returned (.tuple #[]) ∧ ∃ l', l'.Perm l ∧ Sorted l' ∧ DuRow base w' (.slice (some ⟨g, 0, none⟩) l'.length cap) l' ∧ Below g w w' ∧ ∀ k, k ≠ g → k < w.heap.size → w'.heap[k]? = w.heap[k]? := by
  have hg := World.ownsRow.lt h g rfl
  have hsz : (l.map Du.pair).toArray.size = l.length := by simp
  refine calls_sim sortSim sortT_sort (sortArgs _ _ _) (fun e w' hh => ⟨_, hh.1⟩) ((implSort0 g cap l base w hT h).mono ?_)
  rintro e w' ⟨rfl, d', n, os, hp, hs, rfl⟩
  refine ⟨rfl, d'.toList.map unpair, ?_, ?_, ?_, ?_, ?_⟩
  · have h3 := hp.2.2
    have e1 : (d'.extract 0 l.length).toList = d'.toList := by
      rw [Array.toList_extract]
      have : d'.toList.length = l.length := by rw [Array.length_toList, hp.1, hsz]
      rw [← this]
      simp [List.extract, List.take_of_length_le]
    have e2 : ((l.map Du.pair).toArray.extract 0 l.length).toList = l.map Du.pair := by
      rw [Array.toList_extract]
      simp [List.extract, List.take_of_length_le]
    rw [e1, e2] at h3
    have h4 := h3.map unpair
    rw [List.map_map] at h4
    have : unpair ∘ Du.pair = id := rfl
    rw [this, List.map_id] at h4
    exact h4
  · intro i j hij hj
    have hl : d'.size = l.length := by rw [hp.1, hsz]
    have hj' : j < l.length := by rw [List.length_map, Array.length_toList, hl] at hj; exact hj
    have := hs i j (Nat.zero_le _) hij hj'
    rw [duLt] at this
    have at' : ∀ k, k < l.length → duAt (d'.toList.map unpair) k = unpair d'[k]! := by
      intro k hk
      rw [duAt_lt (by rw [List.length_map, Array.length_toList, hl]; exact hk), List.getElem_map, getElem!_pos _ _ (by rw [hl]; exact hk)]
      rfl
    rw [at' j hj', at' i (by omega)]
    exact of_decide_eq_false this
  · have hl : d'.size = l.length := by rw [hp.1, hsz]
    have hlen : (d'.toList.map unpair).length = l.length := by rw [List.length_map, Array.length_toList, hl]
    have hback : (d'.toList.map unpair).map Du.pair = d'.toList := by
      rw [List.map_map]
      have : Du.pair ∘ unpair = id := rfl
      rw [this, List.map_id]
    have hF : (Go.Sort.flatK duEnc 2 d').toList = ducells (d'.toList.map unpair) := by
      have := flat_du (d'.toList.map unpair)
      rw [hback] at this
      exact this
    rcases h.2 with ⟨e, _⟩ | ⟨g', cap', cur, e, q1, q2, q3, q4, q5, q6⟩
    · cases e
    · cases e
      unfold DuRow
      rw [hlen]
      refine ⟨by rw [ducells_length, hlen], .inr ⟨g, cap, Go.Sort.putCells id 0 (Go.Sort.flatK duEnc 2 d') cur, rfl, q1, ?_, q3, q4, ?_, ?_⟩⟩
      · show (Go.Sort.grow (Go.Sort.putRow id (Go.Sort.ahead w n) g 0 (Go.Sort.flatK duEnc 2 d')) os).heap[g]? = _
        rw [sort_heap w g n _ os g hg.2, if_pos rfl, q2]
        rfl
      · unfold Go.Sort.putCells
        rw [Array.size_mapIdx, q5]
      · have := take_put (Go.Sort.flatK duEnc 2 d') cur (by rw [Go.Sort.size_flatK, hl, q5]; omega)
        rw [Go.Sort.size_flatK, hl, hF] at this
        exact this
  · refine ⟨rfl, rfl, rfl, ?_, fun k hk => ?_⟩
    · show w.heap.size ≤ (Go.Sort.grow _ os).heap.size
      rw [Go.Sort.size_grow]
      have : (Go.Sort.putRowK duEnc 2 (Go.Sort.ahead w n) g 0 d').heap.size = w.heap.size := by
        unfold Go.Sort.putRowK Go.Sort.putRow Go.Sort.mapBlock
        simp [Go.Sort.ahead]
      rw [this]
      exact Nat.le_add_right _ _
    · have := sort_heap w g n (Go.Sort.flatK duEnc 2 d') os k (by omega)
      rw [if_neg (by omega)] at this
      exact this
  · intro k hk hk2
    have := sort_heap w g n (Go.Sort.flatK duEnc 2 d') os k hk2
    rw [if_neg hk] at this
    exact this
end Go.Proofs.YtkocbfikcjgigaaGreat

/-
  slices.Insert of one due into a list of the call's own that has no room. By the verifier.
-/
namespace Go.Proofs.YtkocbfikcjgigaaGreat
open Go.RowKit

theorem ducopy_at (w : World) (ty : TypeId) (g o dLen dCap b off m sCap : Nat) (M : List Du) (cur : Array Value)
    (hg : w.heap[g]? = some (.cells cur 33 (0, 0))) (hm : M.length = m) (hd : m ≤ dLen) (hc : o + m * 2 ≤ cur.size) (h : DusAt w (some ⟨b, off, none⟩) M) :
    (Builtin.copy_ #[24, 24] ty #[.slice (some ⟨g, o, none⟩) dLen dCap, .slice (some ⟨b, off, none⟩) m sCap]).run Tryz.prog w =
      .ok (.int .i64 (m : Int)) (w.setRow g (cur.toList.take o ++ ducells M ++ cur.toList.drop (o + m * 2)).toArray) := by
  obtain ⟨i0, hi0, hz0, hz1, hz2⟩ := info_parts duInfo
  subst hm
  have hl := run_loadCells_list (P := Tryz.prog) w ⟨b, off, none⟩ (ducells M) h.src
  have hst := run_storeCells_at Tryz.prog g o 33 (ducells M) 0 cur w hg (by rw [ducells_length]; omega) (ducells_one M)
  rw [Nat.add_zero, ducells_length] at hst
  have hmin : Nat.min M.length dLen = M.length := Nat.min_eq_left hd
  rw [ducells_length] at hl
  simp [Builtin.copy_, run_underlying Tryz.underlying24, Builtin.lenOf, Builtin.firstCells, sizeOf, typeInfo, hi0, hz1, hmin, hl, hst]
  rfl
theorem wpList_copyY (w : World) {ops : Array Oper} {rest : List Oper} {o : Oper} {a : Act} {Q : Exit → Act → World → Prop} (hgd : o.guard = none) (d s : Operand)
    (ho : o.op = .call { callee := .builtin .copy, args := #[d, s], argTypes := #[24, 24] }) (v u : Value) (hd : a.eval d = v) (hs : a.eval s = u) {v' : Value} {w' : World}
    (hr : (Builtin.copy_ #[24, 24] o.type #[v, u]).run Tryz.prog w = .ok v' w') (h : wpList Tryz.prog ops Q rest (a.put o.dst v') w') : wpList Tryz.prog ops Q (o :: rest) a w :=
  wpList_plain hgd fun K hK => by
    unfold Oper.wp execOp
    simp only [ho, resolve, invoke, builtin, Sem.run_bind, Sem.run_pure, Result.andThen_ok, List.map_toArray, List.map_cons, List.map_nil, hd, hs, hr]
    exact hK _ _ h
theorem step_copyY {ops : Array Oper} {o : Oper} {a : Act} {w : World} {K : Act → World → Prop} {Q : Exit → Act → World → Prop} {E : Prop}
    (hg : o.guard = none) (d x : Operand) (hop : o.op = Op.call { callee := Callee.builtin Builtin.copy, args := #[d, x], argTypes := #[24, 24] })
    (v u : Value) (hd : a.eval d = v) (hx : a.eval x = u) {v' : Value} {w' : World} (hr : (Builtin.copy_ #[24, 24] o.type #[v, u]).run Tryz.prog w = .ok v' w') (hK : K (a.put o.dst v') w') :
    if Region.wanted o (yielded ops a.tmps) = true then Oper.wp Tryz.prog o a w K Q else E := by
  have hw : Region.wanted o (yielded ops a.tmps) = true := by simp [Region.wanted, hg]
  rw [if_pos hw]
  unfold Oper.wp
  simp [execOp, hop, resolve, invoke, builtin, hd, hx, hr, Result.andThen]
  exact hK
/-- A list with one put in, cell by cell. -/
theorem ins_cells {n K G : Nat} {l : List Du} {d : Du} {Z : List Value} (hn : l.length = n) (hK : K ≤ n) (hG : n + 1 ≤ G) (hZ : Z.length = (G - K) * 2) :
    ∀ r1 r2 : List Value, r1 = (ducells (l.take K) ++ Z).take (K * 2) ++ ducells [d] ++ (ducells (l.take K) ++ Z).drop (K * 2 + 1 * 2) → r2 = r1.take (K * 2 + 2) ++ ducells (l.drop K) ++ r1.drop (K * 2 + 2 + (n - K) * 2) →
    r1.length = G * 2 ∧ r2.length = G * 2 ∧ r2.take ((n + 1) * 2) = ducells (l.take K ++ d :: l.drop K) := by
  rintro r1 r2 e1 e2
  have la : (ducells (l.take K)).length = K * 2 := by rw [ducells_length, List.length_take]; congr 1; omega
  have lb : (ducells [d]).length = 2 := by rw [ducells_length]; rfl
  have lc : (ducells (l.drop K)).length = (n - K) * 2 := by rw [ducells_length, List.length_drop, hn]
  have e3 : (ducells (l.take K) ++ Z).take (K * 2) = ducells (l.take K) := List.take_left' la
  rw [e3] at e1
  have l1 : r1.length = G * 2 := by rw [e1]; simp only [List.length_append, List.length_drop, la, lb, hZ]; omega
  have e4 : r1.take (K * 2 + 2) = ducells (l.take K) ++ ducells [d] := by rw [e1]; exact List.take_left' (by rw [List.length_append, la, lb])
  rw [e4] at e2
  refine ⟨l1, ?_, ?_⟩
  · rw [e2]
    simp only [List.length_append, List.length_drop, la, lb, lc, l1]
    omega
  · rw [e2]
    have e5 : ducells (l.take K ++ d :: l.drop K) = ducells (l.take K) ++ ducells [d] ++ ducells (l.drop K) := by
      rw [show l.take K ++ d :: l.drop K = (l.take K ++ [d]) ++ l.drop K by simp, ducells_append, ducells_append]
    rw [e5]
    exact List.take_left' (by rw [List.length_append, List.length_append, la, lb, lc]; omega)
end Go.Proofs.YtkocbfikcjgigaaGreat
