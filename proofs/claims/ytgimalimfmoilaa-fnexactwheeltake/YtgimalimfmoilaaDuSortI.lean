/-
  A list of dues of the call's own, put in order. By the verifier.
-/
import Derived.Test.YtgimalimfmoilaaM15DuSim
import Derived.Test.YtgimalimfmoilaaM12DzAll
import Derived.Test.YtgimalimfmoilaaWhOrd
namespace Go.Proofs.Ytgimalimfmoilaa
open Go.RowKit Go.Shelf

/-- Dues as pairs, as the library's sort takes them. -/
def duEnc (x : Int × Int) : List Value := [.int .i64 x.1, .int .i64 x.2]
def Du.pair (d : Du) : Int × Int := (d.time, d.id)
def unpair (x : Int × Int) : Du := ⟨x.1, x.2⟩
theorem unpair_pair (d : Du) : unpair d.pair = d := rfl
def duCf (x y : Int × Int) : Int := duOrdV (unpair x) (unpair y)
theorem duLt (x y : Int × Int) : ltOf duCf x y = decide ((unpair x).lt (unpair y)) := by
  unfold ltOf duCf
  rw [decide_eq_decide]
  exact duOrd_lt _ _
theorem duSwo : Go.Sort.SWO (ltOf duCf) where
  irrefl x := by rw [duLt]; exact decide_eq_false (Du.lt_irrefl _)
  trans x y z h1 h2 := by rw [duLt] at *; exact decide_eq_true (Du.lt_trans (of_decide_eq_true h1) (of_decide_eq_true h2))
  ntrans x y z h1 h2 := by rw [duLt] at *; exact decide_eq_false (Du.le_trans (of_decide_eq_false h2) (of_decide_eq_false h1))
theorem duLays (blk off size : Nat) (w : World) : CmpLays Try.prog 81 #[] duEnc 2 duCf blk off size w :=
  fun _ _ _ _ x y => (implOrderG (unpair x) (unpair y) _).mono fun _ _ h => h
/-- The cells of a list, flat. -/
theorem flat_du (l : List Du) : (Go.Sort.flatK duEnc 2 (l.map Du.pair).toArray).toList = ducells l := by
  apply List.ext_getElem?
  intro i
  by_cases hi : i < l.length * 2
  · have hs : i < (Go.Sort.flatK duEnc 2 (l.map Du.pair).toArray).size := by rw [Go.Sort.size_flatK]; simpa using hi
    have hk : i / 2 < l.length := by omega
    have e := Go.Sort.get_flatK duEnc 2 (l.map Du.pair).toArray i (by simpa using hi)
    rw [Array.getElem?_toList, Array.getElem?_eq_getElem hs, ← getElem!_pos (Go.Sort.flatK duEnc 2 (l.map Du.pair).toArray) i hs, e]
    have hp : (l.map Du.pair).toArray[i / 2]! = (duAt l (i / 2)).pair := by
      rw [getElem!_pos _ _ (by simpa using hk), duAt_lt hk]
      simp
    rw [hp]
    obtain ⟨e0, e1⟩ := ducells_get l (i / 2) hk
    rcases Nat.mod_two_eq_zero_or_one i with m | m
    · rw [m]
      rw [show i / 2 * 2 = i by omega] at e0
      rw [e0]
      rfl
    · rw [m]
      rw [show i / 2 * 2 + 1 = i by omega] at e1
      rw [e1]
      rfl
  · rw [List.getElem?_eq_none (by rw [Array.length_toList, Go.Sort.size_flatK]; simp; omega), List.getElem?_eq_none (by rw [ducells_length]; omega)]
theorem du_holds {base : Nat} {w : World} {g cap : Nat} {l : List Du} (h : DuRow base w (.slice (some ⟨g, 0, none⟩) l.length cap) l) : Go.Sort.HoldsK duEnc 2 w g 0 (l.map Du.pair).toArray := by
  intro j hj
  have hj2 : j < l.length * 2 := by rw [Go.Sort.size_flatK] at hj; simpa using hj
  have hc := World.ownsRow.cellAt h
  refine ⟨?_, World.ownsRow.frozenAt h _⟩
  rw [Nat.zero_add, hc j (by omega), ← flat_du, Array.getElem?_toList, Array.getElem?_eq_getElem hj, getElem!_pos (Go.Sort.flatK duEnc 2 (l.map Du.pair).toArray) j hj]
  rfl
theorem take_put (F cur : Array Value) (h : F.size ≤ cur.size) : (Go.Sort.putCells id 0 F cur).toList.take F.size = F.toList := by
  apply List.ext_getElem?
  intro i
  by_cases hi : i < F.size
  · rw [List.getElem?_take_of_lt hi]
    unfold Go.Sort.putCells
    rw [Array.getElem?_toList, Array.getElem?_mapIdx, Array.getElem?_eq_getElem (by omega : i < cur.size)]
    simp only [Option.map_some, Nat.zero_le, Nat.zero_add, hi, and_self, if_true, Nat.sub_zero, id]
    rw [getElem!_pos F i hi, Array.getElem?_toList, Array.getElem?_eq_getElem hi]
  · rw [List.getElem?_eq_none (by rw [List.length_take]; omega), List.getElem?_eq_none (by rw [Array.length_toList]; omega)]
theorem sort_heap (w : World) (g n : Nat) (F : Array Value) (os : Array Obj) (k : Nat) (hk : k < w.heap.size) : (Go.Sort.grow (Go.Sort.putRow id (Go.Sort.ahead w n) g 0 F) os).heap[k]? = if k = g then (w.heap[k]?).map (Go.Sort.onCells (Go.Sort.putCells id 0 F)) else w.heap[k]? := by
  have hs : (Go.Sort.putRow id (Go.Sort.ahead w n) g 0 F).heap.size = w.heap.size := by
    unfold Go.Sort.putRow Go.Sort.mapBlock
    simp [Go.Sort.ahead]
  rw [Go.Sort.heap_grow_old _ os (by rw [hs]; exact hk)]
  unfold Go.Sort.putRow Go.Sort.mapBlock
  simp only [Array.getElem?_modify]
  by_cases e : k = g
  · subst e
    simp only [if_true]
    rfl
  · rw [if_neg e, if_neg (fun q => e q.symm)]
    rfl
/-- In order, none ahead of one that stands in front of it. -/
def Sorted (l : List Du) : Prop := ∀ i j, i < j → j < l.length → ¬ (duAt l j).lt (duAt l i)
theorem sortT_sort : sortT 67 = some [1, 12] := by kernel_rfl
theorem sortArgs (v1 v2 s : Value) : ArgR v1 v2 [1, 12] #[s, v1] #[s, v2] := by
  refine ⟨rfl, fun i hi => ?_, fun i hi => ?_⟩
  · match i, hi with
    | 0, _ => rfl
    | 1, hi => exact absurd (by simp) hi
    | i + 2, _ => simp
  · rcases List.mem_cons.1 hi with rfl | hi
    · right; exact ⟨rfl, rfl⟩
    · rcases List.mem_cons.1 hi with rfl | hi
      · left; simp
      · cases hi
set_option maxHeartbeats 1600000 in
set_option maxRecDepth 100000 in
theorem implSort0 (g cap : Nat) (l : List Du) (base : Nat) (w : World) (hT : l.length ≤ 1048576) (h : DuRow base w (.slice (some ⟨g, 0, none⟩) l.length cap) l) :
    Calls Try.prog 67 #[.slice (some ⟨g, 0, none⟩) l.length cap, .func (.func 81) #[] #[]] w fun e w' => e = .returned (.tuple #[]) ∧ ∃ d' n os, Go.Sort.PermIn 0 l.length (l.map Du.pair).toArray d' ∧ Go.Sort.SortedIn (ltOf duCf) 0 l.length d' ∧ w' = sortWorldK duEnc 2 w g 0 n d' os := by
  have hg := World.ownsRow.lt h g rfl
  have eg : ∀ args w, (callFunc 81 args).run Try.prog w = .ok (.enter 81 args) w := enters_of Try.func81 (by kernel_rfl) rfl
  have hsz : (l.map Du.pair).toArray.size = l.length := by simp
  have hcon := AnyQ.slices_SortFunc Try.sortA 2 Try.isAgg33 Try.sizeOf33 duEnc (fun _ => rfl) (fun x v hv => by simp [duEnc] at hv; rcases hv with rfl | rfl <;> rfl) duCf duSwo 81 #[] g 0 cap (l.map Du.pair).toArray w eg (duLays g 0 _ w) (du_holds h) hg.2 (by rw [hsz]; omega)
  change Calls Try.prog 67 _ _ _ at hcon
  rw [hsz] at hcon
  exact hcon
set_option maxHeartbeats 1600000 in
theorem implSort (g cap : Nat) (l : List Du) (base : Nat) (w : World) (hT : l.length ≤ 1048576) (h : DuRow base w (.slice (some ⟨g, 0, none⟩) l.length cap) l) :
    Calls Try.prog 67 #[.slice (some ⟨g, 0, none⟩) l.length cap, .func (.methodOf 33 "loop.example/g00316/impl.order") #[] #[]] w fun e w' => e = .returned (.tuple #[]) ∧ ∃ l', l'.Perm l ∧ Sorted l' ∧ DuRow base w' (.slice (some ⟨g, 0, none⟩) l'.length cap) l' ∧ Below g w w' ∧ ∀ k, k ≠ g → k < w.heap.size → w'.heap[k]? = w.heap[k]? := by
  have hg := World.ownsRow.lt h g rfl
  have hsz : (l.map Du.pair).toArray.size = l.length := by simp
  refine calls_sim sortSim sortT_sort (sortArgs _ _ _) (fun e w' hh => ⟨_, hh.1⟩) ((implSort0 g cap l base w hT h).mono ?_)
  rintro e w' ⟨rfl, d', n, os, hp, hs, rfl⟩
  refine ⟨rfl, d'.toList.map unpair, ?_, ?_, ?_, ?_, ?_⟩
  · have h3 := hp.2.2
    have e1 : (d'.extract 0 l.length).toList = d'.toList := by
      rw [Array.toList_extract]
      have : d'.toList.length = l.length := by rw [Array.length_toList, hp.1, hsz]
      rw [← this]
      simp [List.extract, List.take_of_length_le]
    have e2 : ((l.map Du.pair).toArray.extract 0 l.length).toList = l.map Du.pair := by
      rw [Array.toList_extract]
      simp [List.extract, List.take_of_length_le]
    rw [e1, e2] at h3
    have h4 := h3.map unpair
    rw [List.map_map] at h4
    have : unpair ∘ Du.pair = id := rfl
    rw [this, List.map_id] at h4
    exact h4
  · intro i j hij hj
    have hl : d'.size = l.length := by rw [hp.1, hsz]
    have hj' : j < l.length := by rw [List.length_map, Array.length_toList, hl] at hj; exact hj
    have := hs i j (Nat.zero_le _) hij hj'
    rw [duLt] at this
    have at' : ∀ k, k < l.length → duAt (d'.toList.map unpair) k = unpair d'[k]! := by
      intro k hk
      rw [duAt_lt (by rw [List.length_map, Array.length_toList, hl]; exact hk), List.getElem_map, getElem!_pos _ _ (by rw [hl]; exact hk)]
      rfl
    rw [at' j hj', at' i (by omega)]
    exact of_decide_eq_false this
  · have hl : d'.size = l.length := by rw [hp.1, hsz]
    have hlen : (d'.toList.map unpair).length = l.length := by rw [List.length_map, Array.length_toList, hl]
    have hback : (d'.toList.map unpair).map Du.pair = d'.toList := by
      rw [List.map_map]
      have : Du.pair ∘ unpair = id := rfl
      rw [this, List.map_id]
    have hF : (Go.Sort.flatK duEnc 2 d').toList = ducells (d'.toList.map unpair) := by
      have := flat_du (d'.toList.map unpair)
      rw [hback] at this
      exact this
    rcases h.2 with ⟨e, _⟩ | ⟨g', cap', cur, e, q1, q2, q3, q4, q5, q6⟩
    · cases e
    · cases e
      unfold DuRow
      rw [hlen]
      refine ⟨by rw [ducells_length, hlen], .inr ⟨g, cap, Go.Sort.putCells id 0 (Go.Sort.flatK duEnc 2 d') cur, rfl, q1, ?_, q3, q4, ?_, ?_⟩⟩
      · show (Go.Sort.grow (Go.Sort.putRow id (Go.Sort.ahead w n) g 0 (Go.Sort.flatK duEnc 2 d')) os).heap[g]? = _
        rw [sort_heap w g n _ os g hg.2, if_pos rfl, q2]
        rfl
      · unfold Go.Sort.putCells
        rw [Array.size_mapIdx, q5]
      · have := take_put (Go.Sort.flatK duEnc 2 d') cur (by rw [Go.Sort.size_flatK, hl, q5]; omega)
        rw [Go.Sort.size_flatK, hl, hF] at this
        exact this
  · refine ⟨rfl, rfl, rfl, ?_, fun k hk => ?_⟩
    · show w.heap.size ≤ (Go.Sort.grow _ os).heap.size
      rw [Go.Sort.size_grow]
      have : (Go.Sort.putRowK duEnc 2 (Go.Sort.ahead w n) g 0 d').heap.size = w.heap.size := by
        unfold Go.Sort.putRowK Go.Sort.putRow Go.Sort.mapBlock
        simp [Go.Sort.ahead]
      rw [this]
      exact Nat.le_add_right _ _
    · have := sort_heap w g n (Go.Sort.flatK duEnc 2 d') os k (by omega)
      rw [if_neg (by omega)] at this
      exact this
  · intro k hk hk2
    have := sort_heap w g n (Go.Sort.flatK duEnc 2 d') os k hk2
    rw [if_neg hk] at this
    exact this
end Go.Proofs.Ytgimalimfmoilaa
