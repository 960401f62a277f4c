import Derived.Test.YtgebghkcikmfaaaGreatDoorQJ44RwOkI
import Derived.Test.YtgebghkcikmfaaaGreatDoorQJ0NumUp
import Derived.Test.YtgebghkcikmfaaaGreatDoorQJ24IzBlk
import Derived.Test.YtgebghkcikmfaaaGreatDoorQJ5StepRow
import Derived.Laws.ResultCell
import Derived.Laws.CopyOwn
import Derived.Laws.AppendOwn
import Derived.Deep.RegionLaw
import Derived.Test.YtgebghkcikmfaaaGreatDoorQJ13ItSrc
import Derived.BigQuiet
import Derived.Deep.DeepCutAuto
/-
  Whether there is such a row, by the program. By the verifier.
-/
namespace Go.Proofs.YtgebghkcikmfaaaGreatDoor
open Go.RowKit Go.Shelf

set_option maxHeartbeats 1600000 in
theorem implHasRow (r : Rw) (a : Option Addr) (c : Nat) (row : Int) (w : World) (hT : r.lists.length ≤ 1048576) :
    Calls Tryz.prog 174 #[r.val a c, .int .i64 row] w fun e w' => e = .returned (.bool (decide (0 ≤ row) && decide (row < r.lists.length))) ∧ Below w.heap.size w w' := by
  have A := fun B w h => implUpTo1 ((r.lists.length : Int) - 1) row w B h
  have e : Hid (inB 0 ((r.lists.length : Int) - 1) row = (decide (0 ≤ row) && decide (row < r.lists.length))) := by
    show _ = _
    rw [Bool.eq_iff_iff, inB_true, Bool.and_eq_true, decide_eq_true_iff, decide_eq_true_iff]
    omega
  generalize (decide (0 ≤ row) && decide (row < (r.lists.length : Int))) = z at e ⊢
  generalize inB 0 ((r.lists.length : Int) - 1) row = y at A e
  unfold Rw.val
  generalize r.lists.length = n at A hT ⊢
  generalize r.most = f
  have A' : Hid _ := A
  clear A
  have q1 : -9223372036854775808 ≤ (n : Int) - 1 := by omega
  have q2 : (n : Int) - 1 ≤ 9223372036854775807 := by omega
  go_enter Tryz.func174, Tryz.ntmps174
  go_wp2_with fail
  refine (A'.out _ _ (by simp)).mono ?_
  rintro e w' ⟨rfl, rfl⟩
  go_wp2
  go_ret
  exact ⟨ret_bool (by rw [← e.out]), ((Below.refl _ _).alloc (Nat.le_refl _) _).alloc (by simp) _⟩
end Go.Proofs.YtgebghkcikmfaaaGreatDoor

/-
  The walks of slices.IndexFunc and slices.ContainsFunc on lists of items. By the verifier.
-/
namespace Go.Proofs.YtgebghkcikmfaaaGreatDoor
open Go.RowKit Go.Shelf

/-- A function that tells yes or no of a list, as long as all that lay lies. -/
structure IzTells (W0 : World) (g : FuncId) (fs cb : Array Value) (p : List It → Bool) : Prop where
  enters : Enters Tryz.prog g
  tells : ∀ (W : World) (ak : Option Addr) (ck : Nat) (l : List It), Below W0.heap.size W0 W → l.length ≤ 1048576 → ItsAt W ak l → Calls Tryz.prog g (fs ++ #[.slice ak l.length ck] ++ cb) W fun e w' => e = .returned (.bool (p l)) ∧ Below W.heap.size W w'

set_option maxHeartbeats 1600000 in
set_option maxRecDepth 100000 in
theorem implIndexZ (a : Option Addr) (cap : Nat) (l : List (List It)) (g : FuncId) (fs cb : Array Value) (p : List It → Bool) (w : World) (hT : l.length ≤ 1048576) (hin : ∀ k, k < l.length → (izAt l k).length ≤ 1048576) (h : Hid (IzAt w a l)) (ht : Hid (IzTells w g fs cb p)) :
    Calls Tryz.prog 224 #[.slice a l.length cap, .func (.func g) fs cb] w fun e w' => e = .returned (.int .i64 (if l.findIdx p < l.length then (l.findIdx p : Int) else -1)) ∧ Below w.heap.size w w' := by
  have eg : ∀ args w, (callFunc g args).run Tryz.prog w = .ok (.enter g args) w := ht.out.enters
  have Hin : Hid (∀ k, k < l.length → (izAt l k).length ≤ 1048576) := hin
  obtain ⟨len, hlen⟩ : ∃ n, l.length = n := ⟨_, rfl⟩
  have Hlen : Hid (l.length = len) := hlen
  obtain ⟨N, hN⟩ : ∃ N, l.findIdx p = N := ⟨_, rfl⟩
  have HN : Hid (l.findIdx p = N) := hN
  have hNl : N ≤ len := by rw [← hN, ← hlen]; exact List.findIdx_le_length
  rw [hlen] at hT ⊢
  rw [hN]
  clear hlen hN hin
  go_enter Tryz.func224, Tryz.ntmps224
  go_wp2
  go_loopw [8] (fun i wr => ∃ k : Nat, k ≤ N ∧ i = .int .i64 k ∧ Hid (Below w.heap.size w wr)) (fun i _ => len - (intOf i).toNat)
  case atStart => exact ⟨0, Nat.zero_le _, rfl, Below.refl _ _⟩
  case round =>
    obtain ⟨k, hk, rfl, H1⟩ := hrel
    by_cases hlt : k < len
    · have hkl : k < l.length := by rw [Hlen.out]; exact hlt
      obtain ⟨b1, o1, ak, ck, ha1, hb1, hc, hr, -⟩ := (h.out.below H1.out) k hkl
      subst ha1
      have HC := ht.out.tells wr ak ck (izAt l k) H1.out (Hin.out k hkl) hr
      have hlt' : (k : Int) < (len : Int) := by omega
      by_cases hkN : k = N
      · have hp : p (izAt l k) = true := by
          rw [izAt_lt hkl]
          have := List.findIdx_getElem (p := p) (xs := l) (w := by rw [HN.out, Hlen.out, ← hkN]; exact hlt)
          simpa only [HN.out, ← hkN] using this
        rw [hp] at HC
        clear hp hr hkl
        generalize (izAt l k).length = n at hc HC
        subst hkN
        go_wp2_with fail
        refine HC.mono ?_
        rintro e w' ⟨rfl, hb'⟩
        have B2 : Hid (Below w.heap.size w w') := H1.out.trans (hb'.mono H1.out.size)
        clear hb' H1 HC hc
        go_wp2
        go_ret
        exact ⟨by first | rfl | (rw [if_pos hlt]; rfl), B2.out⟩
      · have hp : p (izAt l k) = false := by
          rw [izAt_lt hkl]
          have := List.not_of_lt_findIdx (p := p) (xs := l) (i := k) (by rw [HN.out]; omega)
          simpa using this
        rw [hp] at HC
        clear hp hr hkl
        generalize (izAt l k).length = n at hc HC
        go_wp2_with fail
        refine HC.mono ?_
        rintro e w' ⟨rfl, hb'⟩
        have B2 : Hid (Below w.heap.size w w') := H1.out.trans (hb'.mono H1.out.size)
        clear hb' H1 HC hc
        go_wp2
        go_roundw
        case rel => exact ⟨k + 1, by omega, by go_num, B2⟩
        case measure => simp [intOf]; omega
    · obtain rfl : k = len := by omega
      obtain rfl : k = N := by omega
      go_wp2
      go_ret
      exact ⟨by first | rfl | (rw [if_neg (Nat.lt_irrefl _)]; rfl), H1.out⟩

set_option maxHeartbeats 1600000 in
theorem implContainsZ (a : Option Addr) (cap : Nat) (l : List (List It)) (g : FuncId) (fs cb : Array Value) (p : List It → Bool) (w : World) (hT : l.length ≤ 1048576) (hin : ∀ k, k < l.length → (izAt l k).length ≤ 1048576) (h : Hid (IzAt w a l)) (ht : Hid (IzTells w g fs cb p)) :
    Calls Tryz.prog 161 #[.slice a l.length cap, .func (.func g) fs cb] w fun e w' => e = .returned (.bool (l.any p)) ∧ Below w.heap.size w w' := by
  have I := fun (_ : Nat) => implIndexZ a cap l g fs cb p w hT hin h ht
  have Ha : Hid (decide (l.findIdx p < l.length) = l.any p) := any_idxT l p
  generalize l.any p = b at Ha ⊢
  generalize l.findIdx p = N at I Ha
  generalize l.length = len at I Ha ⊢
  have I' : Hid _ := I
  clear I hT hin h ht
  go_enter Tryz.func161, Tryz.ntmps161
  go_wp2_with fail
  refine (I'.out 0).mono ?_
  rintro e w' ⟨rfl, hb⟩
  have B2 : Hid (Below w.heap.size w w') := hb
  clear hb I'
  by_cases hk : N < len
  · rw [if_pos hk]
    have hp : (0 : Int) ≤ (N : Int) := by omega
    go_wp2
    go_ret
    exact ⟨ret_bool (by rw [← Ha.out, decide_eq_true hk]), B2.out⟩
  · rw [if_neg hk]
    go_wp2
    go_ret
    exact ⟨ret_bool (by rw [← Ha.out, decide_eq_false hk]), B2.out⟩
end Go.Proofs.YtgebghkcikmfaaaGreatDoor

/-
  The walk of the program's look for an id. By the verifier.
-/
namespace Go.Proofs.YtgebghkcikmfaaaGreatDoor
open Go.RowKit Go.Shelf

set_option maxHeartbeats 1600000 in
theorem implIsId (r : It) (id : Int) (B : Nat) (w : World) (hB : Hid (Boxed w B #[.int .i64 id] 2)) :
    Calls Tryz.prog 256 #[r.val, .pointer (some ⟨B, 0, none⟩)] w fun e w' => e = .returned (.bool (decide (r.id = id))) ∧ Below w.heap.size w w' := by
  obtain ⟨i, p, s⟩ := r
  simp only [It.val]
  have c : w.cell? ⟨B, 0, none⟩ = some (.int .i64 id) := hB.out.cell 0 rfl
  have hl : B < w.heap.size := hB.out.under
  have hne : ¬ w.heap.size = B := by omega
  have hne2 : ¬ B = w.heap.size := by omega
  have H : Hid (Below w.heap.size w (w.alloc (.cells #[.int .i64 i, .int .i64 p, .int .i64 s] 52))) := (Below.refl _ _).alloc (Nat.le_refl _) _
  go_enter Tryz.func256, Tryz.ntmps256
  go_wp2
  go_ret
  exact ⟨rfl, H.out⟩
theorem isIdTells (id : Int) (B : Nat) (w : World) (hB : Boxed w B #[.int .i64 id] 2) : ItTells w (fun k => k = B) 256 #[] #[.pointer (some ⟨B, 0, none⟩)] (fun _ => True) (fun r => decide (r.id = id)) :=
  ⟨enters_of Tryz.func256 (by kernel_rfl) rfl, fun k hk => by rw [hk]; exact hB.under, fun W r _ hW => implIsId r id B W ((hW B rfl).trans hB)⟩

set_option maxHeartbeats 1600000 in
theorem implInList (ak : Option Addr) (ck : Nat) (l : List It) (id : Int) (B : Nat) (w : World) (hT : l.length ≤ 1048576) (h : ItsAt w ak l) (hB : Boxed w B #[.int .i64 id] 2) :
    Calls Tryz.prog 255 #[.slice ak l.length ck, .pointer (some ⟨B, 0, none⟩)] w fun e w' => e = .returned (.bool (l.any fun r => decide (r.id = id))) ∧ Below w.heap.size w w' := by
  have C := fun (_ : Nat) => implContainsT ak ck l 256 #[] #[.pointer (some ⟨B, 0, none⟩)] (fun k => k = B) (fun _ => True) (fun r => decide (r.id = id)) w hT h (fun _ _ => trivial) (isIdTells id B w hB)
  generalize (l.any fun r => decide (r.id = id)) = z at C ⊢
  generalize l.length = n at C ⊢
  have hmf : ∀ (fn : Fn) (first cap : Array Value) (w : World), (Instr.makeFunc fn first cap).run Tryz.prog w = .ok (.func fn first cap) w := fun _ _ _ _ => rfl
  have C' : Hid _ := C
  clear C h hB hT
  go_enter Tryz.func255, Tryz.ntmps255
  go_wp2_with fail
  refine (C'.out 0).mono ?_
  rintro e w' ⟨rfl, hb⟩
  have B2 : Hid (Below w.heap.size w w') := hb
  clear hb C'
  go_wp2
  go_ret
  exact ⟨rfl, B2.out⟩

theorem has_any (r : Rw) (id : Int) : r.has id = r.lists.any fun l => l.any fun i => decide (i.id = id) := by
  unfold Rw.has Rw.all
  rw [Bool.eq_iff_iff, decide_eq_true_iff, List.any_eq_true]
  constructor
  · intro h
    obtain ⟨i, hi, e⟩ := List.mem_map.1 h
    obtain ⟨l, hl, hi⟩ := List.mem_flatten.1 hi
    exact ⟨l, hl, List.any_eq_true.2 ⟨i, hi, decide_eq_true e⟩⟩
  · rintro ⟨l, hl, h⟩
    obtain ⟨i, hi, e⟩ := List.any_eq_true.1 h
    exact List.mem_map.2 ⟨i, List.mem_flatten.2 ⟨l, hl, hi⟩, of_decide_eq_true e⟩

set_option maxHeartbeats 1600000 in
theorem implHasR (r : Rw) (a : Option Addr) (c : Nat) (id : Int) (w : World) (hB : r.big ≤ 1048576) (h : Hid (IzAt w a r.lists)) :
    Calls Tryz.prog 204 #[r.val a c, .int .i64 id] w fun e w' => e = .returned (.bool (r.has id)) ∧ Below w.heap.size w w' := by
  obtain ⟨hT, -, hin⟩ := Rw.small hB
  rw [has_any]
  have C := fun (B : Nat) (w : World) (h : IzAt w a r.lists) (hB : Boxed w B #[.int .i64 id] 2) => implContainsZ a c r.lists 255 #[] #[.pointer (some ⟨B, 0, none⟩)] (fun l => l.any fun i => decide (i.id = id)) w hT hin h ⟨enters_of Tryz.func255 (by kernel_rfl) rfl, fun W ak ck l hW hl hr => implInList ak ck l id B W hl hr (hB.below hB.under hW)⟩
  generalize (r.lists.any fun l => l.any fun i => decide (i.id = id)) = z at C ⊢
  unfold Rw.val
  have X : Hid (IzAt ((w.alloc (.cells #[.int .i64 r.most, .slice a r.lists.length c] 44)).alloc (.cells #[.int .i64 id] 2)) a r.lists ∧ Boxed ((w.alloc (.cells #[.int .i64 r.most, .slice a r.lists.length c] 44)).alloc (.cells #[.int .i64 id] 2)) (w.heap.size + 1) #[.int .i64 id] 2 ∧ Below w.heap.size w ((w.alloc (.cells #[.int .i64 r.most, .slice a r.lists.length c] 44)).alloc (.cells #[.int .i64 id] 2))) := by
    refine ⟨(h.out.alloc _).alloc _, ?_, ((Below.refl _ _).alloc (Nat.le_refl _) _).alloc (by simp) _⟩
    have := Boxed.new (w.alloc (.cells #[.int .i64 r.most, .slice a r.lists.length c] 44)) #[.int .i64 id] 2
    simpa using this
  have hmf : ∀ (fn : Fn) (first cap : Array Value) (w : World), (Instr.makeFunc fn first cap).run Tryz.prog w = .ok (.func fn first cap) w := fun _ _ _ _ => rfl
  generalize r.lists.length = n at C X ⊢
  generalize r.most = f at X ⊢
  have C' : Hid _ := C
  clear C h hB hT hin
  go_enter Tryz.func204, Tryz.ntmps204
  go_wp2_with fail
  refine (C'.out _ _ X.out.1 X.out.2.1).mono ?_
  rintro e w' ⟨rfl, hb⟩
  have B2 : Hid (Below w.heap.size w w') := X.out.2.2.trans (hb.mono X.out.2.2.size)
  clear hb X C'
  go_wp2
  go_ret
  exact ⟨rfl, B2.out⟩
end Go.Proofs.YtgebghkcikmfaaaGreatDoor

/-
  The walk of the program's copy of rows. By the verifier.
-/
namespace Go.Proofs.YtgebghkcikmfaaaGreatDoor
open Go.RowKit

theorem implCopied (r : Rw) (a : Option Addr) (c : Nat) (w : World) (hB : r.big ≤ 1048576) (h : Hid (IzAt w a r.lists)) :
    Calls Tryz.prog 99 #[r.val a c] w fun e w' => (∃ v vs, e = .returned (.agg #[.int .i64 r.most, v]) ∧ IzG (w.heap.size + 2) v vs r.lists w') ∧ Below w.heap.size w w' :=
  (implCpyRw r a c w hB h).mono fun _ _ hh => by
    obtain ⟨⟨v, vs, e, hG, _⟩, hb⟩ := hh
    exact ⟨⟨v, vs, e, hG⟩, hb⟩
end Go.Proofs.YtgebghkcikmfaaaGreatDoor

/-
  One item put behind a list whose room ends there: a list of its own; the walk of the program's withLast. By the verifier.
-/
namespace Go.Proofs.YtgebghkcikmfaaaGreatDoor
open Go.RowKit

/-- A list of its own out of what an append lays. -/
theorem it_grown (w : World) (L : List It) (r : It) (cap : Nat) (z : Array Value) (hz : z.size = 3) (hge : L.length + 1 ≤ cap) (hcm : cap ≤ maxLen) :
    ItRow w.heap.size (w.drew.alloc (.cells ((itcells L).toArray ++ r.cells.toArray ++ Builtin.zeroCells z (cap - (L.length + 1))) 52)) (.slice (some ⟨w.heap.size, 0, none⟩) (L.length + 1) cap) (L ++ [r]) := by
  have hlen : (itcells (L ++ [r])).length = (L.length + 1) * 3 := by rw [itcells_length]; simp
  have hcat : itcells (L ++ [r]) = itcells L ++ r.cells := by rw [itcells_append]; simp [itcells]
  unfold ItRow
  rw [List.length_append, List.length_singleton]
  refine ⟨hlen, .inr ⟨w.heap.size, _, _, rfl, Nat.le_refl _, heap_alloc_new w.drew _, hge, hcm, ?_, ?_⟩⟩
  · simp only [Array.size_append, List.size_toArray, size_zeroCells, hz, itcells_length]
    show L.length * 3 + 3 + (cap - (L.length + 1)) * 3 = cap * 3
    omega
  · simp only [Array.toList_append]
    rw [← hlen, hcat]
    exact List.take_left
theorem it_app_full (w : World) (ty : TypeId) (a : Option Addr) (L : List It) (r : It) (h : ItsAt w a L) (hl : L.length ≤ 1048576) :
    ∃ v' w', (Builtin.append_ #[111, 111] ty #[.slice a L.length L.length, .slice (some ⟨w.heap.size, 0, none⟩) 1 1]).run Tryz.prog (w.alloc (.cells r.cells.toArray 52)) = .ok v' w' ∧ ItRow w.heap.size w' v' (L ++ [r]) ∧ Below w.heap.size w w' := by
  obtain ⟨i0, hi0, hz0, hz1, hz2⟩ := info_parts itInfo
  obtain ⟨W, hW⟩ : ∃ W, W = w.alloc (.cells r.cells.toArray 52) := ⟨_, rfl⟩
  have hsz : W.heap.size = w.heap.size + 1 := by rw [hW]; simp
  have hnews : ∀ j v, r.cells[j]? = some v → W.cell? ((⟨w.heap.size, 0, none⟩ : Addr).add j) = some v := by
    have hnew : (w.alloc (.cells r.cells.toArray 52)).ownsRow w.heap.size 52 3 (.slice (some ⟨w.heap.size, 0, none⟩) 1 1) 1 r.cells := World.ownsRow_lit (size := 3) w r.cells.toArray 1 (Nat.le_refl _) (by unfold maxLen; omega) rfl
    rw [hW]
    exact hnew.cells (g := w.heap.size) rfl
  have hb0 : Below w.heap.size w W := by rw [hW]; exact (Below.refl _ _).alloc (Nat.le_refl _) _
  have hA : ItsAt W a L := h.below hb0
  have bel : ∀ o, Below w.heap.size w (W.drew.alloc o) := fun o => hb0.drew.alloc (by show w.heap.size ≤ W.heap.size; omega) _
  rw [← hW]
  cases a with
  | none =>
    obtain rfl := hA.empty
    have hr := run_append_nil (P := Tryz.prog) W 111 ty 52 i0 (.agg #[.int .i64 0, .int .i64 0, .int .i64 0]) Tryz.underlying111 hi0 hz0 ⟨w.heap.size, 0, none⟩ 1 1 r.cells (by rw [hz1]; rfl) hnews (by omega) (by omega) (by rw [hz2]; omega)
    refine ⟨_, _, hr, ?_, bel _⟩
    have hge := grownCap_ge W 1 0 52
    have hcm := grownCap_le_maxLen W 1 0 52 (by unfold maxLen; omega)
    have := it_grown W [] r (grownCap W 1 0 52) (Value.cells (.agg #[.int .i64 0, .int .i64 0, .int .i64 0])) rfl hge hcm
    simp only [itcells_nil, Array.empty_append, List.length_nil, Nat.zero_add] at this
    exact ItRow.mono this (by omega)
  | some ad =>
    cases L with
    | nil =>
      have hr := run_append_grow (P := Tryz.prog) W 111 ty 52 i0 (.agg #[.int .i64 0, .int .i64 0, .int .i64 0]) Tryz.underlying111 hi0 hz0 ad 0 0 [] (by simp) (by simp) ⟨w.heap.size, 0, none⟩ 1 1 r.cells (by rw [hz1]; rfl) hnews (by omega) (by omega) (growslice_fits (by omega) (by rw [hz2]; omega))
      refine ⟨_, _, hr, ?_, bel _⟩
      exact ItRow.mono (it_grown W [] r _ _ rfl (grownCap_ge W _ _ _) (grownCap_le_maxLen W _ _ _ (by unfold maxLen; omega))) (by omega)
    | cons x xs =>
      obtain ⟨b, off, ha, _⟩ := hA 0 (by simp)
      cases ha
      have hr := run_append_grow (P := Tryz.prog) W 111 ty 52 i0 (.agg #[.int .i64 0, .int .i64 0, .int .i64 0]) Tryz.underlying111 hi0 hz0 ⟨b, off, none⟩ (x :: xs).length (x :: xs).length (itcells (x :: xs)) (by rw [hz1]; exact itcells_length _) hA.src ⟨w.heap.size, 0, none⟩ 1 1 r.cells (by rw [hz1]; rfl) hnews (by omega) (by omega) (growslice_fits (by omega) (by rw [hz2]; omega))
      refine ⟨_, _, hr, ?_, bel _⟩
      exact ItRow.mono (it_grown W (x :: xs) r _ _ rfl (grownCap_ge W _ _ _) (grownCap_le_maxLen W _ _ _ (by unfold maxLen; omega))) (by omega)
/-- As a step of a region that draws. -/
theorem it_step_full {ops : Array Oper} {o : Oper} {a : Act} {w wx : World} {K : Act → World → Prop} {Q : Exit → Act → World → Prop} {E : Prop} (hgd : o.guard = none) (s x : Operand)
    (ho : o.op = .call { callee := .builtin .append, args := #[s, x], argTypes := #[111, 111] })
    (a0 : Option Addr) (L : List It) (n : Nat) (hL : L.length = n) (r : It) (hwx : wx = w.alloc (.cells r.cells.toArray 52)) (hs : a.eval s = .slice a0 n n) (hM : ItsAt w a0 L) {m : Nat} (hx : a.eval x = .slice (some ⟨m, 0, none⟩) 1 1) (hm : m = w.heap.size)
    (hlen : L.length ≤ 1048576)
    (h : ∀ v' w', ItRow w.heap.size w' v' (L ++ [r]) → Below w.heap.size w w' → K (a.put o.dst v') w') :
    if Region.wanted o (yielded ops a.tmps) = true then Oper.wp Tryz.prog o a wx K Q else E := by
  subst hwx
  subst hm
  subst hL
  rw [if_pos (by simp [Region.wanted, hgd])]
  obtain ⟨v', w', hrun, h1, h2⟩ := it_app_full w o.type a0 L r hM hlen
  unfold Oper.wp
  simp [execOp, ho, resolve, invoke, builtin, hs, hx, hrun, Result.andThen]
  exact h v' w' h1 h2

set_option maxHeartbeats 3200000 in
set_option maxRecDepth 100000 in
theorem implWithLast (a : Option Addr) (c : Nat) (L : List It) (r : It) (w : World) (hT : L.length ≤ 1048576) (hc : L.length ≤ c) (hn : a = none → c = 0) (h : Hid (ItsAt w a L)) :
    Calls Tryz.prog 206 #[.slice a L.length c, r.val] w fun e w' => (∃ v, e = .returned v ∧ ItRow w.heap.size w' v (L ++ [r])) ∧ Below w.heap.size w w' := by
  obtain ⟨n, hL⟩ : ∃ n, L.length = n := ⟨_, rfl⟩
  have Hmax : Hid (L.length ≤ 1048576) := hT
  rw [hL] at hT hc ⊢
  have HL : Hid (L.length = n) := hL
  clear hL
  obtain ⟨x0, x1, x2⟩ := r
  simp only [It.val]
  have X : Hid (ItsAt (w.alloc (.cells #[.int .i64 x0, .int .i64 x1, .int .i64 x2] 52)) a L ∧ Below w.heap.size w (w.alloc (.cells #[.int .i64 x0, .int .i64 x1, .int .i64 x2] 52)) ∧ Boxed (w.alloc (.cells #[.int .i64 x0, .int .i64 x1, .int .i64 x2] 52)) w.heap.size #[.int .i64 x0, .int .i64 x1, .int .i64 x2] 52) := ⟨h.out.alloc _, (Below.refl _ _).alloc (Nat.le_refl _) _, Boxed.new _ _ _⟩
  cases a with
  | none =>
    obtain rfl := hn rfl
    obtain rfl : n = 0 := by omega
    clear h hn
    go_enter Tryz.func206, Tryz.ntmps206
    go_wp2_with fail
    generalize w.alloc (.cells #[.int .i64 x0, .int .i64 x1, .int .i64 x2] 52) = W at X ⊢
    have c0 : W.cell? ⟨w.heap.size, 0, none⟩ = some (.int .i64 x0) := X.out.2.2.cell 0 rfl
    have c1 : W.cell? ⟨w.heap.size, 1, none⟩ = some (.int .i64 x1) := X.out.2.2.cell 1 rfl
    have c2 : W.cell? ⟨w.heap.size, 2, none⟩ = some (.int .i64 x2) := X.out.2.2.cell 2 rfl
    go_region_law (refine it_step_full (w := W.drew) rfl (.tmp 10) (.tmp 12) rfl none L 0 HL.out ⟨x0, x1, x2⟩ rfl rfl X.out.1.drew rfl rfl Hmax.out ?_; intro v' w2 q1 q2; have R : Hid (ItRow w.heap.size w2 v' (L ++ [⟨x0, x1, x2⟩]) ∧ Below w.heap.size w w2) := ⟨q1.mono X.out.2.1.size, X.out.2.1.trans (((Below.refl _ _).drew.trans (q2.mono (Nat.le_refl _))).mono X.out.2.1.size)⟩; obtain ⟨vx, vc, ev⟩ := q1.shape; rw [List.length_append, HL.out] at ev; subst ev; clear q1 q2)
    all_goals (
      go_wp2
      go_ret
      exact ⟨⟨_, rfl, R.out.1⟩, R.out.2⟩)
  | some ad =>
    clear h hn
    have hc' : ((n : Nat) : Int) ≤ (c : Int) := by omega
    go_enter Tryz.func206, Tryz.ntmps206
    go_wp2_with fail
    generalize w.alloc (.cells #[.int .i64 x0, .int .i64 x1, .int .i64 x2] 52) = W at X ⊢
    have c0 : W.cell? ⟨w.heap.size, 0, none⟩ = some (.int .i64 x0) := X.out.2.2.cell 0 rfl
    have c1 : W.cell? ⟨w.heap.size, 1, none⟩ = some (.int .i64 x1) := X.out.2.2.cell 1 rfl
    have c2 : W.cell? ⟨w.heap.size, 2, none⟩ = some (.int .i64 x2) := X.out.2.2.cell 2 rfl
    go_region_law (refine it_step_full (w := W.drew) rfl (.tmp 10) (.tmp 12) rfl (some ad) L n HL.out ⟨x0, x1, x2⟩ rfl rfl X.out.1.drew rfl rfl Hmax.out ?_; intro v' w2 q1 q2; have R : Hid (ItRow w.heap.size w2 v' (L ++ [⟨x0, x1, x2⟩]) ∧ Below w.heap.size w w2) := ⟨q1.mono X.out.2.1.size, X.out.2.1.trans (((Below.refl _ _).drew.trans (q2.mono (Nat.le_refl _))).mono X.out.2.1.size)⟩; obtain ⟨vx, vc, ev⟩ := q1.shape; rw [List.length_append, HL.out] at ev; subst ev; clear q1 q2)
    all_goals (
      go_wp2
      go_ret
      exact ⟨⟨_, rfl, R.out.1⟩, R.out.2⟩)
end Go.Proofs.YtgebghkcikmfaaaGreatDoor

/-
  What lies while one is pushed or popped. By the verifier.
-/
namespace Go.Proofs.YtgebghkcikmfaaaGreatDoor
open Go.RowKit

theorem izIn_nil (b t : Nat) (w : World) : IzIn b t w (.slice none 0 0) [] :=
  ⟨[], ⟨SlIn.nil _ _ _ _ _ _, rfl, fun i hi => by simp at hi, fun i hi => by simp at hi, fun i j k o hi => by simp at hi, fun i k o hi => by simp at hi⟩⟩
/-- What lies while one is pushed: what came in, the answer's variable, the rows that are made. -/
structure PuR (w : World) (f : Int) (a : Option Addr) (n c : Nat) (i : It) (B G : Nat) (vx : Option Addr) (vc : Nat) (vs : List Value) (ls' : List (List It)) (wr : World) : Prop where
  box : Boxed wr w.heap.size #[.int .i64 f, .slice a n c] 44
  item : Boxed wr (w.heap.size + 1) #[.int .i64 i.id, .int .i64 i.size, .int .i64 i.tm] 52
  res : Boxed wr (w.heap.size + 1 + 1) #[.int .i64 0, .slice none 0 0] 44
  out : Boxed wr B #[.int .i64 f, .slice vx n vc] 44
  g : IzG G (.slice vx n vc) vs ls' wr
  bel : Below w.heap.size w wr
  lo : w.heap.size + 3 ≤ G
  hi : w.heap.size + 3 ≤ B
section
variable {w : World} {f : Int} {a : Option Addr} {n c : Nat} {i : It} {B G : Nat} {vx : Option Addr} {vc : Nat} {vs : List Value} {ls' : List (List It)} {wr wd : World}
theorem PuR.below (h : PuR w f a n c i B G vx vc vs ls' wr) (g : Below wr.heap.size wr wd) : PuR w f a n c i B G vx vc vs ls' wd :=
  ⟨h.box.below h.box.under g, h.item.below h.item.under g, h.res.below h.res.under g, h.out.below h.out.under g, h.g.below g, h.bel.trans (g.mono h.bel.size), h.lo, h.hi⟩
/-- The answer's variable filled. -/
theorem PuR.done (h : PuR w f a n c i B G vx vc vs ls' wr) (hl : ls'.length = n) : RwIn w.heap.size (wr.setRow (w.heap.size + 1 + 1) #[.int .i64 f, .slice vx n vc]).heap.size (wr.setRow (w.heap.size + 1 + 1) #[.int .i64 f, .slice vx n vc]) (.agg #[.int .i64 f, .slice vx n vc]) ⟨f, ls'⟩ ∧ Below w.heap.size w (wr.setRow (w.heap.size + 1 + 1) #[.int .i64 f, .slice vx n vc]) := by
  have lo := h.lo
  refine ⟨⟨vx, vc, by unfold Rw.val; simp [hl], vs, ?_⟩, below_setRow h.bel (by omega) _⟩
  have hg : IzG G (.slice vx n vc) vs ls' (wr.setRow (w.heap.size + 1 + 1) #[.int .i64 f, .slice vx n vc]) := h.g.other fun k hk _ => setRow_other _ _ _ _ (by omega)
  have hd := hg.done
  show IzV _ _ _ (.slice vx ls'.length vc) vs ls'
  rw [hl]
  exact hd.wide (by omega) (Nat.le_refl _) (Nat.le_refl _)
end
section
variable {w : World} {f : Int} {a : Option Addr} {n c B G : Nat} {vx : Option Addr} {vc : Nat} {vs : List Value} {ls' : List (List It)} {wr wd : World}
end
end Go.Proofs.YtgebghkcikmfaaaGreatDoor

/-
  The walk of the program's Pushed. By the verifier.
-/
namespace Go.Proofs.YtgebghkcikmfaaaGreatDoor
open Go.RowKit

set_option maxHeartbeats 12800000 in
set_option maxRecDepth 100000 in
theorem implPushed (r : Rw) (v : Value) (row : Int) (i : It) (w : World) (hB : r.big ≤ 1048576) (h : Hid (RwAt w v r)) :
    Calls Tryz.prog 136 #[v, .int .i64 row, i.val] w fun e w' => (∃ v', e = .returned (.tuple #[v', .bool (r.pushedB row i)]) ∧ RwIn w.heap.size w'.heap.size w' v' (r.pushed row i)) ∧ Below w.heap.size w w' := by
  obtain ⟨a, c, rfl, k⟩ := h.out
  obtain ⟨hT, -, hin⟩ := Rw.small hB
  have A1 := fun w h => implRowsOk r a c w hB h
  have A2 := fun w h => implCopied r a c w hB h
  have A3 := fun w => implItem i w
  have A6 := fun w => implHasRow r a c row w hT
  have A4 := fun w h => implHasR r a c i.id w hB h
  have A5 := fun w h => implCountL r a c w hB h
  have Hb : Hid (r.pushedB row i = (r.ok && r.mayPush row i)) := rfl
  have Hp : Hid (r.pushed row i = if r.ok = true then (if r.mayPush row i = true then ⟨r.most, r.lists.set row.toNat (izAt r.lists row.toNat ++ [i])⟩ else r) else ⟨0, []⟩) := rfl
  have Hm : Hid (r.mayPush row i = ((decide (0 ≤ row) && decide (row < r.lists.length)) && (i.ok && (!r.has i.id && !decide ((izSum r.lists r.lists.length : Int) = r.most))))) := rfl
  have Hin : Hid (∀ k, k < r.lists.length → (izAt r.lists k).length ≤ 1048576) := hin
  generalize r.pushedB row i = pb at Hb ⊢
  generalize r.pushed row i = pr at Hp ⊢
  generalize r.mayPush row i = mp at Hb Hp Hm
  generalize r.ok = ok at A1 Hb Hp
  generalize i.ok = iok at A3 Hm
  generalize r.has i.id = has at A4 Hm
  generalize (izSum r.lists r.lists.length : Int) = cnt at A5 Hm
  obtain ⟨f, ls⟩ := r
  simp only [Rw.val, It.val] at A1 A2 A3 A4 A5 A6 Hp Hm Hin k hT ⊢
  obtain ⟨n, hn⟩ : ∃ n, ls.length = n := ⟨_, rfl⟩
  rw [hn] at A1 A2 A4 A5 A6 Hm Hin hT ⊢
  obtain ⟨hv, hhv⟩ : ∃ z, (decide (0 ≤ row) && decide (row < (n : Int))) = z := ⟨_, rfl⟩
  rw [hhv] at A6 Hm
  have Hh : Hid ((decide (0 ≤ row) && decide (row < (n : Int))) = hv) := hhv
  have Hn : Hid (ls.length = n) := hn
  have A1' : Hid _ := A1
  have A2' : Hid _ := A2
  have A3' : Hid _ := A3
  have A4' : Hid _ := A4
  have A5' : Hid _ := A5
  have A6' : Hid _ := A6
  have K : Hid (IzAt w a ls) := k
  clear A1 A2 A3 A4 A5 A6 h k hB hin hn hhv
  obtain ⟨W, hW⟩ : ∃ W, W = ((w.alloc (.cells #[.int .i64 f, .slice a n c] 44)).alloc (.cells #[.int .i64 i.id, .int .i64 i.size, .int .i64 i.tm] 52)).alloc (.cells #[.int .i64 0, .slice none 0 0] 44) := ⟨_, rfl⟩
  have X : Hid (IzAt W a ls ∧ Boxed W w.heap.size #[.int .i64 f, .slice a n c] 44 ∧ Boxed W (w.heap.size + 1) #[.int .i64 i.id, .int .i64 i.size, .int .i64 i.tm] 52 ∧ Boxed W (w.heap.size + 1 + 1) #[.int .i64 0, .slice none 0 0] 44 ∧ Below w.heap.size w W) := by
    rw [hW]
    refine ⟨((K.out.alloc _).alloc _).alloc _, ((Boxed.new w _ _).more _).more _, ?_, ?_, (((Below.refl _ _).alloc (Nat.le_refl _) _).alloc (by simp) _).alloc (by simp; omega) _⟩
    · have := (Boxed.new (w.alloc (.cells #[.int .i64 f, .slice a n c] 44)) #[.int .i64 i.id, .int .i64 i.size, .int .i64 i.tm] 52).more (.cells #[.int .i64 0, .slice none 0 0] 44)
      simpa using this
    · have := Boxed.new ((w.alloc (.cells #[.int .i64 f, .slice a n c] 44)).alloc (.cells #[.int .i64 i.id, .int .i64 i.size, .int .i64 i.tm] 52)) #[.int .i64 0, .slice none 0 0] 44
      simpa using this
  have HW : Hid (W = _) := hW
  clear hW
  go_enter Tryz.func136, Tryz.ntmps136
  go_wp2_with fail
  rw [← HW.out]
  refine (A1'.out _ X.out.1).mono ?_
  rintro e w1 ⟨rfl, q⟩
  have X1 : Hid (IzAt w1 a ls ∧ Boxed w1 w.heap.size #[.int .i64 f, .slice a n c] 44 ∧ Boxed w1 (w.heap.size + 1) #[.int .i64 i.id, .int .i64 i.size, .int .i64 i.tm] 52 ∧ Boxed w1 (w.heap.size + 1 + 1) #[.int .i64 0, .slice none 0 0] 44 ∧ Below w.heap.size w w1) :=
    ⟨X.out.1.below q, X.out.2.1.below X.out.2.1.under q, X.out.2.2.1.below X.out.2.2.1.under q, X.out.2.2.2.1.below X.out.2.2.2.1.under q, X.out.2.2.2.2.trans (q.mono X.out.2.2.2.2.size)⟩
  clear q X A1' HW
  cases ok
  · have e1 : pb = false := by rw [Hb.out]; rfl
    have e2 : pr = ⟨0, []⟩ := by rw [Hp.out]; rfl
    subst e1
    subst e2
    go_wp2_with (refine wpList_store_row rfl 44 (.tmp 6) (.tmp 12) rfl (w.heap.size + 1 + 1) #[.int .i64 0, .slice none 0 0] rfl rfl _ _ X1.out.2.2.2.1 (by kernel_rfl) rfl (by simp [Value.oneCell']) ?_)
    refine bodyPost_ret (results_row_tmp Tryz.results136 _ _ (w.heap.size + 1 + 1) _ #[.int .i64 0, .slice none 0 0] _ _ (.bool false) rfl rfl (setRow_heap w1 (w.heap.size + 1 + 1) _ _ _ _ X1.out.2.2.2.1) Tryz.underlying44 rfl (by kernel_rfl)) rfl ⟨⟨_, rfl, none, 0, rfl, izIn_nil _ _ _⟩, below_setRow X1.out.2.2.2.2 (by omega) _⟩
  have c0 : w1.cell? ⟨w.heap.size, 0, none⟩ = some (.int .i64 f) := X1.out.2.1.cell 0 rfl
  have c1 : w1.cell? ⟨w.heap.size, 1, none⟩ = some (.slice a n c) := X1.out.2.1.cell 1 rfl
  go_wp2_with fail
  refine (A2'.out _ X1.out.1).mono ?_
  rintro e w2 ⟨⟨v2, vs, rfl, g2⟩, q⟩
  obtain ⟨vx, vc, ev⟩ := rows_shape g2.outer
  rw [Hn.out] at ev
  subst ev
  have X2 : Hid (PuR w f a n c i w2.heap.size (w1.heap.size + 2) vx vc vs ls (w2.alloc (.cells #[.int .i64 f, .slice vx n vc] 44))) := by
    have s1 := X1.out.2.2.2.1.under
    have s2 := q.size
    refine ⟨(X1.out.2.1.below X1.out.2.1.under q).more _, (X1.out.2.2.1.below X1.out.2.2.1.under q).more _, (X1.out.2.2.2.1.below X1.out.2.2.2.1.under q).more _, Boxed.new _ _ _, g2.below ((Below.refl _ _).alloc (Nat.le_refl _) _), ?_, by omega, by omega⟩
    have b := X1.out.2.2.2.2.trans (q.mono X1.out.2.2.2.2.size)
    exact b.alloc b.size _
  clear q g2 X1 c0 c1 A2'
  go_upto_region 4 with fail
  generalize w2.alloc (.cells #[.int .i64 f, .slice vx n vc] 44) = w3 at X2 ⊢
  generalize w2.heap.size = B at X2 ⊢
  generalize w1.heap.size + 2 = G at X2
  have e1 : pb = mp := by rw [Hb.out]; rfl
  subst e1
  go_cut [36] (fun s wc => Hid (s = .bool (!pb) ∧ PuR w f a n c i B G vx vc vs ls wc))
  case first =>
    have Go : Hid (∀ wq, Below w3.heap.size w3 wq → PuR w f a n c i B G vx vc vs ls wq) := fun wq q => X2.out.below q
    haveI : Nonempty (BelW w3.heap.size w3) := ⟨⟨w3, Below.refl _ _⟩⟩
    have c0 : ∀ p : BelW w3.heap.size w3, p.w'.cell? ⟨w.heap.size, 0, none⟩ = some (.int .i64 f) := fun p => (Go.out _ p.h).box.cell 0 rfl
    have c1 : ∀ p : BelW w3.heap.size w3, p.w'.cell? ⟨w.heap.size, 1, none⟩ = some (.slice a n c) := fun p => (Go.out _ p.h).box.cell 1 rfl
    have d0 : ∀ p : BelW w3.heap.size w3, p.w'.cell? ⟨w.heap.size + 1, 0, none⟩ = some (.int .i64 i.id) := fun p => (Go.out _ p.h).item.cell 0 rfl
    have d1 : ∀ p : BelW w3.heap.size w3, p.w'.cell? ⟨w.heap.size + 1, 1, none⟩ = some (.int .i64 i.size) := fun p => (Go.out _ p.h).item.cell 1 rfl
    have d2 : ∀ p : BelW w3.heap.size w3, p.w'.cell? ⟨w.heap.size + 1, 2, none⟩ = some (.int .i64 i.tm) := fun p => (Go.out _ p.h).item.cell 2 rfl
    have At : Hid (∀ p : BelW w3.heap.size w3, IzAt p.w' a ls) := fun p => K.out.below (Go.out _ p.h).bel
    clear X2
    cases hv
    · have ep : pb = false := by rw [Hm.out]; rfl
      subst ep
      go_wp2_with fail
      refine region_below w3.heap.size (by kernel_rfl) (by kernel_rfl) ?_
      repeat (go_big_quiet_step ((first | (go_at_call 174; refine quiet_below (Nat.le_refl _) (A6'.out _)) | (go_at_call 203; refine quiet_below (Nat.le_refl _) (A3'.out _)) | (go_at_call 204; refine quiet_below (Nat.le_refl _) (A4'.out _ (At.out _))) | (go_at_call 205; refine quiet_below (Nat.le_refl _) (A5'.out _ (At.out _))))))
      refine wpQuiet_nil ?_
      intro wq hx
      have GQ : Hid (PuR w f a n c i B G vx vc vs ls wq) := Go.out _ (BelW.out hx)
      clear hx
      go_wp2_with fail
      go_meet
      exact ⟨rfl, GQ.out⟩
    have eb : pb = (iok && (!has && !decide (cnt = f))) := by rw [Hm.out]; rfl
    cases iok
    · have ep : pb = false := by rw [eb]; rfl
      subst ep
      clear eb
      go_wp2_with fail
      refine region_below w3.heap.size (by kernel_rfl) (by kernel_rfl) ?_
      repeat (go_big_quiet_step ((first | (go_at_call 174; refine quiet_below (Nat.le_refl _) (A6'.out _)) | (go_at_call 203; refine quiet_below (Nat.le_refl _) (A3'.out _)) | (go_at_call 204; refine quiet_below (Nat.le_refl _) (A4'.out _ (At.out _))) | (go_at_call 205; refine quiet_below (Nat.le_refl _) (A5'.out _ (At.out _))))))
      refine wpQuiet_nil ?_
      intro wq hx
      have GQ : Hid (PuR w f a n c i B G vx vc vs ls wq) := Go.out _ (BelW.out hx)
      clear hx
      go_wp2_with fail
      go_meet
      exact ⟨rfl, GQ.out⟩
    cases has
    case true =>
      have ep : pb = false := by rw [eb]; rfl
      subst ep
      clear eb
      go_wp2_with fail
      refine region_below w3.heap.size (by kernel_rfl) (by kernel_rfl) ?_
      repeat (go_big_quiet_step ((first | (go_at_call 174; refine quiet_below (Nat.le_refl _) (A6'.out _)) | (go_at_call 203; refine quiet_below (Nat.le_refl _) (A3'.out _)) | (go_at_call 204; refine quiet_below (Nat.le_refl _) (A4'.out _ (At.out _))) | (go_at_call 205; refine quiet_below (Nat.le_refl _) (A5'.out _ (At.out _))))))
      refine wpQuiet_nil ?_
      intro wq hx
      have GQ : Hid (PuR w f a n c i B G vx vc vs ls wq) := Go.out _ (BelW.out hx)
      clear hx
      go_wp2_with fail
      go_meet
      exact ⟨rfl, GQ.out⟩
    by_cases h2 : cnt = f
    · have ep : pb = false := by rw [eb, decide_eq_true h2]; rfl
      subst ep
      have h2 := h2.symm
      subst h2
      clear eb
      go_wp2_with fail
      refine region_below w3.heap.size (by kernel_rfl) (by kernel_rfl) ?_
      repeat (go_big_quiet_step ((first | (go_at_call 174; refine quiet_below (Nat.le_refl _) (A6'.out _)) | (go_at_call 203; refine quiet_below (Nat.le_refl _) (A3'.out _)) | (go_at_call 204; refine quiet_below (Nat.le_refl _) (A4'.out _ (At.out _))) | (go_at_call 205; refine quiet_below (Nat.le_refl _) (A5'.out _ (At.out _))))))
      refine wpQuiet_nil ?_
      intro wq hx
      have GQ : Hid (PuR w f a n c i B G vx vc vs ls wq) := Go.out _ (BelW.out hx)
      clear hx
      go_wp2_with fail
      go_meet
      exact ⟨rfl, GQ.out⟩
    · have ep : pb = true := by rw [eb, decide_eq_false h2]; rfl
      subst ep
      have h2' : (cnt == f) = false := by simpa using h2
      clear eb
      go_wp2_with fail
      refine region_below w3.heap.size (by kernel_rfl) (by kernel_rfl) ?_
      repeat (go_big_quiet_step ((first | (go_at_call 174; refine quiet_below (Nat.le_refl _) (A6'.out _)) | (go_at_call 203; refine quiet_below (Nat.le_refl _) (A3'.out _)) | (go_at_call 204; refine quiet_below (Nat.le_refl _) (A4'.out _ (At.out _))) | (go_at_call 205; refine quiet_below (Nat.le_refl _) (A5'.out _ (At.out _))))))
      refine wpQuiet_nil ?_
      intro wq hx
      have GQ : Hid (PuR w f a n c i B G vx vc vs ls wq) := Go.out _ (BelW.out hx)
      clear hx
      go_wp2_with fail
      go_meet
      exact ⟨rfl, GQ.out⟩
  case rest =>
  obtain ⟨rfl, hP⟩ := hcut.out
  have X3 : Hid (PuR w f a n c i B G vx vc vs ls wc) := hP
  clear hcut hP X2 A3' A4' A5' A6'
  cases pb
  · have e2 : pr = ⟨f, ls⟩ := by rw [Hp.out]; rfl
    subst e2
    go_wp2_with (first | (refine wpList_load_row rfl 44 (.tmp 8) rfl B rfl _ _ _ _ X3.out.out Tryz.underlying44 rfl (by kernel_rfl) ?_) | (refine wpList_store_row rfl 44 (.tmp 6) (.tmp 37) rfl (w.heap.size + 1 + 1) _ rfl rfl _ _ X3.out.res (by kernel_rfl) rfl (by simp [Value.oneCell']) ?_))
    refine bodyPost_ret (results_row_tmp Tryz.results136 _ _ (w.heap.size + 1 + 1) _ #[.int .i64 f, .slice vx n vc] _ _ (.bool false) rfl rfl (setRow_heap wc (w.heap.size + 1 + 1) _ _ _ _ X3.out.res) Tryz.underlying44 rfl (by kernel_rfl)) rfl ⟨⟨_, rfl, (X3.out.done Hn.out).1⟩, (X3.out.done Hn.out).2⟩
  have hm := Hm.out
  have hrow : 0 ≤ row ∧ row < (n : Int) := by
    have h1 := hm.symm
    rw [← Hh.out] at h1
    simp only [Bool.and_eq_true, decide_eq_true_eq] at h1
    exact h1.1
  obtain ⟨j, rfl⟩ := Int.eq_ofNat_of_zero_le hrow.1
  have hjn : j < n := by omega
  have hjl : j < ls.length := by rw [Hn.out]; exact hjn
  have e2 : pr = ⟨f, ls.set j (izAt ls j ++ [i])⟩ := by rw [Hp.out]; simp
  subst e2
  clear hm Hm Hp Hb hrow Hh
  obtain ⟨g, eg⟩ : ∃ g, vx = some ⟨g, 0, none⟩ := by
    rcases X3.out.g.outer.2 with ⟨e, e0⟩ | ⟨g, cap, cur, e, _⟩
    · rw [Hn.out] at e0; omega
    · cases e; exact ⟨g, rfl⟩
  subst eg
  have hin := Hin.out j hjn
  have hg1 := World.ownsRow.lt X3.out.g.outer g rfl
  have hlo := X3.out.lo
  have hhi := X3.out.hi
  have hBs := X3.out.out.under
  obtain ⟨w3, hw3⟩ : ∃ w3, w3 = wc := ⟨_, rfl⟩
  subst hw3
  have hout : w3.ownsRow G 111 1 (.slice (some ⟨g, 0, none⟩) n vc) n vs := by
    have h1 := X3.out.g.outer
    rw [Hn.out] at h1
    exact h1
  have hcell : w3.cell? ⟨g, j, none⟩ = some (izV vs j) := by
    have hl := X3.out.g.len
    rw [hout.cellAt j (by omega)]
    unfold izV
    rw [List.getElem?_eq_getElem (by omega)]
    rfl
  have hice := hout.frozenAt j
  have hgB : g ≠ B := by
    intro e
    subst e
    have h1 := X3.out.out
    rcases X3.out.g.outer.2 with ⟨e, _⟩ | ⟨g', cap, cur, e, _, hg', _⟩
    · cases e
    · cases e
      unfold Boxed at h1
      rw [h1] at hg'
      simp only [Option.some.injEq, Obj.cells.injEq] at hg'
      exact absurd hg'.2.1 (by decide)
  have Set : Hid (∀ u w2, ItRow w3.heap.size w2 u (izAt ls j ++ [i]) → Below w3.heap.size w3 w2 → PuR w f a n c i B G (some ⟨g, 0, none⟩) vc (vs.set j u) (ls.set j (izAt ls j ++ [i])) (w2.setCell ⟨g, j, none⟩ u)) := fun u w2 q1 q2 => by
    have oth : ∀ y, y ≠ g → y < w3.heap.size → (w2.setCell ⟨g, j, none⟩ u).heap[y]? = w3.heap[y]? := fun y hy hl => (Below.heap_setCell _ _ _ _ hy).trans (q2.block y hl)
    have bel : Below w.heap.size w (w2.setCell ⟨g, j, none⟩ u) := (X3.out.bel.trans (q2.mono (by omega))).setCell (by show w.heap.size ≤ g; omega) _
    refine ⟨(oth _ (by omega) (by omega)).trans X3.out.box, (oth _ (by omega) (by omega)).trans X3.out.item, (oth _ (by omega) (by omega)).trans X3.out.res, (oth _ (fun e => hgB e.symm) hBs).trans X3.out.out, ?_, bel, hlo, hhi⟩
    exact X3.out.g.set hjl (q1.mono (by omega)) (fun k _ hk => q2.block k hk) (fun k hk => .inr (q1.lt k hk).1) (g := g) (cap := vc) (by rw [Hn.out])
  have K3 : IzAt w3 a ls := K.out.below X3.out.bel
  obtain ⟨b, off, ak, ck, ha, hb, hc, hr, hcap, hnil⟩ := K3 j hjl
  subst ha
  have hgl : g < w3.heap.size := hg1.2
  have HL := fun wx h => implWithLast ak ck (izAt ls j) i wx hin hcap hnil h
  obtain ⟨l, hl⟩ : ∃ l, izAt ls j = l := ⟨_, rfl⟩
  rw [hl] at Set hc hr HL
  have Hl : Hid (izAt ls j = l) := hl
  have Hr : Hid (ItsAt w3 ak l) := hr
  obtain ⟨m, hml⟩ : ∃ m, l.length = m := ⟨_, rfl⟩
  rw [hml] at hc HL
  have Hml : Hid (l.length = m) := hml
  simp only [It.val] at HL
  have HL' : Hid _ := HL
  have hcl : w3.cell? ⟨B, 1, none⟩ = some (.slice (some ⟨g, 0, none⟩) n vc) := X3.out.out.cell 1 rfl
  have s1 : w3.cell? ⟨w.heap.size, 1, none⟩ = some (.slice (some ⟨b, off, none⟩) n c) := X3.out.box.cell 1 rfl
  have i0 : w3.cell? ⟨w.heap.size + 1, 0, none⟩ = some (.int .i64 i.id) := X3.out.item.cell 0 rfl
  have i1 : w3.cell? ⟨w.heap.size + 1, 1, none⟩ = some (.int .i64 i.size) := X3.out.item.cell 1 rfl
  have i2 : w3.cell? ⟨w.heap.size + 1, 2, none⟩ = some (.int .i64 i.tm) := X3.out.item.cell 2 rfl
  have hsl : w.heap.size < w3.heap.size := by omega
  have Hcell : Hid _ := hcell
  clear hl hr hnil hcap hg1 hlo hhi hml hout HL hin hcell K3
  have hjn' : (j : Int) < (n : Int) := by omega
  go_wp2_with fail
  go_cut [] (fun wz => Hid (∃ u, PuR w f (some ⟨b, off, none⟩) n c i B G (some ⟨g, 0, none⟩) vc (vs.set j u) (ls.set j (l ++ [i])) wz))
  case first =>
    go_region_law (refine stepCall rfl 206 rfl #[.slice ak m ck, .agg #[.int .i64 i.id, .int .i64 i.size, .int .i64 i.tm]] (by kernel_rfl) (HL'.out w3.drew (Hr.out.drew)) ?_; rintro e w2 ⟨⟨u, rfl, q1⟩, q2⟩; refine ⟨_, rfl, ?_⟩; obtain ⟨uy, ud, eu⟩ := q1.shape; rw [List.length_append, Hml.out] at eu; subst eu; have q6 : Below w3.heap.size w3 w2 := (Below.refl _ w3).drew.trans q2; have R : Hid _ := Set.out _ w2 q1 q6; have f1 : ∃ y, w2.cell? ⟨g, j, none⟩ = some y := ⟨_, by rw [q6.cell (p := ⟨g, j, none⟩) hgl]; exact Hcell.out⟩; obtain ⟨y1, f1⟩ := f1; have f2 : w2.cell? ⟨B, 1, none⟩ = some (.slice (some ⟨g, 0, none⟩) n vc) := (by rw [q6.cell (p := ⟨B, 1, none⟩) hBs]; exact hcl); have f3 : w2.frozen? ⟨g, j, none⟩ = false := (by rw [ice_kept (q6.block g hgl)]; exact hice); have l2 : B < w2.heap.size := Nat.lt_of_lt_of_le hBs q6.size; have l3 : g < w2.heap.size := Nat.lt_of_lt_of_le hgl q6.size; clear q1 q2 q6)
    all_goals (go_wp2_with fail; go_meet; exact ⟨_, R.out⟩)
  case rest =>
  obtain ⟨u, hP⟩ := hcut.out
  have X4 : Hid (PuR w f (some ⟨b, off, none⟩) n c i B G (some ⟨g, 0, none⟩) vc (vs.set j u) (ls.set j (l ++ [i])) wc) := hP
  have hln : (ls.set j (l ++ [i])).length = n := by rw [List.length_set]; exact Hn.out
  have D := X4.out.done hln
  clear hcut hP Hcell hcl i0 i1 i2 s1 hc hice X3 Set
  go_wp2_with (first | (refine wpList_load_row rfl 44 (.tmp 8) rfl B rfl _ _ _ _ X4.out.out Tryz.underlying44 rfl (by kernel_rfl) ?_) | (refine wpList_store_row rfl 44 (.tmp 6) (.tmp 49) rfl (w.heap.size + 1 + 1) _ rfl rfl _ _ X4.out.res (by kernel_rfl) rfl (by simp [Value.oneCell']) ?_))
  refine bodyPost_ret (results_row_tmp Tryz.results136 _ _ (w.heap.size + 1 + 1) _ #[.int .i64 f, .slice (some ⟨g, 0, none⟩) n vc] _ _ (.bool true) rfl rfl (setRow_heap wc (w.heap.size + 1 + 1) _ _ _ _ X4.out.res) Tryz.underlying44 rfl (by kernel_rfl)) rfl ⟨⟨_, rfl, by rw [Hl.out]; exact D.1⟩, D.2⟩
end Go.Proofs.YtgebghkcikmfaaaGreatDoor
