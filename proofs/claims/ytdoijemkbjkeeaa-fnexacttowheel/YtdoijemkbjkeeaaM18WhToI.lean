import Derived.Test.YtdoijemkbjkeeaaWhToP
import Derived.Test.YtdoijemkbjkeeaaDuSortI
import Derived.Test.YtdoijemkbjkeeaaM17WhOkI
import Derived.Test.YtdoijemkbjkeeaaSlOps
import Derived.BigQuiet
import Derived.Deep.DeepCutAuto
import Derived.Laws.ResultCell
/-
  A heap's dues, in order, laid into a wheel one behind another. By the verifier.
-/
namespace Go.Proofs.Ytdoijemkbjkeeaa
open Go.RowKit

theorem sorted_heap {l : List Du} (h : Sorted l) : HpO l := fun j h0 hj => h _ _ (by omega) hj
theorem sorted_hok {l l' : List Du} (hk : hok l = true) (hp : l'.Perm l) (hs : Sorted l') : hok l' = true := by
  obtain ⟨h1, h2, h3, -⟩ := hok_is.1 hk
  exact hok_is.2 ⟨by rw [hp.length_eq]; exact h1, fun x hx => h2 x (hp.subset hx), hp.nodup_iff.2 h3, sorted_heap hs⟩
theorem toWs_sorted {step : Int} {l l' : List Du} (hs : 1 ≤ step ∧ step ≤ 1000) (hk : hok l = true) (hp : l'.Perm l) (hsr : Sorted l') : toWs step l' = toWs step l := by
  have a := toWs_is hs (sorted_hok hk hp hsr) l'.length (Nat.le_refl _)
  have b := toWs_is hs hk l.length (Nat.le_refl _)
  rw [List.take_length] at a b
  have e1 := (Wh.ok_is.1 a.1).2.1
  have e2 := (Wh.ok_is.1 b.1).2.1
  rw [a.2.2] at e1
  rw [b.2.2] at e2
  have e := e1.one e2 (a.2.1.trans (hp.trans b.2.1.symm))
  have q : ∀ r1 r2 : Wh, r1.step = r2.step → r1.slots = r2.slots → r1 = r2 := by rintro ⟨s, ls⟩ ⟨s2, ls2⟩ rfl rfl; rfl
  exact q _ _ (a.2.2.trans b.2.2.symm) e
/-- The next one, in order, goes behind its slot's list. -/
theorem toWs_behind {step : Int} {l : List Du} (hs : 1 ≤ step ∧ step ≤ 1000) (hk : hok l = true) (hsr : Sorted l) {k : Nat} (h : k < l.length) : (toWs step (l.take (k + 1))).slots = (toWs step (l.take k)).slots.set (slot step (duAt l k)).toNat (dzAt (toWs step (l.take k)).slots (slot step (duAt l k)).toNat ++ [duAt l k]) := by
  obtain ⟨g1, g2, g3⟩ := toWs_is hs hk k (by omega)
  rw [toWs_next h]
  unfold Wh.into
  rw [g3]
  show List.set _ _ (ins _ _) = _
  have e8 : (toWs step (l.take k)).slots.length = 8 := (Wh.ok_is.1 g1).2.1.len
  have hj := slot_in step (duAt l k)
  generalize hL : dzAt (toWs step (l.take k)).slots (slot step (duAt l k)).toNat = L
  have hall : ∀ x ∈ L, x.lt (duAt l k) := fun x hx => by
    have hm : x ∈ (toWs step (l.take k)).slots.flatten := mem_flat.2 ⟨(slot step (duAt l k)).toNat, by omega, by rw [hL]; exact hx⟩
    have hm := g2.subset hm
    obtain ⟨i, hi, e⟩ := List.mem_iff_getElem.1 hm
    rw [List.length_take] at hi
    rw [List.getElem_take] at e
    have hil : i < l.length := by omega
    have h1 := hsr i k (by omega) h
    rw [duAt_lt hil, e] at h1
    apply Classical.byContradiction
    intro n
    have e2 := Du.eq_of n h1
    have hnd := (hok_is.1 hk).2.2.1
    rw [duAt_lt h, ← e] at e2
    have := (List.getElem_inj hnd).1 e2
    omega
  have ha : ahead L (duAt l k) = L.length := ahead_eq (Nat.le_refl _) (fun j hj => hall _ (by rw [duAt_lt hj]; exact List.getElem_mem hj)) (fun q => absurd q (Nat.lt_irrefl _))
  unfold ins
  rw [ha]
  simp
end Go.Proofs.Ytdoijemkbjkeeaa

/-
  The walks of the program's orderlyOf and HeapOk. By the verifier.
-/
namespace Go.Proofs.Ytdoijemkbjkeeaa
open Go.RowKit Go.Shelf

theorem sorted_rise {l : List Du} (h : Sorted l) : riseK l l.length = true ↔ l.Nodup := by
  rw [riseK_is]
  constructor
  · intro q
    exact (rise_adj q).nodup
  · intro q k k0 hk
    have h1 := h (k - 1) k (by omega) hk
    apply Classical.byContradiction
    intro n
    have e := Du.eq_of n h1
    rw [duAt_lt hk, duAt_lt (by omega : k - 1 < l.length)] at e
    have := (List.getElem_inj q).1 e
    omega
theorem hok_prog {l l' : List Du} (hp : l'.Perm l) (hs : Sorted l') : hok l = (decide ((l.length : Int) ≤ 60) && (l.all Du.ok && (heapK l l.length && riseK l' l'.length))) := by
  rw [Bool.eq_iff_iff, hok_is]
  simp only [Bool.and_eq_true, decide_eq_true_eq, List.all_eq_true, heapK_is, sorted_rise hs, hp.nodup_iff]
  constructor
  · rintro ⟨h1, h2, h3, h4⟩
    exact ⟨by omega, h2, h4, h3⟩
  · rintro ⟨h1, h2, h3, h4⟩
    exact ⟨by omega, h2, h4, h3⟩

set_option maxHeartbeats 1600000 in
theorem implOrderly (a : Option Addr) (cap : Nat) (l : List Du) (w : World) (hT : l.length ≤ 1048576) (h : Hid (DusAt w a l)) :
    Calls Try.prog 45 #[.slice a l.length cap] w fun e w' => ∃ g l', e = .returned (.slice (some ⟨g, 0, none⟩) l'.length l'.length) ∧ l'.Perm l ∧ Sorted l' ∧ DuRow w.heap.size w' (.slice (some ⟨g, 0, none⟩) l'.length l'.length) l' ∧ Below w.heap.size w w' := by
  have C := fun (_ : Nat) => implCopyDu a cap l w hT h
  have S := fun g w2 hr => implSort g l.length l w.heap.size w2 hT hr
  obtain ⟨n, hn⟩ : ∃ n, l.length = n := ⟨_, rfl⟩
  rw [hn] at C S ⊢
  have Hn : Hid (l.length = n) := hn
  have C' : Hid _ := C
  have S' : Hid _ := S
  clear C S h hn hT
  go_enter Try.func45, Try.ntmps45
  go_wp2_with fail
  refine (C'.out 0).mono ?_
  rintro e w1 ⟨g, rfl, q1, q2⟩
  have X : Hid (DuRow w.heap.size w1 (.slice (some ⟨g, 0, none⟩) n n) l ∧ Below w.heap.size w w1) := ⟨q1, q2⟩
  clear q1 q2 C'
  go_wp2_with fail
  refine (S'.out g _ X.out.1).mono ?_
  rintro e w2 ⟨rfl, l', p1, p2, p3, p4, p5⟩
  have Y : Hid (l'.Perm l ∧ Sorted l' ∧ DuRow w.heap.size w2 (.slice (some ⟨g, 0, none⟩) l'.length l'.length) l' ∧ Below w.heap.size w w2) := by
    have e : l'.length = n := by rw [p1.length_eq]; exact Hn.out
    refine ⟨p1, p2, ?_, X.out.2.trans (p4.mono (World.ownsRow.lt X.out.1 g rfl).1)⟩
    rw [e] at p3 ⊢
    exact p3
  have e : Hid (n = l'.length) := by show n = l'.length; rw [p1.length_eq]; exact Hn.out.symm
  clear p1 p2 p3 p4 p5 S' X
  go_wp2
  go_ret
  exact ⟨g, l', by rw [← e.out]; rfl, Y.out⟩

set_option maxHeartbeats 1600000 in
theorem implHeapOk (l : List Du) (a : Option Addr) (cap : Nat) (w : World) (hT : l.length ≤ 1048576) (h : Hid (DusAt w a l)) :
    Calls Try.prog 43 #[.slice a l.length cap] w fun e w' => e = .returned (.bool (hok l)) ∧ Below w.heap.size w w' := by
  have A1 := fun (w : World) (hh : DusAt w a l) => implEachDu a cap l w hT hh
  have A2 := fun (w : World) (hh : DusAt w a l) => implIsHeap a cap l w hT hh
  have A3 := fun (w : World) (hh : DusAt w a l) => implOrderly a cap l w hT hh
  have A4 := fun (a' : Option Addr) (c' : Nat) (l' : List Du) (w : World) (hp : l'.Perm l) (hh : DusAt w a' l') => implRises a' c' l' w (by rw [hp.length_eq]; exact hT) hh
  have HP : Hid (∀ l' : List Du, l'.Perm l → Sorted l' → hok l = (decide ((l.length : Int) ≤ 60) && (l.all Du.ok && (heapK l l.length && riseK l' l'.length)))) := fun l' hp hs => hok_prog hp hs
  have HN : Hid ((decide ((l.length : Int) ≤ 60) && (l.all Du.ok && heapK l l.length)) = false → hok l = false) := fun q => by
    cases e : hok l with
    | false => rfl
    | true =>
      obtain ⟨h1, h2, h3, h4⟩ := hok_is.1 e
      have q1 : decide ((l.length : Int) ≤ 60) = true := decide_eq_true (by omega)
      have q2 : l.all Du.ok = true := List.all_eq_true.2 h2
      have q3 : heapK l l.length = true := (heapK_is l).2 h4
      rw [q1, q2, q3] at q
      cases q
  have HI : Hid (∀ w', Below w.heap.size w w' → DusAt w' a l) := fun w' g => h.out.below g
  generalize hok l = R at HP HN ⊢
  generalize l.all Du.ok = b1 at A1 HP HN
  generalize heapK l l.length = b2 at A2 HP HN
  generalize l.length = n at A1 A2 A3 HP HN ⊢
  have A1' : Hid _ := A1
  have A2' : Hid _ := A2
  have A3' : Hid _ := A3
  have A4' : Hid _ := A4
  clear A1 A2 A3 A4 h hT
  by_cases hn : (n : Int) ≤ 60
  · have hd : decide ((n : Int) ≤ 60) = true := decide_eq_true hn
    go_enter Try.func43, Try.ntmps43
    go_wp2_with fail
    refine (A1'.out _ (HI.out _ (Below.refl _ _))).mono ?_
    rintro e w1 ⟨rfl, q1⟩
    have B1 : Hid (Below w.heap.size w w1) := q1
    clear q1
    cases b1
    · have e := HN.out (by rw [hd]; rfl)
      have E : Hid _ := e
      clear e
      go_wp2
      go_ret
      exact ⟨ret_bool E.out.symm, B1.out⟩
    go_wp2_with fail
    refine (A2'.out _ (HI.out _ B1.out)).mono ?_
    rintro e w2 ⟨rfl, q2⟩
    have B2 : Hid (Below w.heap.size w w2) := B1.out.trans (q2.mono B1.out.size)
    clear q2
    cases b2
    · have e := HN.out (by rw [hd]; rfl)
      have E : Hid _ := e
      clear e
      go_wp2
      go_ret
      exact ⟨ret_bool E.out.symm, B2.out⟩
    go_wp2_with fail
    refine (A3'.out _ (HI.out _ B2.out)).mono ?_
    rintro e w3 ⟨g, l', rfl, p1, p2, p3, p4⟩
    have B3 : Hid (Below w.heap.size w w3) := B2.out.trans (p4.mono B2.out.size)
    have C4 := fun (_ : Nat) => A4'.out (some ⟨g, 0, none⟩) l'.length l' w3 p1 p3.at
    have E := HP.out l' p1 p2
    rw [hd] at E
    generalize riseK l' l'.length = z at C4 E
    generalize l'.length = m at C4 ⊢
    have C4' : Hid _ := C4
    have E' : Hid _ := E
    clear p1 p2 p3 p4 C4 E
    go_wp2_with fail
    refine (C4'.out 0).mono ?_
    rintro e w4 ⟨rfl, q4⟩
    have B4 : Hid (Below w.heap.size w w4) := B3.out.trans (q4.mono B3.out.size)
    clear q4
    go_wp2
    go_ret
    exact ⟨ret_bool (by rw [E'.out]; cases z <;> rfl), B4.out⟩
  · have hd : decide ((n : Int) ≤ 60) = false := decide_eq_false hn
    have e := HN.out (by rw [hd]; rfl)
    subst e
    go_enter Try.func43, Try.ntmps43
    go_wp2
    go_ret
    exact ⟨rfl, Below.refl _ _⟩
theorem implHeapOkX (l : List Du) (a : Option Addr) (cap : Nat) (w : World) (hT : l.length ≤ 1048576) (_ : l.length ≤ cap) (_ : a = none → cap = 0) (h : Hid (DusAt w a l)) :
    Calls Try.prog 43 #[.slice a l.length cap] w fun e w' => e = .returned (.bool (hok l)) ∧ Below w.heap.size w w' := implHeapOk l a cap w hT h
end Go.Proofs.Ytdoijemkbjkeeaa

/-
  The walk of the program's ToWheel. By the verifier.
-/
namespace Go.Proofs.Ytdoijemkbjkeeaa
open Go.RowKit Go.Shelf

theorem wvMake8 (wx : World) : (Instr.makeSlice 28 (.int .i64 8) (.int .i64 8)).run Try.prog wx = .ok (.slice (some ⟨wx.heap.size, 0, none⟩) 8 8) (wx.alloc (.cells (madeCells #[.slice none 0 0] 8) 42)) := by
  obtain ⟨i0, hi, hz0, hz1, hz2⟩ := info_parts dzInfo
  have := run_make (P := Try.prog) wx 28 42 i0 (.slice none 0 0) Try.underlying28 hi hz0 .i64 .i64 8 8 (by omega) (by omega) (by rw [hz2]; omega) (by omega)
  rw [hz1] at this
  exact this
theorem wvMadeG (w : World) (base : Nat) (hb : base ≤ w.heap.size) : DzG base (.slice (some ⟨w.heap.size, 0, none⟩) 8 8) (List.replicate 8 (.slice none 0 0)) (List.replicate 8 []) (w.alloc (.cells (madeCells #[.slice none 0 0] 8) 42)) := by
  have e : ∀ i, dzV (List.replicate 8 (.slice none 0 0)) i = .slice none 0 0 := fun i => by
    unfold dzV
    by_cases h : i < 8
    · rw [List.getElem?_replicate_of_lt h]; rfl
    · rw [List.getElem?_eq_none (by simp; omega)]; rfl
  refine ⟨?_, by simp, fun i hi => ?_, fun i j k hi hj hne h1 => ?_⟩
  · have e2 : (madeCells #[Value.slice none 0 0] 8).toList = List.replicate 8 (Value.slice none 0 0) := by kernel_rfl
    have := World.ownsRow_lit (size := 1) (e := 42) w (madeCells #[.slice none 0 0] 8) 8 hb (by unfold maxLen; omega) (by kernel_rfl)
    rw [e2] at this
    rw [List.length_replicate]
    exact this
  · rw [e, dzAt_empty]
    exact World.ownsRow_nil _ base _ 2
  · rw [e] at h1
    cases h1
/-- What lies in the loop: the wheel in its variable, the dues in order, the result's variable. -/
structure ToL (S P : Nat) (step : Int) (g gl : Nat) (vs : List Value) (ls : List (List Du)) (l : List Du) (w0 w : World) : Prop where
  wv : WvV (S + 1) P step g 8 vs ls w
  res : Boxed w S #[.int .i64 0, .slice none 0 0] 30
  row : DuRow S w (.slice (some ⟨gl, 0, none⟩) l.length l.length) l
  far : gl ≠ g ∧ gl ≠ P ∧ ∀ i, i < 8 → (dzV vs i).ownBlock ≠ some gl
  bel : Below S w0 w
theorem ToL.below {S P : Nat} {step : Int} {g gl : Nat} {vs : List Value} {ls : List (List Du)} {l : List Du} {w0 w w' : World} (h : ToL S P step g gl vs ls l w0 w) (q : Below w.heap.size w w') : ToL S P step g gl vs ls l w0 w' := by
  have h1 := h.res.under
  exact ⟨h.wv.below q, h.res.below h.res.under q, h.row.below (fun k hk => (h.row.lt k hk).2) q, h.far, h.bel.trans (q.mono (by omega))⟩
/-- One list of the wheel's put. -/
theorem ToL.put {S P : Nat} {step : Int} {g gl : Nat} {vs : List Value} {ls : List (List Du)} {l : List Du} {w0 w wx : World} (h : ToL S P step g gl vs ls l w0 w) {j : Nat} (hj : j < 8) {u : Value} {m : List Du} (hu : DuRow (S + 1) wx u m) (hs : Below (S + 1) w wx)
    (g2 : ∀ k, (dzV vs j).ownBlock ≠ some k → k < w.heap.size → wx.heap[k]? = w.heap[k]?) (hw : ∀ k, u.ownBlock = some k → (dzV vs j).ownBlock = some k ∨ w.heap.size ≤ k) :
    ToL S P step g gl (vs.set j u) (ls.set j m) l w0 (wx.setCell ⟨g, j, none⟩ u) := by
  have hg := h.wv.lt
  have hb : Below (S + 1) w (wx.setCell ⟨g, j, none⟩ u) := hs.setCell hg.1 u
  have hgl : gl < w.heap.size := (h.row.lt gl rfl).2
  refine ⟨h.wv.put hj hu hs.size g2 hw, h.res.below (Nat.lt_succ_self _) hb, ?_, ⟨h.far.1, h.far.2.1, fun i hi => ?_⟩, h.bel.trans (hb.mono (Nat.le_succ _))⟩
  · exact h.row.carry fun k hk _ => by
      have e : k = gl := by cases hk; rfl
      subst e
      rw [Below.heap_setCell _ _ _ _ h.far.1]
      exact g2 k (h.far.2.2 j hj) hgl
  · have hlen := h.wv.mem.len
    have h8 := h.wv.eight
    by_cases e : i = j
    · subst e
      have e2 : dzV (vs.set i u) i = u := by unfold dzV; rw [List.getElem?_set_self (by omega)]; rfl
      rw [e2]
      intro q
      rcases hw gl q with q | q
      · exact h.far.2.2 i hi q
      · omega
    · have e2 : dzV (vs.set j u) i = dzV vs i := by unfold dzV; rw [List.getElem?_set_ne (fun q => e q.symm)]
      rw [e2]
      exact h.far.2.2 i hi
theorem ToL.done {S P : Nat} {step : Int} {g gl : Nat} {vs : List Value} {ls : List (List Du)} {l : List Du} {w0 w : World} (h : ToL S P step g gl vs ls l w0 w) : WhIn S (w.setRow S #[.int .i64 step, .slice (some ⟨g, 0, none⟩) 8 8]).heap.size (w.setRow S #[.int .i64 step, .slice (some ⟨g, 0, none⟩) 8 8]) (.agg #[.int .i64 step, .slice (some ⟨g, 0, none⟩) 8 8]) ⟨step, ls⟩ := by
  have hg : DzG (S + 1) (.slice (some ⟨g, 0, none⟩) 8 8) vs ls (w.setRow S #[.int .i64 step, .slice (some ⟨g, 0, none⟩) 8 8]) := h.wv.mem.other fun k hk _ => setRow_other _ _ _ _ (by omega)
  have e : (.agg #[.int .i64 step, .slice (some ⟨g, 0, none⟩) 8 8] : Value) = (⟨step, ls⟩ : Wh).val (some ⟨g, 0, none⟩) 8 := by unfold Wh.val; simp [h.wv.eight]
  have hd := hg.done
  have q : WhIn (S + 1) (w.setRow S #[.int .i64 step, .slice (some ⟨g, 0, none⟩) 8 8]).heap.size (w.setRow S #[.int .i64 step, .slice (some ⟨g, 0, none⟩) 8 8]) (.agg #[.int .i64 step, .slice (some ⟨g, 0, none⟩) 8 8]) ⟨step, ls⟩ := ⟨some ⟨g, 0, none⟩, 8, e, vs, by show DzV _ _ _ (.slice _ ls.length _) _ _; rw [h.wv.eight]; exact hd⟩
  exact q.wide (by omega) (Nat.le_refl _) (Nat.le_refl _)
end Go.Proofs.Ytdoijemkbjkeeaa
