import Derived.Test.YtkocbfikcjgigaaGreatM5WhFn
import Derived.Test.YtkocbfikcjgigaaGreatWhInto
import Derived.Test.YtkocbfikcjgigaaGreatWhPu
import Derived.Test.YtkocbfikcjgigaaGreatM1DuFn
import Derived.Test.YtkocbfikcjgigaaGreatQuiet
import Derived.Test.YtkocbfikcjgigaaGreatBoxed
import Derived.BigQuiet
import Derived.WalkKit
import Derived.WalkSpells
import Derived.WalkLawsBesides
import Derived.RegionTactic
/-
  A heap turned into a wheel, as plain functions. By the verifier.
-/
namespace Go.Proofs.YtkocbfikcjgigaaGreat
open Go.RowKit

def toWs (step : Int) (l : List Du) : Wh := l.foldl Wh.into ⟨step, List.replicate 8 []⟩
def toWB (l : List Du) (step : Int) : Bool := hok l && inB 1 1000 step
def toW (l : List Du) (step : Int) : Wh := if toWB l step = true then toWs step l else ⟨0, []⟩
theorem toWs_next {step : Int} {l : List Du} {k : Nat} (h : k < l.length) : toWs step (l.take (k + 1)) = (toWs step (l.take k)).into (duAt l k) := by
  unfold toWs
  rw [List.take_succ_eq_append_getElem h, List.foldl_append, duAt_lt h]
  rfl
theorem toWs_is {step : Int} {l : List Du} (hs : 1 ≤ step ∧ step ≤ 1000) (hk : hok l = true) : ∀ k, k ≤ l.length → (toWs step (l.take k)).ok = true ∧ (toWs step (l.take k)).slots.flatten.Perm (l.take k) ∧ (toWs step (l.take k)).step = step := by
  obtain ⟨h60, hall, hnd, -⟩ := hok_is.1 hk
  intro k
  induction k with
  | zero =>
    intro _
    have e : (List.replicate 8 ([] : List Du)).flatten = [] := rfl
    refine ⟨Wh.ok_is.2 ⟨hs, Slots.empty step, ?_, ?_⟩, ?_, rfl⟩
    · show (List.replicate 8 ([] : List Du)).flatten.length ≤ 60
      rw [e]; simp
    · intro x hx
      have hx : x ∈ (List.replicate 8 ([] : List Du)).flatten := hx
      rw [e] at hx; cases hx
    · show (List.replicate 8 ([] : List Du)).flatten.Perm (l.take 0)
      rw [e]; simp
  | succ k ih =>
    intro hl
    obtain ⟨g1, g2, g3⟩ := ih (by omega)
    have hkl : k < l.length := by omega
    rw [toWs_next hkl]
    have hm : duAt l k ∈ l := by rw [duAt_lt hkl]; exact List.getElem_mem hkl
    have hn : duAt l k ∉ (toWs step (l.take k)).slots.flatten := fun q => nodup_take.1 hnd k hkl (g2.subset q)
    obtain ⟨q1, q2⟩ := Wh.into_ok g1 (hall _ hm) hn (by rw [g2.length_eq, List.length_take]; omega)
    refine ⟨q1, ?_, g3⟩
    rw [List.take_succ_eq_append_getElem hkl, ← duAt_lt hkl]
    exact q2.trans ((g2.cons _).trans (List.perm_append_singleton _ _).symm)
end Go.Proofs.YtkocbfikcjgigaaGreat

/-
  The walk of the model's ToWheel. By the verifier.
-/
namespace Go.Proofs.YtkocbfikcjgigaaGreat
open Go.RowKit

theorem dzMake8 (wx : World) : (Instr.makeSlice 27 (.int .i64 8) (.int .i64 8)).run Tryz.prog wx = .ok (.slice (some ⟨wx.heap.size, 0, none⟩) 8 8) (wx.alloc (.cells (madeCells #[.slice none 0 0] 8) 24)) := by
  obtain ⟨i0, hi, hz0, hz1, hz2⟩ := info_parts dzInfo
  have := run_make (P := Tryz.prog) wx 27 24 i0 (.slice none 0 0) Tryz.underlying27 hi hz0 .i64 .i64 8 8 (by omega) (by omega) (by rw [hz2]; omega) (by omega)
  rw [hz1] at this
  exact this
theorem dzMadeG (w : World) (base : Nat) (hb : base ≤ w.heap.size) : DzG base (.slice (some ⟨w.heap.size, 0, none⟩) 8 8) (List.replicate 8 (.slice none 0 0)) (List.replicate 8 []) (w.alloc (.cells (madeCells #[.slice none 0 0] 8) 24)) := by
  have e : ∀ i, dzV (List.replicate 8 (.slice none 0 0)) i = .slice none 0 0 := fun i => by
    unfold dzV
    by_cases h : i < 8
    · rw [List.getElem?_replicate_of_lt h]; rfl
    · rw [List.getElem?_eq_none (by simp; omega)]; rfl
  refine ⟨?_, by simp, fun i hi => ?_, fun i j k hi hj hne h1 => ?_⟩
  · have e2 : (madeCells #[Value.slice none 0 0] 8).toList = List.replicate 8 (Value.slice none 0 0) := by kernel_rfl
    have := World.ownsRow_lit (size := 1) (e := 24) w (madeCells #[.slice none 0 0] 8) 8 hb (by unfold maxLen; omega) (by kernel_rfl)
    rw [e2] at this
    rw [List.length_replicate]
    exact this
  · rw [e, dzAt_empty]
    exact World.ownsRow_nil _ base _ 2
  · rw [e] at h1
    cases h1
/-- A wheel of the call's own, row by row, from b on. -/
def WhG (b : Nat) (w : World) (v : Value) (r : Wh) : Prop := ∃ a c vs, v = r.val a c ∧ DzG b (.slice a r.slots.length c) vs r.slots w
theorem WhG.in {b : Nat} {w : World} {v : Value} {r : Wh} (h : WhG b w v r) : WhIn b w.heap.size w v r := by
  obtain ⟨a, c, vs, e, h⟩ := h
  exact ⟨a, c, e, vs, h.done⟩
theorem WhV.done {base P : Nat} {f : Int} {g cap : Nat} {vs : List Value} {ls : List (List Du)} {wr : World} {s : Nat} (h : WhV base P f g cap vs ls wr) (hl : ls.length = 8) (hs : s < base) : WhG (s + 1) (wr.setRow s #[.int .i64 f, .slice (some ⟨g, 0, none⟩) 8 cap]) (.agg #[.int .i64 f, .slice (some ⟨g, 0, none⟩) 8 cap]) ⟨f, ls⟩ := by
  refine ⟨some ⟨g, 0, none⟩, cap, vs, by unfold Wh.val; simp [hl], ?_⟩
  have hg : DzG base (.slice (some ⟨g, 0, none⟩) 8 cap) vs ls (wr.setRow s #[.int .i64 f, .slice (some ⟨g, 0, none⟩) 8 cap]) := h.mem.other fun k hk _ => setRow_other _ _ _ _ (by omega)
  show DzG _ (.slice (some ⟨g, 0, none⟩) ls.length cap) vs ls _
  rw [hl]
  refine ⟨⟨hg.outer.1, hg.outer.2.imp id ?_⟩, hg.len, fun i hi => (hg.row i hi).mono (by omega), hg.apart⟩
  rintro ⟨g0, c0, cur0, e1, e2, e3⟩
  exact ⟨g0, c0, cur0, e1, by omega, e3⟩

set_option maxHeartbeats 6400000 in
set_option maxRecDepth 100000 in
theorem specToWheelG (a : Option Addr) (cap : Nat) (l : List Du) (step : Int) (w : World) (hT : l.length ≤ 1048576) (hcap : l.length ≤ cap) (h : Hid (DusAt w a l)) :
    Calls Tryz.prog 13 #[.slice a l.length cap, .int .i64 step] w fun e w' => (∃ v', e = .returned (.tuple #[v', .bool (toWB l step)]) ∧ WhG (w.heap.size + 1) w' v' (toW l step)) ∧ Below w.heap.size w w' := by
  have A1 := fun w h => specHeapOk a cap l w hT hcap h
  have A2 := fun w => specIn step 1 1000 w
  have Hb : Hid (toWB l step = (hok l && inB 1 1000 step)) := rfl
  have Hp : Hid (toW l step = if toWB l step = true then toWs step l else ⟨0, []⟩) := rfl
  have HS : Hid (hok l = true → inB 1 1000 step = true → (1 ≤ step ∧ step ≤ 1000) ∧ ∀ k, k ≤ l.length → (toWs step (l.take k)).ok = true ∧ (toWs step (l.take k)).step = step) := fun g1 g2 => by
    have hs := inB_true.1 g2
    exact ⟨hs, fun k hk => ⟨(toWs_is hs g1 k hk).1, (toWs_is hs g1 k hk).2.2⟩⟩
  have HD : Hid (hok l = true → ∀ k, k < l.length → (duAt l k).ok = true) := fun g1 k hk => (hok_is.1 g1).2.1 _ (by rw [duAt_lt hk]; exact List.getElem_mem hk)
  have HL : Hid (hok l = true → l.length ≤ 60) := fun g => (hok_iff.1 g).1
  generalize toW l step = pr at Hp ⊢
  generalize toWB l step = pb at Hb Hp ⊢
  generalize hok l = ok at A1 Hb HS HD HL
  generalize inB 1 1000 step = sok at A2 Hb HS
  obtain ⟨n, hn⟩ : ∃ n, l.length = n := ⟨_, rfl⟩
  rw [hn] at A1 HS HD HL hT hcap ⊢
  have Hn : Hid (l.length = n) := hn
  have A1' : Hid _ := A1
  have A2' : Hid _ := A2
  clear A1 A2 hn
  have X : Hid (DusAt (w.alloc (.cells #[.int .i64 0, .slice none 0 0] 29)) a l ∧ Boxed (w.alloc (.cells #[.int .i64 0, .slice none 0 0] 29)) w.heap.size #[.int .i64 0, .slice none 0 0] 29 ∧ Below w.heap.size w (w.alloc (.cells #[.int .i64 0, .slice none 0 0] 29))) := ⟨h.out.alloc _, Boxed.new _ _ _, (Below.refl _ _).alloc (Nat.le_refl _) _⟩
  go_enter Tryz.func13, Tryz.ntmps13
  go_wp2_with fail
  refine (A1'.out _ X.out.1).mono ?_
  rintro e w1 ⟨rfl, q⟩
  have X1 : Hid (Boxed w1 w.heap.size #[.int .i64 0, .slice none 0 0] 29 ∧ Below w.heap.size w w1) := ⟨X.out.2.1.below X.out.2.1.under q, X.out.2.2.trans (q.mono X.out.2.2.size)⟩
  clear q X A1'
  cases ok
  · have e1 : pb = false := by rw [Hb.out]; rfl
    subst e1
    have e2 : pr = ⟨0, []⟩ := by rw [Hp.out]; rfl
    subst e2
    go_wp2_with (refine wpList_store_row rfl 29 (.tmp 4) (.tmp 16) rfl w.heap.size #[.int .i64 0, .slice none 0 0] rfl rfl _ _ X1.out.1 (by kernel_rfl) rfl (by simp [Value.oneCell']) ?_)
    refine bodyPost_ret (results_row_tmp Tryz.results13 _ _ w.heap.size _ #[.int .i64 0, .slice none 0 0] _ _ (.bool false) rfl rfl (setRow_heap w1 w.heap.size _ _ _ _ X1.out.1) Tryz.underlying29 rfl (by kernel_rfl)) rfl ⟨⟨_, rfl, none, 0, [], rfl, DzG.nil _ _⟩, below_setRow X1.out.2 (by omega) _⟩
  go_wp2_with fail
  refine (A2'.out _).mono ?_
  rintro e w2 ⟨rfl, hw2⟩
  have hw2' := hw2.symm
  subst hw2'
  clear hw2 A2'
  cases sok
  · have e1 : pb = false := by rw [Hb.out]; rfl
    subst e1
    have e2 : pr = ⟨0, []⟩ := by rw [Hp.out]; rfl
    subst e2
    go_wp2_with (refine wpList_store_row rfl 29 (.tmp 4) (.tmp 16) rfl w.heap.size #[.int .i64 0, .slice none 0 0] rfl rfl _ _ X1.out.1 (by kernel_rfl) rfl (by simp [Value.oneCell']) ?_)
    refine bodyPost_ret (results_row_tmp Tryz.results13 _ _ w.heap.size _ #[.int .i64 0, .slice none 0 0] _ _ (.bool false) rfl rfl (setRow_heap w1 w.heap.size _ _ _ _ X1.out.1) Tryz.underlying29 rfl (by kernel_rfl)) rfl ⟨⟨_, rfl, none, 0, [], rfl, DzG.nil _ _⟩, below_setRow X1.out.2 (by omega) _⟩
  have e1 : pb = true := by rw [Hb.out]; rfl
  subst e1
  have e2 : pr = toWs step l := by rw [Hp.out]; rfl
  subst e2
  obtain ⟨hs, hW⟩ := HS.out (by first | exact trivial | exact rfl) (by first | exact trivial | exact rfl)
  have HWs : Hid (∀ k, k ≤ n → (toWs step (l.take k)).ok = true ∧ (toWs step (l.take k)).step = step) := hW
  have HDs : Hid (∀ k, k < n → (duAt l k).ok = true) := HD.out (by first | exact trivial | exact rfl)
  have hn60 : n ≤ 60 := HL.out (by first | exact trivial | exact rfl)
  clear hW HS HD HL Hb Hp
  have hmk := dzMake8
  have G0 : Hid (WhV (w.heap.size + 1) (w1.heap.size + 1) step w1.heap.size 8 (List.replicate 8 (.slice none 0 0)) (toWs step (l.take 0)).slots ((w1.alloc (.cells (madeCells #[.slice none 0 0] 8) 24)).alloc (.cells #[.int .i64 step, .slice (some ⟨w1.heap.size, 0, none⟩) 8 8] 29))) := by
    have hu := X1.out.1.under
    refine ⟨?_, (dzMadeG w1 (w.heap.size + 1) hu).below ((Below.refl _ _).alloc (Nat.le_refl _) _), by simp; omega⟩
    have := Boxed.new (w1.alloc (.cells (madeCells #[.slice none 0 0] 8) 24)) #[.int .i64 step, .slice (some ⟨w1.heap.size, 0, none⟩) 8 8] 29
    simpa using this
  have G1 : Hid (Boxed ((w1.alloc (.cells (madeCells #[.slice none 0 0] 8) 24)).alloc (.cells #[.int .i64 step, .slice (some ⟨w1.heap.size, 0, none⟩) 8 8] 29)) w.heap.size #[.int .i64 0, .slice none 0 0] 29 ∧ Below w.heap.size w ((w1.alloc (.cells (madeCells #[.slice none 0 0] 8) 24)).alloc (.cells #[.int .i64 step, .slice (some ⟨w1.heap.size, 0, none⟩) 8 8] 29))) := by
    have hz := X1.out.2.size
    exact ⟨(X1.out.1.more _).more _, (X1.out.2.alloc hz _).alloc (by simp; omega) _⟩
  go_upto_region 4 with fail
  generalize (w1.alloc (.cells (madeCells #[.slice none 0 0] 8) 24)).alloc (.cells #[.int .i64 step, .slice (some ⟨w1.heap.size, 0, none⟩) 8 8] 29) = w3 at G0 G1 ⊢
  generalize w1.heap.size = g at G0 ⊢
  clear hmk
  go_wp2_with fail
  go_loopw [7] (fun s wr => ∃ k : Nat, k ≤ n ∧ s = .int .i64 k ∧ Hid (∃ vs, WhV (w.heap.size + 1) (g + 1) step g 8 vs (toWs step (l.take k)).slots wr ∧ Boxed wr w.heap.size #[.int .i64 0, .slice none 0 0] 29 ∧ Below w.heap.size w wr)) (fun s _ => n - (intOf s).toNat)
  case atStart => exact ⟨0, Nat.zero_le _, rfl, _, G0.out, G1.out⟩
  case round =>
    obtain ⟨k, hk, rfl, HE⟩ := hrel
    obtain ⟨vs, HK⟩ : ∃ vs, Hid (WhV (w.heap.size + 1) (g + 1) step g 8 vs (toWs step (l.take k)).slots wr ∧ Boxed wr w.heap.size #[.int .i64 0, .slice none 0 0] 29 ∧ Below w.heap.size w wr) := HE.out
    clear G0 G1 HE
    obtain ⟨wo, rfl⟩ : ∃ wo, wo = wr := ⟨_, rfl⟩
    have hwk := (Wh.ok_iff.1 (HWs.out k hk).1)
    have h8 : (toWs step (l.take k)).slots.length = 8 := hwk.1.2
    by_cases hlt : k < n
    case neg =>
      obtain rfl : k = n := by omega
      have e : l.take k = l := List.take_of_length_le (by rw [Hn.out]; exact Nat.le_refl _)
      have hst := (HWs.out k hk).2
      rw [e] at HK h8 hst
      have Fin : Hid (WhG (w.heap.size + 1) (wo.setRow w.heap.size #[.int .i64 step, .slice (some ⟨g, 0, none⟩) 8 8]) (.agg #[.int .i64 step, .slice (some ⟨g, 0, none⟩) 8 8]) (toWs step l)) := by
        have := HK.out.1.done (s := w.heap.size) h8 (Nat.lt_succ_self _)
        have et : toWs step l = ⟨step, (toWs step l).slots⟩ := by
          have q : ∀ r : Wh, r.step = step → r = ⟨step, r.slots⟩ := by rintro ⟨s, ls⟩ rfl; rfl
          exact q _ hst
        rw [et]
        exact this
      clear hwk e hst
      go_wp2_with (first | (refine wpList_load_row rfl 29 (.tmp 6) rfl (g + 1) rfl _ _ _ _ HK.out.1.box Tryz.underlying29 rfl (by kernel_rfl) ?_) | (refine wpList_store_row rfl 29 (.tmp 4) (.tmp 31) rfl w.heap.size _ rfl rfl _ _ HK.out.2.1 (by kernel_rfl) rfl (by simp [Value.oneCell']) ?_))
      refine bodyPost_ret (results_row_tmp Tryz.results13 _ _ w.heap.size _ #[.int .i64 step, .slice (some ⟨g, 0, none⟩) 8 8] _ _ (.bool true) rfl rfl (setRow_heap wo w.heap.size _ _ _ _ HK.out.2.1) Tryz.underlying29 rfl (by kernel_rfl)) rfl ⟨⟨_, rfl, Fin.out⟩, below_setRow HK.out.2.2 (Nat.le_refl _) _⟩
    have hkl : k < l.length := by rw [Hn.out]; exact hlt
    have hlt' : (k : Int) < (n : Int) := by omega
    obtain ⟨b1, o1, ha1, -, -⟩ := (h.out.below HK.out.2.2) k hkl
    subst ha1
    obtain ⟨c0, c1⟩ := (h.out.below HK.out.2.2).cells hkl
    have h60 : ∀ i, i < 8 → (dzAt (toWs step (l.take k)).slots i).length ≤ 60 := fun i hi => by
      have q := dzSum_one (ls := (toWs step (l.take k)).slots) (i := i) (by omega)
      rw [h8] at q
      have := hwk.2.1
      omega
    have CI := fun hw => specInto (w.heap.size + 1) (g + 1) step g 8 vs (toWs step (l.take k)).slots (duAt l k) wo hs h8 h60 (HDs.out k hlt) hw
    have Nx : Hid (toWs step (l.take (k + 1)) = (toWs step (l.take k)).into (duAt l k)) := toWs_next hkl
    have Nx2 : Hid ((toWs step (l.take (k + 1))).slots = (toWs step (l.take k)).slots.set (slot step (duAt l k)).toNat (ins (dzAt (toWs step (l.take k)).slots (slot step (duAt l k)).toNat) (duAt l k))) := by
      show (toWs step (l.take (k + 1))).slots = _
      rw [Nx.out]
      unfold Wh.into
      rw [(HWs.out k hk).2]
    rw [← Nx2.out] at CI
    unfold Du.val at CI
    have CI' : Hid _ := CI
    clear CI Nx Nx2 h60 hwk
    generalize duAt l k = x at c0 c1 CI'
    go_wp2_with fail
    refine (CI'.out HK.out.1).mono ?_
    rintro e w4 ⟨rfl, vs', hv, q⟩
    have H4 : Hid (∃ vs, WhV (w.heap.size + 1) (g + 1) step g 8 vs (toWs step (l.take (k + 1))).slots w4 ∧ Boxed w4 w.heap.size #[.int .i64 0, .slice none 0 0] 29 ∧ Below w.heap.size w w4) := ⟨vs', hv, HK.out.2.1.below (Nat.lt_succ_self _) q, HK.out.2.2.trans (q.mono (by omega))⟩
    clear hv q HK CI' c0 c1
    go_wp2
    go_roundw
    case rel => exact ⟨k + 1, by omega, by go_num, H4.out⟩
    case measure => simp [intOf]; omega
theorem specToWheel (a : Option Addr) (cap : Nat) (l : List Du) (step : Int) (w : World) (hT : l.length ≤ 1048576) (hcap : l.length ≤ cap) (h : Hid (DusAt w a l)) :
    Calls Tryz.prog 13 #[.slice a l.length cap, .int .i64 step] w fun e w' => (∃ v', e = .returned (.tuple #[v', .bool (toWB l step)]) ∧ WhIn w.heap.size w'.heap.size w' v' (toW l step)) ∧ Below w.heap.size w w' :=
  (specToWheelG a cap l step w hT hcap h).mono fun e w' hh => by
    obtain ⟨⟨v', e1, h1⟩, hb⟩ := hh
    have hw := h1.in
    exact ⟨⟨v', e1, hw.wide (by omega) (Nat.le_refl _) (Nat.le_refl _)⟩, hb⟩
end Go.Proofs.YtkocbfikcjgigaaGreat

/-
  A wheel drained into a heap, in plain words: what comes out is a heap of its dues, and turned back it is the wheel. By the verifier.
-/
namespace Go.Proofs.YtkocbfikcjgigaaGreat
open Go.RowKit

/-- The first ones put into a heap, one by one, at most so many. -/
def drain : Nat → Wh → List Du → List Du
  | 0, _, o => o
  | n + 1, x, o => if x.takeB = true then drain n x.take (hput o x.takeD) else o
def Wh.cnt (r : Wh) : Nat := r.slots.flatten.length
def toH (r : Wh) : List Du := if r.ok = true then drain r.cnt r [] else []
theorem Wh.cnt_take {r : Wh} (h : r.takeB = true) : r.cnt = r.take.cnt + 1 := by
  have := (Wh.take_is h).2.1.length_eq
  unfold Wh.cnt
  rw [← this]
  simp
theorem drain_next {r : Wh} {o : List Du} (h : r.takeB = true) : drain r.cnt r o = drain r.take.cnt r.take (hput o r.takeD) := by
  rw [Wh.cnt_take h, drain, if_pos h]
theorem drain_none {n : Nat} {r : Wh} {o : List Du} (h : r.takeB = false) : drain n r o = o := by
  cases n with
  | zero => rfl
  | succ n => rw [drain, if_neg (by rw [h]; decide)]
theorem drain_is (n : Nat) : ∀ (r : Wh) (o : List Du), r.ok = true → r.cnt = n → HpO o → HpO (drain n r o) ∧ (drain n r o).Perm (o ++ r.slots.flatten) := by
  induction n with
  | zero =>
    intro r o hk hn ho
    have : r.slots.flatten = [] := List.eq_nil_of_length_eq_zero hn
    rw [this, List.append_nil]
    exact ⟨ho, List.Perm.refl _⟩
  | succ n ih =>
    intro r o hk hn ho
    cases hb : r.takeB with
    | false =>
      have := Wh.take_none hk hb
      unfold Wh.cnt at hn
      rw [this] at hn
      simp at hn
    | true =>
      have ht := Wh.take_is hb
      have hc := Wh.cnt_take hb
      rw [drain, if_pos hb]
      obtain ⟨h1, h2⟩ := ih r.take (hput o r.takeD) ht.1 (by omega) (hput_ho ho)
      refine ⟨h1, h2.trans ?_⟩
      refine ((hput_perm o r.takeD).append_right _).trans ?_
      rw [List.cons_append]
      refine List.perm_middle.symm.trans ?_
      exact List.Perm.append_left o ht.2.1
theorem toH_is {r : Wh} (h : r.ok = true) : hok (toH r) = true ∧ (toH r).Perm r.slots.flatten := by
  unfold toH
  rw [if_pos h]
  obtain ⟨h1, h2⟩ := drain_is r.cnt r [] h rfl (fun j _ hj => by simp at hj)
  rw [List.nil_append] at h2
  obtain ⟨-, hs, h60, hall⟩ := Wh.ok_is.1 h
  exact ⟨hok_is.2 ⟨by rw [h2.length_eq]; exact h60, fun x hx => hall x (h2.subset hx), h2.nodup_iff.2 hs.nodup, h1⟩, h2⟩
/-- A heap and a wheel of the same dues tell the same first one, and what is left is the same again. -/
theorem heap_wheel {l : List Du} {r : Wh} (hl : hok l = true) (hr : r.ok = true) (hp : l.Perm r.slots.flatten) :
    mayTake l = r.takeB ∧ takeD l = r.takeD ∧ (r.takeB = true → hok (takeH l) = true ∧ r.take.ok = true ∧ (takeH l).Perm r.take.slots.flatten) := by
  cases hb : r.takeB with
  | false =>
    have h0 := Wh.take_none hr hb
    rw [h0] at hp
    have hl0 : l = [] := hp.eq_nil
    subst hl0
    have hm : mayTake [] = false := by unfold mayTake; simp
    refine ⟨hm, ?_, fun h => by cases h⟩
    unfold takeD Wh.takeD
    rw [hm, hb]
    rfl
  | true =>
    have ht := Wh.take_is hb
    have hl0 : 0 < l.length := by rw [hp.length_eq, ← ht.2.1.length_eq]; simp
    have hm : mayTake l = true := mayTake_iff.2 ⟨hl, hl0⟩
    have hh := htake_hok hm
    have e : duAt l 0 = r.takeD := first_same hp hh.2.2.2.2 (ht.2.1.subset (List.mem_cons_self ..)) hh.2.2.1 ht.2.2.1
    refine ⟨hm, ?_, fun _ => ?_⟩
    · unfold takeD
      rw [if_pos hm, e]
    · unfold takeH
      rw [if_pos hm]
      refine ⟨hh.1, ht.1, ?_⟩
      have h1 : (duAt l 0 :: htake l).Perm (r.takeD :: r.take.slots.flatten) := hh.2.1.trans (hp.trans ht.2.1.symm)
      rw [e] at h1
      exact h1.cons_inv
end Go.Proofs.YtkocbfikcjgigaaGreat

/-
  What comes of a small wheel or heap is small. By the verifier.
-/
namespace Go.Proofs.YtkocbfikcjgigaaGreat
open Go.RowKit

theorem WhIn.cells {b t : Nat} {W : World} {v : Value} {x : Wh} (h : WhIn b t W v x) : ∃ p q, v = .agg #[.int .i64 x.step, .slice p x.slots.length q] := by
  obtain ⟨p, q, e, _⟩ := h
  exact ⟨p, q, e⟩
theorem Wh.ok_big {x : Wh} (h : x.ok = true) : x.big ≤ 1048576 := by
  have h1 := Wh.ok_iff.1 h
  unfold Wh.big
  rw [h1.1.2]
  omega
theorem Wh.zero_big : (⟨0, []⟩ : Wh).big ≤ 1048576 := by simp [Wh.big, dzSum]
theorem Wh.big_take {r : Wh} (h : r.big ≤ 1048576) : r.take.big ≤ 1048576 := by
  cases hb : r.takeB with
  | true => exact Wh.ok_big (Wh.take_is hb).1
  | false =>
    unfold Wh.takeB at hb
    unfold Wh.take
    by_cases hk : r.ok = true
    · rw [hk, Bool.true_and, decide_eq_false_iff_not] at hb
      rw [if_pos hk, if_neg hb]
      exact h
    · rw [if_neg hk]
      exact Wh.zero_big
theorem Wh.big_put {r : Wh} {d : Du} (h : r.big ≤ 1048576) : (r.put d).big ≤ 1048576 := by
  cases hb : r.putB d with
  | true => exact Wh.ok_big (Wh.put_is hb).1
  | false =>
    unfold Wh.putB at hb
    unfold Wh.put
    by_cases hk : r.ok = true
    · rw [hk, Bool.true_and] at hb
      rw [if_pos hk, if_neg (by rw [hb]; decide)]
      exact h
    · rw [if_neg hk]
      exact Wh.zero_big
theorem toW_big (l : List Du) (step : Int) : (toW l step).big ≤ 1048576 := by
  unfold toW
  by_cases hb : toWB l step = true
  · rw [if_pos hb]
    unfold toWB at hb
    rw [Bool.and_eq_true] at hb
    have := (toWs_is (inB_true.1 hb.2) hb.1 l.length (Nat.le_refl _)).1
    rw [List.take_length] at this
    exact Wh.ok_big this
  · rw [if_neg hb]
    exact Wh.zero_big
theorem toH_big {r : Wh} (_h : r.big ≤ 1048576) : (toH r).length ≤ 1048576 := by
  by_cases hk : r.ok = true
  · have := (hok_is.1 (toH_is hk).1).1
    omega
  · unfold toH
    rw [if_neg hk]
    simp
end Go.Proofs.YtkocbfikcjgigaaGreat

/-
  The walks of the laws' comparisons of lists of dues and of wheels that are alike. By the verifier.
-/
namespace Go.Proofs.YtkocbfikcjgigaaGreat
open Go.RowKit

set_option maxHeartbeats 3200000 in
set_option maxRecDepth 100000 in
theorem likeDus (a1 a2 : Option Addr) (cap1 cap2 : Nat) (l : List Du) (w : World) (hT : l.length ≤ 1048576) (h1 : Hid (DusAt w a1 l)) (h2 : Hid (DusAt w a2 l)) :
    Calls Tryz.prog 20 #[.slice a1 l.length cap1, .slice a2 l.length cap2] w fun e w' => e = .returned (.bool true) ∧ Below w.heap.size w w' := by
  obtain ⟨len, hlen⟩ : ∃ n, l.length = n := ⟨_, rfl⟩
  rw [hlen] at hT ⊢
  have Hlen : Hid (l.length = len) := hlen
  clear hlen
  go_enter Tryz.func20, Tryz.ntmps20
  go_wp2
  go_loopw [5] (fun i wr => ∃ k : Nat, k ≤ len ∧ i = .int .i64 k ∧ Hid (Below w.heap.size w wr)) (fun i _ => len - (intOf i).toNat)
  case atStart => exact ⟨0, Nat.zero_le _, rfl, Below.refl _ _⟩
  case round =>
    obtain ⟨k, hk, rfl, Hb⟩ := hrel
    by_cases hlt : k < len
    · have hkl : k < l.length := by rw [Hlen.out]; exact hlt
      have R1 := (h1.out.below Hb.out).drew
      have R2 := (h2.out.below Hb.out).drew
      obtain ⟨b1, o1, ha1, -⟩ := R1 k hkl
      obtain ⟨b2, o2, ha2, -⟩ := R2 k hkl
      subst ha1
      subst ha2
      obtain ⟨c0, c1⟩ := R1.cells hkl
      obtain ⟨d0, d1⟩ := R2.cells hkl
      clear R1 R2
      generalize duAt l k = x at c0 c1 d0 d1
      obtain ⟨x0, x1⟩ := x
      simp only [] at c0 c1 d0 d1
      have hlt' : (k : Int) < (len : Int) := by omega
      have B2 : Hid (Below w.heap.size w wr.drew) := Hb.out.drew
      go_wp2
      go_region
      all_goals
        go_wp2
        go_roundw
        case rel => exact ⟨k + 1, by omega, by go_num, B2⟩
        case measure => simp [intOf]; omega
    · obtain rfl : k = len := by omega
      go_wp2
      go_ret
      exact ⟨rfl, Hb.out⟩

end Go.Proofs.YtkocbfikcjgigaaGreat

/-
  The walks of the laws' comparisons of lists of dues and of wheels that are alike. By the verifier.
-/
namespace Go.Proofs.YtkocbfikcjgigaaGreat
open Go.RowKit

set_option maxHeartbeats 3200000 in
set_option maxRecDepth 100000 in
theorem likeWhs (v1 v2 : Value) (r : Wh) (w : World) (hB : r.big ≤ 1048576) (h1 : Hid (WhAt w v1 r)) (h2 : Hid (WhAt w v2 r)) :
    Calls Tryz.prog 14 #[v1, v2] w fun e w' => e = .returned (.bool true) ∧ Below w.heap.size w w' := by
  obtain ⟨a1, c1, rfl, k1⟩ := h1.out
  obtain ⟨a2, c2, rfl, k2⟩ := h2.out
  obtain ⟨hT, -, hin⟩ := Wh.small hB
  have Hin : Hid (∀ k, k < r.slots.length → (dzAt r.slots k).length ≤ 1048576) := hin
  obtain ⟨f, ls⟩ := r
  simp only [Wh.val] at k1 k2 hT Hin ⊢
  obtain ⟨len, hlen⟩ : ∃ n, ls.length = n := ⟨_, rfl⟩
  rw [hlen] at hT Hin ⊢
  have Hlen : Hid (ls.length = len) := hlen
  obtain ⟨W, hW⟩ : ∃ W, W = (w.alloc (.cells #[.int .i64 f, .slice a1 len c1] 29)).alloc (.cells #[.int .i64 f, .slice a2 len c2] 29) := ⟨_, rfl⟩
  have X : Hid (DzAt W a1 ls ∧ DzAt W a2 ls ∧ Boxed W w.heap.size #[.int .i64 f, .slice a1 len c1] 29 ∧ Boxed W (w.heap.size + 1) #[.int .i64 f, .slice a2 len c2] 29 ∧ Below w.heap.size w W) := by
    rw [hW]
    refine ⟨(k1.alloc _).alloc _, (k2.alloc _).alloc _, (Boxed.new w _ _).more _, ?_, ((Below.refl _ _).alloc (Nat.le_refl _) _).alloc (by simp) _⟩
    have := Boxed.new (w.alloc (.cells #[.int .i64 f, .slice a1 len c1] 29)) #[.int .i64 f, .slice a2 len c2] 29
    simpa using this
  have HW : Hid (W = _) := hW
  clear hW h1 h2 k1 k2 hB hlen hin
  go_enter Tryz.func14, Tryz.ntmps14
  go_wp2
  rw [← HW.out]
  go_loopw [5] (fun i wr => ∃ k : Nat, k ≤ len ∧ i = .int .i64 k ∧ Hid (Below W.heap.size W wr)) (fun i _ => len - (intOf i).toNat)
  case atStart => exact ⟨0, Nat.zero_le _, rfl, Below.refl _ _⟩
  case round =>
    obtain ⟨k, hk, rfl, Hb⟩ := hrel
    have e1 : wr.cell? ⟨w.heap.size, 1, none⟩ = some (.slice a1 len c1) := (X.out.2.2.1.below X.out.2.2.1.under Hb.out).cell 1 rfl
    by_cases hlt : k < len
    · have hkl : k < ls.length := by rw [Hlen.out]; exact hlt
      have Go : Hid (∀ wq, Below wr.heap.size wr wq → DzAt wq a1 ls ∧ DzAt wq a2 ls ∧ Boxed wq w.heap.size #[.int .i64 f, .slice a1 len c1] 29 ∧ Boxed wq (w.heap.size + 1) #[.int .i64 f, .slice a2 len c2] 29 ∧ Below W.heap.size W wq) := fun wq q => by
        have hb := Hb.out.trans (q.mono Hb.out.size)
        exact ⟨X.out.1.below hb, X.out.2.1.below hb, X.out.2.2.1.below X.out.2.2.1.under hb, X.out.2.2.2.1.below X.out.2.2.2.1.under hb, hb⟩
      obtain ⟨b1, o1, i1, m1, ha1, hb1, hc1, hr1, -⟩ := X.out.1.below Hb.out k hkl
      obtain ⟨b2, o2, i2, m2, ha2, hb2, hc2, hr2, -⟩ := X.out.2.1.below Hb.out k hkl
      subst ha1
      subst ha2
      have C := fun wq g1 g2 => likeDus i1 i2 m1 m2 (dzAt ls k) wq (Hin.out k hlt) g1 g2
      have Hr : Hid (DusAt wr i1 (dzAt ls k) ∧ DusAt wr i2 (dzAt ls k) ∧ wr.cell? ⟨b1, o1 + k, none⟩ = some (.slice i1 (dzAt ls k).length m1) ∧ wr.cell? ⟨b2, o2 + k, none⟩ = some (.slice i2 (dzAt ls k).length m2) ∧ b1 < wr.heap.size ∧ b2 < wr.heap.size) := ⟨hr1, hr2, hc1, hc2, hb1, hb2⟩
      generalize dzAt ls k = l at C Hr
      obtain ⟨m, hm⟩ : ∃ m, l.length = m := ⟨_, rfl⟩
      rw [hm] at C Hr
      clear hc1 hc2 hr1 hr2 hm
      have C' : Hid _ := C
      clear C
      have hlt' : (k : Int) < (len : Int) := by omega
      haveI : Nonempty (BelW wr.heap.size wr) := ⟨⟨wr, Below.refl _ _⟩⟩
      have f1 : ∀ p : BelW wr.heap.size wr, p.w'.cell? ⟨w.heap.size, 1, none⟩ = some (.slice (some ⟨b1, o1, none⟩) len c1) := fun p => (Go.out _ p.h).2.2.1.cell 1 rfl
      have f2 : ∀ p : BelW wr.heap.size wr, p.w'.cell? ⟨w.heap.size + 1, 1, none⟩ = some (.slice (some ⟨b2, o2, none⟩) len c2) := fun p => (Go.out _ p.h).2.2.2.1.cell 1 rfl
      have f3 : ∀ p : BelW wr.heap.size wr, p.w'.cell? ⟨b1, o1 + k, none⟩ = some (.slice i1 m m1) := fun p => by rw [p.h.cell (p := ⟨b1, o1 + k, none⟩) Hr.out.2.2.2.2.1]; exact Hr.out.2.2.1
      have f4 : ∀ p : BelW wr.heap.size wr, p.w'.cell? ⟨b2, o2 + k, none⟩ = some (.slice i2 m m2) := fun p => by rw [p.h.cell (p := ⟨b2, o2 + k, none⟩) Hr.out.2.2.2.2.2]; exact Hr.out.2.2.2.1
      have At : Hid (∀ p : BelW wr.heap.size wr, DusAt p.w' i1 l ∧ DusAt p.w' i2 l) := fun p => ⟨Hr.out.1.below p.h, Hr.out.2.1.below p.h⟩
      go_wp2_with fail
      refine region_below wr.heap.size (by kernel_rfl) (by kernel_rfl) ?_
      repeat (go_big_quiet_step ((go_at_call 20; refine quiet_below (Nat.le_refl _) (C'.out _ (At.out _).1 (At.out _).2))))
      refine wpQuiet_nil ?_
      intro wq hx
      have GQ : Hid (Below W.heap.size W wq) := (Go.out _ (BelW.out hx)).2.2.2.2
      clear hx f1 f2 f3 f4 e1
      go_wp2
      go_roundw
      case rel => exact ⟨k + 1, by omega, by go_num, GQ⟩
      case measure => simp [intOf]; omega
    · obtain rfl : k = len := by omega
      go_wp2
      go_ret
      exact ⟨rfl, X.out.2.2.2.2.trans (Hb.out.mono X.out.2.2.2.2.size)⟩
end Go.Proofs.YtkocbfikcjgigaaGreat
