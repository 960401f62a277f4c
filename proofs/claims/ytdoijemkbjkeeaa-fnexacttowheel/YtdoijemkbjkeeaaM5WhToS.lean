import Derived.Test.YtdoijemkbjkeeaaM2WhFn
import Derived.Test.YtdoijemkbjkeeaaM3DzGrow
import Derived.Test.YtdoijemkbjkeeaaStepRow
import Derived.Laws.ResultCell
import Derived.Laws.CopyOwn
import Derived.Test.YtdoijemkbjkeeaaWhInto
import Derived.Test.YtdoijemkbjkeeaaWhToP
/-
  What lies while a wheel is turned. By the verifier, by program.
-/
namespace Go.Proofs.Ytdoijemkbjkeeaa
open Go.RowKit

theorem dzIn_nil (b t : Nat) (w : World) : DzIn b t w (.slice none 0 0) [] :=
  ⟨[], ⟨SlIn.nil _ _ _ _ _ _, rfl, fun i hi => by simp at hi, fun i hi => by simp at hi, fun i j k o hi => by simp at hi, fun i k o hi => by simp at hi⟩⟩

structure PuW (w : World) (f : Int) (a : Option Addr) (n c : Nat) (i : Du) (B G : Nat) (vx : Option Addr) (vc : Nat) (vs : List Value) (ls' : List (List Du)) (wr : World) : Prop where
  box : Boxed wr w.heap.size #[.int .i64 f, .slice a n c] 30
  item : Boxed wr (w.heap.size + 1) #[.int .i64 i.time, .int .i64 i.id] 34
  res : Boxed wr (w.heap.size + 1 + 1) #[.int .i64 0, .slice none 0 0] 30
  out : Boxed wr B #[.int .i64 f, .slice vx n vc] 30
  g : DzG G (.slice vx n vc) vs ls' wr
  bel : Below w.heap.size w wr
  lo : w.heap.size + 3 ≤ G
  hi : w.heap.size + 3 ≤ B
section
variable {w : World} {f : Int} {a : Option Addr} {n c : Nat} {i : Du} {B G : Nat} {vx : Option Addr} {vc : Nat} {vs : List Value} {ls' : List (List Du)} {wr wd : World}
theorem PuW.below (h : PuW w f a n c i B G vx vc vs ls' wr) (g : Below wr.heap.size wr wd) : PuW w f a n c i B G vx vc vs ls' wd :=
  ⟨h.box.below h.box.under g, h.item.below h.item.under g, h.res.below h.res.under g, h.out.below h.out.under g, h.g.below g, h.bel.trans (g.mono h.bel.size), h.lo, h.hi⟩
/-- The answer's variable filled. -/
theorem PuW.done (h : PuW w f a n c i B G vx vc vs ls' wr) (hl : ls'.length = n) : WhIn w.heap.size (wr.setRow (w.heap.size + 1 + 1) #[.int .i64 f, .slice vx n vc]).heap.size (wr.setRow (w.heap.size + 1 + 1) #[.int .i64 f, .slice vx n vc]) (.agg #[.int .i64 f, .slice vx n vc]) ⟨f, ls'⟩ ∧ Below w.heap.size w (wr.setRow (w.heap.size + 1 + 1) #[.int .i64 f, .slice vx n vc]) := by
  have lo := h.lo
  refine ⟨⟨vx, vc, by unfold Wh.val; simp [hl], vs, ?_⟩, below_setRow h.bel (by omega) _⟩
  have hg : DzG G (.slice vx n vc) vs ls' (wr.setRow (w.heap.size + 1 + 1) #[.int .i64 f, .slice vx n vc]) := h.g.other fun k hk _ => setRow_other _ _ _ _ (by omega)
  have hd := hg.done
  show DzV _ _ _ (.slice vx ls'.length vc) vs ls'
  rw [hl]
  exact hd.wide (by omega) (Nat.le_refl _) (Nat.le_refl _)
end
end Go.Proofs.Ytdoijemkbjkeeaa

/-
  The walk of the model's ToWheel. By the verifier.
-/
namespace Go.Proofs.Ytdoijemkbjkeeaa
open Go.RowKit

theorem dzMake8 (wx : World) : (Instr.makeSlice 28 (.int .i64 8) (.int .i64 8)).run Try.prog wx = .ok (.slice (some ⟨wx.heap.size, 0, none⟩) 8 8) (wx.alloc (.cells (madeCells #[.slice none 0 0] 8) 42)) := by
  obtain ⟨i0, hi, hz0, hz1, hz2⟩ := info_parts dzInfo
  have := run_make (P := Try.prog) wx 28 42 i0 (.slice none 0 0) Try.underlying28 hi hz0 .i64 .i64 8 8 (by omega) (by omega) (by rw [hz2]; omega) (by omega)
  rw [hz1] at this
  exact this
theorem dzMadeG (w : World) (base : Nat) (hb : base ≤ w.heap.size) : DzG base (.slice (some ⟨w.heap.size, 0, none⟩) 8 8) (List.replicate 8 (.slice none 0 0)) (List.replicate 8 []) (w.alloc (.cells (madeCells #[.slice none 0 0] 8) 42)) := by
  have e : ∀ i, dzV (List.replicate 8 (.slice none 0 0)) i = .slice none 0 0 := fun i => by
    unfold dzV
    by_cases h : i < 8
    · rw [List.getElem?_replicate_of_lt h]; rfl
    · rw [List.getElem?_eq_none (by simp; omega)]; rfl
  refine ⟨?_, by simp, fun i hi => ?_, fun i j k hi hj hne h1 => ?_⟩
  · have e2 : (madeCells #[Value.slice none 0 0] 8).toList = List.replicate 8 (Value.slice none 0 0) := by kernel_rfl
    have := World.ownsRow_lit (size := 1) (e := 42) w (madeCells #[.slice none 0 0] 8) 8 hb (by unfold maxLen; omega) (by kernel_rfl)
    rw [e2] at this
    rw [List.length_replicate]
    exact this
  · rw [e, dzAt_empty]
    exact World.ownsRow_nil _ base _ 2
  · rw [e] at h1
    cases h1
/-- A wheel of the call's own, row by row, from b on. -/
def WhG (b : Nat) (w : World) (v : Value) (r : Wh) : Prop := ∃ a c vs, v = r.val a c ∧ DzG b (.slice a r.slots.length c) vs r.slots w
theorem WhG.in {b : Nat} {w : World} {v : Value} {r : Wh} (h : WhG b w v r) : WhIn b w.heap.size w v r := by
  obtain ⟨a, c, vs, e, h⟩ := h
  exact ⟨a, c, e, vs, h.done⟩
theorem WhV.done {base P : Nat} {f : Int} {g cap : Nat} {vs : List Value} {ls : List (List Du)} {wr : World} {s : Nat} (h : WhV base P f g cap vs ls wr) (hl : ls.length = 8) (hs : s < base) : WhG (s + 1) (wr.setRow s #[.int .i64 f, .slice (some ⟨g, 0, none⟩) 8 cap]) (.agg #[.int .i64 f, .slice (some ⟨g, 0, none⟩) 8 cap]) ⟨f, ls⟩ := by
  refine ⟨some ⟨g, 0, none⟩, cap, vs, by unfold Wh.val; simp [hl], ?_⟩
  have hg : DzG base (.slice (some ⟨g, 0, none⟩) 8 cap) vs ls (wr.setRow s #[.int .i64 f, .slice (some ⟨g, 0, none⟩) 8 cap]) := h.mem.other fun k hk _ => setRow_other _ _ _ _ (by omega)
  show DzG _ (.slice (some ⟨g, 0, none⟩) ls.length cap) vs ls _
  rw [hl]
  refine ⟨⟨hg.outer.1, hg.outer.2.imp id ?_⟩, hg.len, fun i hi => (hg.row i hi).mono (by omega), hg.apart⟩
  rintro ⟨g0, c0, cur0, e1, e2, e3⟩
  exact ⟨g0, c0, cur0, e1, by omega, e3⟩

set_option maxHeartbeats 6400000 in
set_option maxRecDepth 100000 in
theorem specToWheelG (a : Option Addr) (cap : Nat) (l : List Du) (step : Int) (w : World) (hT : l.length ≤ 1048576) (hcap : l.length ≤ cap) (h : Hid (DusAt w a l)) :
    Calls Try.prog 15 #[.slice a l.length cap, .int .i64 step] w fun e w' => (∃ v', e = .returned (.tuple #[v', .bool (toWB l step)]) ∧ WhG (w.heap.size + 1) w' v' (toW l step)) ∧ Below w.heap.size w w' := by
  have A1 := fun w h => specHeapOk a cap l w hT hcap h
  have A2 := fun w => specIn step 1 1000 w
  have Hb : Hid (toWB l step = (hok l && inB 1 1000 step)) := rfl
  have Hp : Hid (toW l step = if toWB l step = true then toWs step l else ⟨0, []⟩) := rfl
  have HS : Hid (hok l = true → inB 1 1000 step = true → (1 ≤ step ∧ step ≤ 1000) ∧ ∀ k, k ≤ l.length → (toWs step (l.take k)).ok = true ∧ (toWs step (l.take k)).step = step) := fun g1 g2 => by
    have hs := inB_true.1 g2
    exact ⟨hs, fun k hk => ⟨(toWs_is hs g1 k hk).1, (toWs_is hs g1 k hk).2.2⟩⟩
  have HD : Hid (hok l = true → ∀ k, k < l.length → (duAt l k).ok = true) := fun g1 k hk => (hok_is.1 g1).2.1 _ (by rw [duAt_lt hk]; exact List.getElem_mem hk)
  have HL : Hid (hok l = true → l.length ≤ 60) := fun g => (hok_iff.1 g).1
  generalize toW l step = pr at Hp ⊢
  generalize toWB l step = pb at Hb Hp ⊢
  generalize hok l = ok at A1 Hb HS HD HL
  generalize inB 1 1000 step = sok at A2 Hb HS
  obtain ⟨n, hn⟩ : ∃ n, l.length = n := ⟨_, rfl⟩
  rw [hn] at A1 HS HD HL hT hcap ⊢
  have Hn : Hid (l.length = n) := hn
  have A1' : Hid _ := A1
  have A2' : Hid _ := A2
  clear A1 A2 hn
  have X : Hid (DusAt (w.alloc (.cells #[.int .i64 0, .slice none 0 0] 30)) a l ∧ Boxed (w.alloc (.cells #[.int .i64 0, .slice none 0 0] 30)) w.heap.size #[.int .i64 0, .slice none 0 0] 30 ∧ Below w.heap.size w (w.alloc (.cells #[.int .i64 0, .slice none 0 0] 30))) := ⟨h.out.alloc _, Boxed.new _ _ _, (Below.refl _ _).alloc (Nat.le_refl _) _⟩
  go_enter Try.func15, Try.ntmps15
  go_wp2_with fail
  refine (A1'.out _ X.out.1).mono ?_
  rintro e w1 ⟨rfl, q⟩
  have X1 : Hid (Boxed w1 w.heap.size #[.int .i64 0, .slice none 0 0] 30 ∧ Below w.heap.size w w1) := ⟨X.out.2.1.below X.out.2.1.under q, X.out.2.2.trans (q.mono X.out.2.2.size)⟩
  clear q X A1'
  cases ok
  · have e1 : pb = false := by rw [Hb.out]; rfl
    subst e1
    have e2 : pr = ⟨0, []⟩ := by rw [Hp.out]; rfl
    subst e2
    go_wp2_with (refine wpList_store_row rfl 30 (.tmp 4) (.tmp 16) rfl w.heap.size #[.int .i64 0, .slice none 0 0] rfl rfl _ _ X1.out.1 (by kernel_rfl) rfl (by simp [Value.oneCell']) ?_)
    refine bodyPost_ret (results_row_tmp Try.results15 _ _ w.heap.size _ #[.int .i64 0, .slice none 0 0] _ _ (.bool false) rfl rfl (setRow_heap w1 w.heap.size _ _ _ _ X1.out.1) Try.underlying30 rfl (by kernel_rfl)) rfl ⟨⟨_, rfl, none, 0, [], rfl, DzG.nil _ _⟩, below_setRow X1.out.2 (by omega) _⟩
  go_wp2_with fail
  refine (A2'.out _).mono ?_
  rintro e w2 ⟨rfl, hw2⟩
  have hw2' := hw2.symm
  subst hw2'
  clear hw2 A2'
  cases sok
  · have e1 : pb = false := by rw [Hb.out]; rfl
    subst e1
    have e2 : pr = ⟨0, []⟩ := by rw [Hp.out]; rfl
    subst e2
    go_wp2_with (refine wpList_store_row rfl 30 (.tmp 4) (.tmp 16) rfl w.heap.size #[.int .i64 0, .slice none 0 0] rfl rfl _ _ X1.out.1 (by kernel_rfl) rfl (by simp [Value.oneCell']) ?_)
    refine bodyPost_ret (results_row_tmp Try.results15 _ _ w.heap.size _ #[.int .i64 0, .slice none 0 0] _ _ (.bool false) rfl rfl (setRow_heap w1 w.heap.size _ _ _ _ X1.out.1) Try.underlying30 rfl (by kernel_rfl)) rfl ⟨⟨_, rfl, none, 0, [], rfl, DzG.nil _ _⟩, below_setRow X1.out.2 (by omega) _⟩
  have e1 : pb = true := by rw [Hb.out]; rfl
  subst e1
  have e2 : pr = toWs step l := by rw [Hp.out]; rfl
  subst e2
  obtain ⟨hs, hW⟩ := HS.out (by first | exact trivial | exact rfl) (by first | exact trivial | exact rfl)
  have HWs : Hid (∀ k, k ≤ n → (toWs step (l.take k)).ok = true ∧ (toWs step (l.take k)).step = step) := hW
  have HDs : Hid (∀ k, k < n → (duAt l k).ok = true) := HD.out (by first | exact trivial | exact rfl)
  have hn60 : n ≤ 60 := HL.out (by first | exact trivial | exact rfl)
  clear hW HS HD HL Hb Hp
  have hmk := dzMake8
  have G0 : Hid (WhV (w.heap.size + 1) (w1.heap.size + 1) step w1.heap.size 8 (List.replicate 8 (.slice none 0 0)) (toWs step (l.take 0)).slots ((w1.alloc (.cells (madeCells #[.slice none 0 0] 8) 42)).alloc (.cells #[.int .i64 step, .slice (some ⟨w1.heap.size, 0, none⟩) 8 8] 30))) := by
    have hu := X1.out.1.under
    refine ⟨?_, (dzMadeG w1 (w.heap.size + 1) hu).below ((Below.refl _ _).alloc (Nat.le_refl _) _), by simp; omega⟩
    have := Boxed.new (w1.alloc (.cells (madeCells #[.slice none 0 0] 8) 42)) #[.int .i64 step, .slice (some ⟨w1.heap.size, 0, none⟩) 8 8] 30
    simpa using this
  have G1 : Hid (Boxed ((w1.alloc (.cells (madeCells #[.slice none 0 0] 8) 42)).alloc (.cells #[.int .i64 step, .slice (some ⟨w1.heap.size, 0, none⟩) 8 8] 30)) w.heap.size #[.int .i64 0, .slice none 0 0] 30 ∧ Below w.heap.size w ((w1.alloc (.cells (madeCells #[.slice none 0 0] 8) 42)).alloc (.cells #[.int .i64 step, .slice (some ⟨w1.heap.size, 0, none⟩) 8 8] 30))) := by
    have hz := X1.out.2.size
    exact ⟨(X1.out.1.more _).more _, (X1.out.2.alloc hz _).alloc (by simp; omega) _⟩
  go_upto_region 4 with fail
  generalize (w1.alloc (.cells (madeCells #[.slice none 0 0] 8) 42)).alloc (.cells #[.int .i64 step, .slice (some ⟨w1.heap.size, 0, none⟩) 8 8] 30) = w3 at G0 G1 ⊢
  generalize w1.heap.size = g at G0 ⊢
  clear hmk
  go_wp2_with fail
  go_loopw [7] (fun s wr => ∃ k : Nat, k ≤ n ∧ s = .int .i64 k ∧ Hid (∃ vs, WhV (w.heap.size + 1) (g + 1) step g 8 vs (toWs step (l.take k)).slots wr ∧ Boxed wr w.heap.size #[.int .i64 0, .slice none 0 0] 30 ∧ Below w.heap.size w wr)) (fun s _ => n - (intOf s).toNat)
  case atStart => exact ⟨0, Nat.zero_le _, rfl, _, G0.out, G1.out⟩
  case round =>
    obtain ⟨k, hk, rfl, HE⟩ := hrel
    obtain ⟨vs, HK⟩ : ∃ vs, Hid (WhV (w.heap.size + 1) (g + 1) step g 8 vs (toWs step (l.take k)).slots wr ∧ Boxed wr w.heap.size #[.int .i64 0, .slice none 0 0] 30 ∧ Below w.heap.size w wr) := HE.out
    clear G0 G1 HE
    obtain ⟨wo, rfl⟩ : ∃ wo, wo = wr := ⟨_, rfl⟩
    have hwk := (Wh.ok_iff.1 (HWs.out k hk).1)
    have h8 : (toWs step (l.take k)).slots.length = 8 := hwk.1.2
    by_cases hlt : k < n
    case neg =>
      obtain rfl : k = n := by omega
      have e : l.take k = l := List.take_of_length_le (by rw [Hn.out]; exact Nat.le_refl _)
      have hst := (HWs.out k hk).2
      rw [e] at HK h8 hst
      have Fin : Hid (WhG (w.heap.size + 1) (wo.setRow w.heap.size #[.int .i64 step, .slice (some ⟨g, 0, none⟩) 8 8]) (.agg #[.int .i64 step, .slice (some ⟨g, 0, none⟩) 8 8]) (toWs step l)) := by
        have := HK.out.1.done (s := w.heap.size) h8 (Nat.lt_succ_self _)
        have et : toWs step l = ⟨step, (toWs step l).slots⟩ := by
          have q : ∀ r : Wh, r.step = step → r = ⟨step, r.slots⟩ := by rintro ⟨s, ls⟩ rfl; rfl
          exact q _ hst
        rw [et]
        exact this
      clear hwk e hst
      go_wp2_with (first | (refine wpList_load_row rfl 30 (.tmp 6) rfl (g + 1) rfl _ _ _ _ HK.out.1.box Try.underlying30 rfl (by kernel_rfl) ?_) | (refine wpList_store_row rfl 30 (.tmp 4) (.tmp 31) rfl w.heap.size _ rfl rfl _ _ HK.out.2.1 (by kernel_rfl) rfl (by simp [Value.oneCell']) ?_))
      refine bodyPost_ret (results_row_tmp Try.results15 _ _ w.heap.size _ #[.int .i64 step, .slice (some ⟨g, 0, none⟩) 8 8] _ _ (.bool true) rfl rfl (setRow_heap wo w.heap.size _ _ _ _ HK.out.2.1) Try.underlying30 rfl (by kernel_rfl)) rfl ⟨⟨_, rfl, Fin.out⟩, below_setRow HK.out.2.2 (Nat.le_refl _) _⟩
    have hkl : k < l.length := by rw [Hn.out]; exact hlt
    have hlt' : (k : Int) < (n : Int) := by omega
    obtain ⟨b1, o1, ha1, -, -⟩ := (h.out.below HK.out.2.2) k hkl
    subst ha1
    obtain ⟨c0, c1⟩ := (h.out.below HK.out.2.2).cells hkl
    have h60 : ∀ i, i < 8 → (dzAt (toWs step (l.take k)).slots i).length ≤ 60 := fun i hi => by
      have q := dzSum_one (ls := (toWs step (l.take k)).slots) (i := i) (by omega)
      rw [h8] at q
      have := hwk.2.1
      omega
    have CI := fun hw => specInto (w.heap.size + 1) (g + 1) step g 8 vs (toWs step (l.take k)).slots (duAt l k) wo hs h8 h60 (HDs.out k hlt) hw
    have Nx : Hid (toWs step (l.take (k + 1)) = (toWs step (l.take k)).into (duAt l k)) := toWs_next hkl
    have Nx2 : Hid ((toWs step (l.take (k + 1))).slots = (toWs step (l.take k)).slots.set (slot step (duAt l k)).toNat (ins (dzAt (toWs step (l.take k)).slots (slot step (duAt l k)).toNat) (duAt l k))) := by
      show (toWs step (l.take (k + 1))).slots = _
      rw [Nx.out]
      unfold Wh.into
      rw [(HWs.out k hk).2]
    rw [← Nx2.out] at CI
    unfold Du.val at CI
    have CI' : Hid _ := CI
    clear CI Nx Nx2 h60 hwk
    generalize duAt l k = x at c0 c1 CI'
    go_wp2_with fail
    refine (CI'.out HK.out.1).mono ?_
    rintro e w4 ⟨rfl, vs', hv, q⟩
    have H4 : Hid (∃ vs, WhV (w.heap.size + 1) (g + 1) step g 8 vs (toWs step (l.take (k + 1))).slots w4 ∧ Boxed w4 w.heap.size #[.int .i64 0, .slice none 0 0] 30 ∧ Below w.heap.size w w4) := ⟨vs', hv, HK.out.2.1.below (Nat.lt_succ_self _) q, HK.out.2.2.trans (q.mono (by omega))⟩
    clear hv q HK CI' c0 c1
    go_wp2
    go_roundw
    case rel => exact ⟨k + 1, by omega, by go_num, H4.out⟩
    case measure => simp [intOf]; omega
theorem specToWheel (a : Option Addr) (cap : Nat) (l : List Du) (step : Int) (w : World) (hT : l.length ≤ 1048576) (hcap : l.length ≤ cap) (h : Hid (DusAt w a l)) :
    Calls Try.prog 15 #[.slice a l.length cap, .int .i64 step] w fun e w' => (∃ v', e = .returned (.tuple #[v', .bool (toWB l step)]) ∧ WhIn w.heap.size w'.heap.size w' v' (toW l step)) ∧ Below w.heap.size w w' :=
  (specToWheelG a cap l step w hT hcap h).mono fun e w' hh => by
    obtain ⟨⟨v', e1, h1⟩, hb⟩ := hh
    have hw := h1.in
    exact ⟨⟨v', e1, hw.wide (by omega) (Nat.le_refl _) (Nat.le_refl _)⟩, hb⟩
end Go.Proofs.Ytdoijemkbjkeeaa
