/-
  The walk of FnWheels, the program's contracts given. By the verifier, by program.
-/
import Derived.Test.YtkocbfikcjgigaaGreatWhDrawQ
import Derived.Test.YtkocbfikcjgigaaGreatM12WhDrawT
import Derived.Test.YtkocbfikcjgigaaGreatM11LikeWh
import Derived.Test.YtkocbfikcjgigaaGreatWhPutS
import Derived.Test.YtkocbfikcjgigaaGreatWhTakeS
import Derived.Test.YtkocbfikcjgigaaGreatWhHeapS
import Derived.Test.YtkocbfikcjgigaaGreatM13DuV
import Derived.BigQuiet
namespace Go.Proofs.YtkocbfikcjgigaaGreat
open Go.RowKit

abbrev dTw (b t : Nat) (v : Value) (l : List Du) : Thing := Thing.own (fun W => DusW b t W v l) b t (fun h s k => DusW.keep h s k)
abbrev wTw (b t : Nat) (v : Value) (r : Wh) : Thing := Thing.own (fun W => WhIn b t W v r) b t (fun h s k => WhIn.keep h s k)
theorem lies_varw {w : World} {ts : List Thing} {W : World} (h : Lies w ts W) (z cs : Array Value) (T : TypeId) : Lies w (ts ++ [Thing.box W.heap.size cs T]) ((W.alloc (.cells z T)).setRow W.heap.size cs) :=
  h.more (below_setRow ((Below.refl _ _).alloc (Nat.le_refl _) _) (Nat.le_refl _) _) ⟨setRow_heap _ _ _ _ _ _ (Boxed.new W z T), trivial⟩
theorem boxed_two {W : World} (z y cs : Array Value) (T U : TypeId) : Boxed ((W.alloc (.cells z T)).alloc (.cells y U)) W.heap.size z T ∧ Boxed (((W.alloc (.cells z T)).alloc (.cells y U)).setRow W.heap.size cs) (W.heap.size + 1) y U := by
  refine ⟨(Boxed.new W z T).more _, (setRow_other _ _ _ _ (by omega)).trans ?_⟩
  have := Boxed.new (W.alloc (.cells z T)) y U
  simpa [Boxed] using this
theorem lies_var2w {w : World} {ts : List Thing} {W : World} (h : Lies w ts W) (z cs y ds : Array Value) (T U : TypeId) : Lies w (ts ++ [Thing.box W.heap.size cs T, Thing.box (W.heap.size + 1) ds U]) ((((W.alloc (.cells z T)).alloc (.cells y U)).setRow W.heap.size cs).setRow (W.heap.size + 1) ds) := by
  have b2 := boxed_two (W := W) z y cs T U
  refine h.more (below_setRow (below_setRow (((Below.refl _ _).alloc (Nat.le_refl _) _).alloc (by simp) _) (Nat.le_refl _) _) (by omega) _) ⟨?_, setRow_heap _ _ _ _ _ _ b2.2, trivial⟩
  exact (setRow_other _ _ _ _ (by omega)).trans (setRow_heap _ _ _ _ _ _ b2.1)
theorem whOnes (a : Int) (x : Option Addr) (n c : Nat) : (#[Value.int .i64 a, .slice x n c] : Array Value).all (·.oneCell') = true := by simp [Value.oneCell']
theorem toW_is {l : List Du} {step : Int} (h : toWB l step = true) : hok l = true ∧ (toW l step).ok = true ∧ l.Perm (toW l step).slots.flatten := by
  have h' := h
  unfold toWB at h'
  rw [Bool.and_eq_true] at h'
  have := toWs_is (inB_true.1 h'.2) h'.1 l.length (Nat.le_refl _)
  rw [List.take_length] at this
  unfold toW
  rw [if_pos h]
  exact ⟨h'.1, this.1, this.2.1.symm⟩
theorem toW_back {r : Wh} (h : r.ok = true) : toWB (toH r) r.step = true ∧ toW (toH r) r.step = r := by
  obtain ⟨h1, h2⟩ := toH_is h
  obtain ⟨hs, hsl, -, -⟩ := Wh.ok_is.1 h
  have hb : toWB (toH r) r.step = true := by unfold toWB; rw [h1, inB_true.2 hs]; rfl
  refine ⟨hb, ?_⟩
  obtain ⟨-, k2, k3⟩ := toW_is hb
  have k4 : (toW (toH r) r.step).step = r.step := by
    unfold toW
    rw [if_pos hb]
    have := (toWs_is hs h1 (toH r).length (Nat.le_refl _)).2.2
    rw [List.take_length] at this
    exact this
  have e := (Wh.ok_is.1 k2).2.1
  rw [k4] at e
  have e2 := e.one hsl (k3.symm.trans h2)
  have q : ∀ r1 r2 : Wh, r1.step = r2.step → r1.slots = r2.slots → r1 = r2 := by rintro ⟨s, ls⟩ ⟨s2, ls2⟩ rfl rfl; rfl
  exact q _ _ k4 e2

/-- How long a list is. -/
def sliceLen : Value → Nat
  | .slice _ n _ => n
  | _ => 0
theorem take_len {l : List Du} (h : mayTake l = true) : (takeH l).length + 1 = l.length := by
  have e : takeH l = htake l := by unfold takeH; rw [if_pos h]
  rw [e]
  exact (htake_hok h).2.2.2.1
/-- What lies while heap and wheel are taken from, due by due. -/
structure WhL (w : World) (gW : Nat) (l : List Du) (v : Value) (z : Nat) (r : Wh) (b t b2 t2 m : Nat) (xp : Option Addr) (xq : Nat) (W : World) : Prop where
  ok : hok l = true
  len : l.length = z
  rok : r.ok = true
  perm : l.Perm r.slots.flatten
  slots : r.slots.length = m
  lies : Lies w [dTw b t v l, wTw b2 t2 (.agg #[.int .i64 r.step, .slice xp m xq]) r, Thing.box gW #[.int .i64 r.step, .slice xp m xq] 29] W
  off : (t ≤ gW ∨ gW < b) ∧ (t2 ≤ gW ∨ gW < b2)
  gw : w.heap.size ≤ gW

set_option maxHeartbeats 12800000 in
set_option maxRecDepth 100000 in
theorem fnWheels_law
    (ITW : ∀ (a : Option Addr) (c : Nat) (r : List Du) (step : Int) (w : World), r.length ≤ 1048576 → r.length ≤ c → (a = none → c = 0) → Hid (DusAt w a r) → Calls Tryz.prog 6 #[.slice a r.length c, .int .i64 step] w fun e w' => (∃ v', e = .returned (.tuple #[v', .bool (toWB r step)]) ∧ WhIn w.heap.size w'.heap.size w' v' (toW r step)) ∧ Below w.heap.size w w')
    (IWP : ∀ (r : Wh) (v : Value) (d : Du) (w : World), r.big ≤ 1048576 → Hid (WhAt w v r) → Calls Tryz.prog 8 #[v, d.val] w fun e w' => (∃ v', e = .returned (.tuple #[v', .bool (r.putB d)]) ∧ WhIn w.heap.size w'.heap.size w' v' (r.put d)) ∧ Below w.heap.size w w')
    (IWT : ∀ (r : Wh) (v : Value) (w : World), r.big ≤ 1048576 → Hid (WhAt w v r) → Calls Tryz.prog 10 #[v] w fun e w' => (∃ v', e = .returned (.tuple #[v', Du.val (r.takeD), .bool (r.takeB)]) ∧ WhIn w.heap.size w'.heap.size w' v' (r.take)) ∧ Below w.heap.size w w')
    (ITH : ∀ (r : Wh) (v : Value) (w : World), r.big ≤ 1048576 → Hid (WhAt w v r) → Calls Tryz.prog 12 #[v] w fun e w' => (∃ v', e = .returned (.tuple #[v', .bool (r.ok)]) ∧ DuRow w.heap.size w' v' (toH r)) ∧ Below w.heap.size w w')
    (IWK : ∀ (r : Wh) (v : Value) (w : World), r.big ≤ 1048576 → Hid (WhAt w v r) → Calls Tryz.prog 15 #[v] w fun e w' => e = .returned (.bool (r.ok)) ∧ Below w.heap.size w w')
    (IHK : ∀ (l : List Du) (a : Option Addr) (cap : Nat) (w : World), l.length ≤ 1048576 → l.length ≤ cap → (a = none → cap = 0) → Hid (DusAt w a l) → Calls Tryz.prog 21 #[.slice a l.length cap] w fun e w' => e = .returned (.bool (hok l)) ∧ Below w.heap.size w w')
    (IHT : ∀ (l : List Du) (a : Option Addr) (cap : Nat) (w : World), l.length ≤ 1048576 → l.length ≤ cap → (a = none → cap = 0) → Hid (DusAt w a l) → Calls Tryz.prog 22 #[.slice a l.length cap] w fun e w' => (∃ v, e = .returned (.tuple #[v, (takeD l).val, .bool (mayTake l)]) ∧ DuRow w.heap.size w' v (takeH l)) ∧ Below w.heap.size w w')
    (a : Option Addr) (len cap : Nat) (w : World)
    (hcode : ∀ k, k < len → ∃ b off z, a = some ⟨b, off, none⟩ ∧ b < w.heap.size ∧ w.cell? ⟨b, off + k, none⟩ = some (.int .u8 z) ∧ 0 ≤ z ∧ z ≤ 255) :
    Calls Tryz.prog 3 #[.slice a len cap] w fun e w' => e = .returned (.bool true) ∧ Below w.heap.size w w' := by
  by_cases hbig : 4096 < len
  · clear hcode
    go_enter Tryz.func3, Tryz.ntmps3
    go_wp2
    go_ret
    exact ⟨rfl, Below.refl _ _⟩
  have hc : Hid (Code w a len) := ⟨by omega, hcode⟩
  have hb : Hid (Below w.heap.size w w) := Below.refl _ _
  have TW' : Hid (∀ (l : List Du) (v : Value) (step : Int) (W : World), l.length ≤ 1048576 → DusV W v l → Calls Tryz.prog 6 #[v, .int .i64 step] W fun e w' => (∃ p q, e = .returned (.tuple #[.agg #[.int .i64 (toW l step).step, .slice p (toW l step).slots.length q], .bool (toWB l step)]) ∧ WhIn W.heap.size w'.heap.size w' (.agg #[.int .i64 (toW l step).step, .slice p (toW l step).slots.length q]) (toW l step)) ∧ Below W.heap.size W w') := fun l v step W hT hv => by
    obtain ⟨a, c, rfl, h, hc, hn⟩ := hv
    refine (ITW a c l step W hT hc hn h).mono fun e w' hh => ?_
    obtain ⟨⟨v, rfl, r⟩, q⟩ := hh
    obtain ⟨p, q', rfl⟩ := r.cells
    exact ⟨⟨p, q', rfl, r⟩, q⟩
  have STW' : Hid (∀ (l : List Du) (v : Value) (step : Int) (W : World), l.length ≤ 1048576 → DusV W v l → Calls Tryz.prog 13 #[v, .int .i64 step] W fun e w' => (∃ p q, e = .returned (.tuple #[.agg #[.int .i64 (toW l step).step, .slice p (toW l step).slots.length q], .bool (toWB l step)]) ∧ WhIn W.heap.size w'.heap.size w' (.agg #[.int .i64 (toW l step).step, .slice p (toW l step).slots.length q]) (toW l step)) ∧ Below W.heap.size W w') := fun l v step W hT hv => by
    obtain ⟨a, c, rfl, h, hc, hn⟩ := hv
    refine (specToWheel a c l step W hT hc h).mono fun e w' hh => ?_
    obtain ⟨⟨v, rfl, r⟩, q⟩ := hh
    obtain ⟨p, q', rfl⟩ := r.cells
    exact ⟨⟨p, q', rfl, r⟩, q⟩
  have WP' : Hid (∀ (r : Wh) (v : Value) (x0 x1 : Int) (W : World), r.big ≤ 1048576 → WhAt W v r → Calls Tryz.prog 8 #[v, .agg #[.int .i64 x0, .int .i64 x1]] W fun e w' => (∃ p q, e = .returned (.tuple #[.agg #[.int .i64 (r.put ⟨x0, x1⟩).step, .slice p (r.put ⟨x0, x1⟩).slots.length q], .bool (r.putB ⟨x0, x1⟩)]) ∧ WhIn W.heap.size w'.heap.size w' (.agg #[.int .i64 (r.put ⟨x0, x1⟩).step, .slice p (r.put ⟨x0, x1⟩).slots.length q]) (r.put ⟨x0, x1⟩)) ∧ Below W.heap.size W w') := fun r v x0 x1 W hB h => by
    refine (IWP r v ⟨x0, x1⟩ W hB h).mono fun e w' hh => ?_
    obtain ⟨⟨v, rfl, r⟩, q⟩ := hh
    obtain ⟨p, q', rfl⟩ := r.cells
    exact ⟨⟨p, q', rfl, r⟩, q⟩
  have SWP' : Hid (∀ (r : Wh) (v : Value) (x0 x1 : Int) (W : World), r.big ≤ 1048576 → WhAt W v r → Calls Tryz.prog 17 #[v, .agg #[.int .i64 x0, .int .i64 x1]] W fun e w' => (∃ p q, e = .returned (.tuple #[.agg #[.int .i64 (r.put ⟨x0, x1⟩).step, .slice p (r.put ⟨x0, x1⟩).slots.length q], .bool (r.putB ⟨x0, x1⟩)]) ∧ WhIn W.heap.size w'.heap.size w' (.agg #[.int .i64 (r.put ⟨x0, x1⟩).step, .slice p (r.put ⟨x0, x1⟩).slots.length q]) (r.put ⟨x0, x1⟩)) ∧ Below W.heap.size W w') := fun r v x0 x1 W hB h => by
    refine (specWheelPut r v ⟨x0, x1⟩ W hB h).mono fun e w' hh => ?_
    obtain ⟨⟨v, rfl, r⟩, q⟩ := hh
    obtain ⟨p, q', rfl⟩ := r.cells
    exact ⟨⟨p, q', rfl, r⟩, q⟩
  have WT' : Hid (∀ (r : Wh) (v : Value) (W : World), r.big ≤ 1048576 → WhAt W v r → Calls Tryz.prog 10 #[v] W fun e w' => (∃ p q, e = .returned (.tuple #[.agg #[.int .i64 (r.take).step, .slice p (r.take).slots.length q], .agg #[.int .i64 r.takeD.time, .int .i64 r.takeD.id], .bool r.takeB]) ∧ WhIn W.heap.size w'.heap.size w' (.agg #[.int .i64 (r.take).step, .slice p (r.take).slots.length q]) (r.take)) ∧ Below W.heap.size W w') := fun r v W hB h => by
    refine (IWT r v W hB h).mono fun e w' hh => ?_
    obtain ⟨⟨v, rfl, r⟩, q⟩ := hh
    obtain ⟨p, q', rfl⟩ := r.cells
    exact ⟨⟨p, q', rfl, r⟩, q⟩
  have SWT' : Hid (∀ (r : Wh) (v : Value) (W : World), r.big ≤ 1048576 → WhAt W v r → Calls Tryz.prog 18 #[v] W fun e w' => (∃ p q, e = .returned (.tuple #[.agg #[.int .i64 (r.take).step, .slice p (r.take).slots.length q], .agg #[.int .i64 r.takeD.time, .int .i64 r.takeD.id], .bool r.takeB]) ∧ WhIn W.heap.size w'.heap.size w' (.agg #[.int .i64 (r.take).step, .slice p (r.take).slots.length q]) (r.take)) ∧ Below W.heap.size W w') := fun r v W hB h => by
    refine (specWheelTake r v W hB h).mono fun e w' hh => ?_
    obtain ⟨⟨v, rfl, r⟩, q⟩ := hh
    obtain ⟨p, q', rfl⟩ := r.cells
    exact ⟨⟨p, q', rfl, r⟩, q⟩
  have TH' : Hid (∀ (r : Wh) (v : Value) (W : World), r.big ≤ 1048576 → WhAt W v r → Calls Tryz.prog 12 #[v] W fun e w' => (∃ p q, e = .returned (.tuple #[.slice p (toH r).length q, .bool r.ok]) ∧ DusW W.heap.size w'.heap.size w' (.slice p (toH r).length q) (toH r)) ∧ Below W.heap.size W w') := fun r v W hB h => by
    refine (ITH r v W hB h).mono fun e w' hh => ?_
    obtain ⟨⟨v, rfl, r⟩, q⟩ := hh
    obtain ⟨p, q', rfl⟩ := r.shape
    exact ⟨⟨p, q', rfl, DusW.of_row r⟩, q⟩
  have STH' : Hid (∀ (r : Wh) (v : Value) (W : World), r.big ≤ 1048576 → WhAt W v r → Calls Tryz.prog 19 #[v] W fun e w' => (∃ p q, e = .returned (.tuple #[.slice p (toH r).length q, .bool r.ok]) ∧ DusW W.heap.size w'.heap.size w' (.slice p (toH r).length q) (toH r)) ∧ Below W.heap.size W w') := fun r v W hB h => by
    refine (specToHeap r v W hB h).mono fun e w' hh => ?_
    obtain ⟨⟨v, rfl, r⟩, q⟩ := hh
    obtain ⟨p, q', rfl⟩ := r.shape
    exact ⟨⟨p, q', rfl, DusW.of_row r⟩, q⟩
  have WK' : Hid (∀ (r : Wh) (v : Value) (W : World), r.big ≤ 1048576 → WhAt W v r → Calls Tryz.prog 15 #[v] W fun e w' => e = .returned (.bool r.ok) ∧ Below W.heap.size W w') := fun r v W hB h => IWK r v W hB h
  have SWK' : Hid (∀ (r : Wh) (v : Value) (W : World), r.big ≤ 1048576 → WhAt W v r → Calls Tryz.prog 16 #[v] W fun e w' => e = .returned (.bool r.ok) ∧ Below W.heap.size W w') := fun r v W hB h => specWheelOkV r v W hB h
  have HK' : Hid (∀ (l : List Du) (v : Value) (W : World), l.length ≤ 1048576 → DusV W v l → Calls Tryz.prog 21 #[v] W fun e w' => e = .returned (.bool (hok l)) ∧ Below W.heap.size W w') := fun l v W hT hv => by
    obtain ⟨a, c, rfl, h, hc, hn⟩ := hv
    exact IHK l a c W hT hc hn h
  have HT' : Hid (∀ (l : List Du) (v : Value) (W : World), l.length ≤ 1048576 → DusV W v l → Calls Tryz.prog 22 #[v] W fun e w' => (∃ p q, e = .returned (.tuple #[.slice p (takeH l).length q, .agg #[.int .i64 (takeD l).time, .int .i64 (takeD l).id], .bool (mayTake l)]) ∧ DusW W.heap.size w'.heap.size w' (.slice p (takeH l).length q) (takeH l)) ∧ Below W.heap.size W w') := fun l v W hT hv => by
    obtain ⟨a, c, rfl, h, hc, hn⟩ := hv
    refine (IHT l a c W hT hc hn h).mono fun e w' hh => ?_
    obtain ⟨⟨v, rfl, r⟩, q⟩ := hh
    obtain ⟨p, q', rfl⟩ := r.shape
    exact ⟨⟨p, q', rfl, DusW.of_row r⟩, q⟩
  have LW' : Hid (∀ (r : Wh) (v1 v2 : Value) (W : World), r.big ≤ 1048576 → WhAt W v1 r → WhAt W v2 r → Calls Tryz.prog 14 #[v1, v2] W fun e w' => e = .returned (.bool true) ∧ Below W.heap.size W w') := fun r v1 v2 W hB h1 h2 => likeWhs v1 v2 r W hB h1 h2
  have LD' : Hid (∀ (l : List Du) (v1 v2 : Value) (W : World), l.length ≤ 1048576 → DusV W v1 l → DusV W v2 l → Calls Tryz.prog 20 #[v1, v2] W fun e w' => e = .returned (.bool true) ∧ Below W.heap.size W w') := fun l v1 v2 W hT h1 h2 => by
    obtain ⟨a1, c1, rfl, h1, _⟩ := h1
    obtain ⟨a2, c2, rfl, h2, _⟩ := h2
    exact likeDus a1 a2 c1 c2 l W hT h1 h2
  clear hcode ITW IWP IWT ITH IWK IHK IHT
  go_enter Tryz.func3, Tryz.ntmps3
  go_wp2_with (go_at_call 4; go_in)
  refine (dDrawToWheel hc _ hb).mono ?_
  rintro e w1 ⟨⟨v, l, step, rfl, r1, hl⟩, q⟩
  obtain ⟨hp, hq, rfl⟩ := r1.shape
  obtain ⟨n, hn⟩ : ∃ n, l.length = n := ⟨_, rfl⟩
  obtain ⟨bh, hbh⟩ : ∃ b, b = w.heap.size := ⟨_, rfl⟩
  obtain ⟨th, hth⟩ : ∃ b, b = w1.heap.size := ⟨_, rfl⟩
  have Z1 : Hid (Lies w [dTw bh th (.slice hp n hq) l] w1) := by rw [hbh, hth, ← hn]; exact ⟨⟨⟨DusW.of_row r1, Nat.le_refl _⟩, trivial⟩, q⟩
  have Hn : Hid (l.length = n ∧ l.length ≤ 1048576) := ⟨hn, by omega⟩
  rw [hn]
  clear hbh hth r1 q hn hl hb
  have C0 := fun v W h => TW'.out l v step W Hn.out.2 h
  have C0s := fun v W h => STW'.out l v step W Hn.out.2 h
  have HR0 : Hid ((toWB l step = true → hok l = true ∧ (toW l step).ok = true ∧ l.Perm (toW l step).slots.flatten) ∧ (toW l step).big ≤ 1048576) := ⟨fun h => toW_is h, toW_big l step⟩
  generalize toW l step = R0 at C0 C0s HR0
  generalize toWB l step = is at C0 C0s HR0
  obtain ⟨s0, ls0⟩ := R0
  simp only [] at C0 C0s
  obtain ⟨m0, hm0⟩ : ∃ m, ls0.length = m := ⟨_, rfl⟩
  rw [hm0] at C0 C0s
  have C0' : Hid _ := C0
  have C0s' : Hid _ := C0s
  have Hm0 : Hid (ls0.length = m0) := hm0
  clear C0 C0s hm0
  go_wp2_with fail
  refine (C0'.out _ _ (show DusW _ _ _ _ _ from Z1.out.1.1.1).at).mono ?_
  rintro e w2 ⟨⟨wp, wq, rfl, i1⟩, q⟩
  obtain ⟨bw, hbw⟩ : ∃ b, b = w1.heap.size := ⟨_, rfl⟩
  obtain ⟨tw, htw⟩ : ∃ b, b = w2.heap.size := ⟨_, rfl⟩
  have Z2 : Hid (Lies w [dTw bh th (.slice hp n hq) l, wTw bw tw (.agg #[.int .i64 s0, .slice wp m0 wq]) ⟨s0, ls0⟩] w2) := by rw [hbw, htw]; exact Z1.out.more q ⟨⟨i1, Nat.le_refl _⟩, trivial⟩
  clear hbw htw Z1 q i1 C0'
  have HgW0 : w.heap.size ≤ w2.heap.size ∧ th ≤ w2.heap.size ∧ tw ≤ w2.heap.size := ⟨Z2.out.2.size, Z2.out.1.1.2, Z2.out.1.2.1.2⟩
  have N : Hid (Boxed (w2.alloc (.cells #[.int .i64 0, .slice none 0 0] 29)) w2.heap.size #[.int .i64 0, .slice none 0 0] 29) := Boxed.new _ _ _
  have Z3 : Hid (Lies w [dTw bh th (.slice hp n hq) l, wTw bw tw (.agg #[.int .i64 s0, .slice wp m0 wq]) ⟨s0, ls0⟩, Thing.box w2.heap.size #[.int .i64 s0, .slice wp m0 wq] 29] ((w2.alloc (.cells #[.int .i64 0, .slice none 0 0] 29)).setRow w2.heap.size #[.int .i64 s0, .slice wp m0 wq])) := lies_varw Z2.out _ _ _
  go_wp2_with (first | (refine wpList_store_row rfl 29 (.tmp _) (.tmp _) rfl w2.heap.size #[.int .i64 s0, .slice wp m0 wq] rfl rfl _ _ N.out (by kernel_rfl) rfl (whOnes _ _ _ _) ?_))
  generalize ((w2.alloc (.cells #[.int .i64 0, .slice none 0 0] 29)).setRow w2.heap.size #[.int .i64 s0, .slice wp m0 wq]) = w3 at Z3 ⊢
  obtain ⟨gW, hgW⟩ : ∃ b, b = w2.heap.size := ⟨_, rfl⟩
  rw [← hgW] at Z3 ⊢
  rw [← hgW] at HgW0
  have HgW : Hid (w.heap.size ≤ gW ∧ th ≤ gW ∧ tw ≤ gW) := HgW0
  clear HgW0
  clear N Z2 hgW
  have b3 : Hid (Below w.heap.size w w3) := Z3.out.2
  refine (dDrawWheelPut hc _ b3).mono ?_
  rintro e w4 ⟨⟨v, ⟨sP, lsP⟩, ⟨d0, d1⟩, rfl, i1, hbg⟩, q⟩
  obtain ⟨pp, pq, rfl⟩ := i1.cells
  simp only [Du.val] at i1 ⊢
  obtain ⟨mP, hmP⟩ : ∃ m, lsP.length = m := ⟨_, rfl⟩
  rw [hmP] at i1 ⊢
  have HP : Hid ((⟨sP, lsP⟩ : Wh).big ≤ 1048576) := by show (⟨sP, lsP⟩ : Wh).big ≤ 1048576; omega
  obtain ⟨bp, hbp⟩ : ∃ b, b = w3.heap.size := ⟨_, rfl⟩
  obtain ⟨tp, htp⟩ : ∃ b, b = w4.heap.size := ⟨_, rfl⟩
  have Z4 : Hid (Lies w [dTw bh th (.slice hp n hq) l, wTw bw tw (.agg #[.int .i64 s0, .slice wp m0 wq]) ⟨s0, ls0⟩, Thing.box gW #[.int .i64 s0, .slice wp m0 wq] 29, wTw bp tp (.agg #[.int .i64 sP, .slice pp mP pq]) ⟨sP, lsP⟩] w4) := by rw [hbp, htp]; exact Z3.out.more q ⟨⟨i1, Nat.le_refl _⟩, trivial⟩
  clear b3 hbp htp Z3 q i1 hbg hmP
  have C1 := fun v W h => WP'.out ⟨sP, lsP⟩ v d0 d1 W HP.out h
  have C1s := fun v W h => SWP'.out ⟨sP, lsP⟩ v d0 d1 W HP.out h
  have HX : Hid (((⟨sP, lsP⟩ : Wh).putB ⟨d0, d1⟩ = true → ((⟨sP, lsP⟩ : Wh).put ⟨d0, d1⟩).ok = true) ∧ ((⟨sP, lsP⟩ : Wh).put ⟨d0, d1⟩).big ≤ 1048576) := ⟨fun h => (Wh.put_is h).1, Wh.big_put HP.out⟩
  generalize (⟨sP, lsP⟩ : Wh).put ⟨d0, d1⟩ = RX at C1 C1s HX
  generalize (⟨sP, lsP⟩ : Wh).putB ⟨d0, d1⟩ = put at C1 C1s HX
  obtain ⟨sX, lsX⟩ := RX
  simp only [] at C1 C1s
  obtain ⟨mX, hmX⟩ : ∃ m, lsX.length = m := ⟨_, rfl⟩
  rw [hmX] at C1 C1s
  have C1' : Hid _ := C1
  have C1s' : Hid _ := C1s
  clear C1 C1s hmX
  have N : Hid _ := boxed_two (W := w4) #[.int .i64 0, .slice none 0 0] #[.int .i64 0, .int .i64 0] #[.int .i64 sP, .slice pp mP pq] 29 33
  have Z5 : Hid (Lies w [dTw bh th (.slice hp n hq) l, wTw bw tw (.agg #[.int .i64 s0, .slice wp m0 wq]) ⟨s0, ls0⟩, Thing.box gW #[.int .i64 s0, .slice wp m0 wq] 29, wTw bp tp (.agg #[.int .i64 sP, .slice pp mP pq]) ⟨sP, lsP⟩, Thing.box w4.heap.size #[.int .i64 sP, .slice pp mP pq] 29, Thing.box (w4.heap.size + 1) #[.int .i64 d0, .int .i64 d1] 33] ((((w4.alloc (.cells #[.int .i64 0, .slice none 0 0] 29)).alloc (.cells #[.int .i64 0, .int .i64 0] 33)).setRow w4.heap.size #[.int .i64 sP, .slice pp mP pq]).setRow (w4.heap.size + 1) #[.int .i64 d0, .int .i64 d1])) := lies_var2w Z4.out _ _ _ _ _ _
  go_wp2_with (first | (refine wpList_store_row rfl 29 (.tmp _) (.tmp _) rfl w4.heap.size #[.int .i64 sP, .slice pp mP pq] rfl rfl _ _ N.out.1 (by kernel_rfl) rfl (whOnes _ _ _ _) ?_) | (refine wpList_store_row rfl 33 (.tmp _) (.tmp _) rfl (w4.heap.size + 1) #[.int .i64 d0, .int .i64 d1] rfl rfl _ _ N.out.2 (by kernel_rfl) rfl (duOnes _ _) ?_) | (refine wpList_load_row rfl 29 (.tmp _) rfl w4.heap.size rfl _ _ _ _ (show Boxed _ _ _ _ from Z5.out.1.2.2.2.2.1) Tryz.underlying29 rfl (by kernel_rfl) ?_) | (refine wpList_load_row rfl 33 (.tmp _) rfl (w4.heap.size + 1) rfl _ _ _ _ (show Boxed _ _ _ _ from Z5.out.1.2.2.2.2.2.1) Tryz.underlying33 rfl (by kernel_rfl) ?_))
  generalize ((((w4.alloc (.cells #[.int .i64 0, .slice none 0 0] 29)).alloc (.cells #[.int .i64 0, .int .i64 0] 33)).setRow w4.heap.size #[.int .i64 sP, .slice pp mP pq]).setRow (w4.heap.size + 1) #[.int .i64 d0, .int .i64 d1]) = w5 at Z5 ⊢
  obtain ⟨gP, hgP⟩ : ∃ b, b = w4.heap.size := ⟨_, rfl⟩
  rw [← hgP] at Z5 ⊢
  obtain ⟨gd, hgd⟩ : ∃ b, b = gP + 1 := ⟨_, rfl⟩
  rw [← hgd] at Z5 ⊢
  clear N Z4 hgP hgd
  refine (C1'.out _ _ (show WhIn _ _ _ _ _ from Z5.out.1.2.2.2.1.1).at).mono ?_
  rintro e w6 ⟨⟨xp, xq, rfl, i1⟩, q⟩
  obtain ⟨bx, hbx⟩ : ∃ b, b = w5.heap.size := ⟨_, rfl⟩
  obtain ⟨tx, htx⟩ : ∃ b, b = w6.heap.size := ⟨_, rfl⟩
  have Z6 : Hid (Lies w [dTw bh th (.slice hp n hq) l, wTw bw tw (.agg #[.int .i64 s0, .slice wp m0 wq]) ⟨s0, ls0⟩, Thing.box gW #[.int .i64 s0, .slice wp m0 wq] 29, wTw bp tp (.agg #[.int .i64 sP, .slice pp mP pq]) ⟨sP, lsP⟩, Thing.box gP #[.int .i64 sP, .slice pp mP pq] 29, Thing.box gd #[.int .i64 d0, .int .i64 d1] 33, wTw bx tx (.agg #[.int .i64 sX, .slice xp mX xq]) ⟨sX, lsX⟩] w6) := by rw [hbx, htx]; exact Z5.out.more q ⟨⟨i1, Nat.le_refl _⟩, trivial⟩
  clear hbx htx Z5 q i1 C1'
  have N : Hid (Boxed (w6.alloc (.cells #[.int .i64 0, .slice none 0 0] 29)) w6.heap.size #[.int .i64 0, .slice none 0 0] 29) := Boxed.new _ _ _
  have Z7 : Hid (Lies w [dTw bh th (.slice hp n hq) l, wTw bw tw (.agg #[.int .i64 s0, .slice wp m0 wq]) ⟨s0, ls0⟩, Thing.box gW #[.int .i64 s0, .slice wp m0 wq] 29, wTw bp tp (.agg #[.int .i64 sP, .slice pp mP pq]) ⟨sP, lsP⟩, Thing.box gP #[.int .i64 sP, .slice pp mP pq] 29, Thing.box gd #[.int .i64 d0, .int .i64 d1] 33, wTw bx tx (.agg #[.int .i64 sX, .slice xp mX xq]) ⟨sX, lsX⟩, Thing.box w6.heap.size #[.int .i64 sX, .slice xp mX xq] 29] ((w6.alloc (.cells #[.int .i64 0, .slice none 0 0] 29)).setRow w6.heap.size #[.int .i64 sX, .slice xp mX xq])) := lies_varw Z6.out _ _ _
  go_wp2_with (first | (refine wpList_store_row rfl 29 (.tmp _) (.tmp _) rfl w6.heap.size #[.int .i64 sX, .slice xp mX xq] rfl rfl _ _ N.out (by kernel_rfl) rfl (whOnes _ _ _ _) ?_))
  generalize ((w6.alloc (.cells #[.int .i64 0, .slice none 0 0] 29)).setRow w6.heap.size #[.int .i64 sX, .slice xp mX xq]) = w7 at Z7 ⊢
  obtain ⟨gX, hgX⟩ : ∃ b, b = w6.heap.size := ⟨_, rfl⟩
  rw [← hgX] at Z7 ⊢
  clear N Z6 hgX
  have b3 : Hid (Below w.heap.size w w7) := Z7.out.2
  refine (dDrawWheelTake hc _ b3).mono ?_
  rintro e w8 ⟨⟨v, ⟨sT, lsT⟩, rfl, i1, hbg⟩, q⟩
  obtain ⟨tp1, tq1, rfl⟩ := i1.cells
  simp only [] at i1 ⊢
  obtain ⟨mT, hm⟩ : ∃ m, lsT.length = m := ⟨_, rfl⟩
  rw [hm] at i1 ⊢
  have HT1 : Hid ((⟨sT, lsT⟩ : Wh).big ≤ 1048576) := by show (⟨sT, lsT⟩ : Wh).big ≤ 1048576; omega
  obtain ⟨bt, hbt⟩ : ∃ b, b = w7.heap.size := ⟨_, rfl⟩
  obtain ⟨tt, htt⟩ : ∃ b, b = w8.heap.size := ⟨_, rfl⟩
  have Z8 : Hid (Lies w [dTw bh th (.slice hp n hq) l, wTw bw tw (.agg #[.int .i64 s0, .slice wp m0 wq]) ⟨s0, ls0⟩, Thing.box gW #[.int .i64 s0, .slice wp m0 wq] 29, wTw bp tp (.agg #[.int .i64 sP, .slice pp mP pq]) ⟨sP, lsP⟩, Thing.box gP #[.int .i64 sP, .slice pp mP pq] 29, Thing.box gd #[.int .i64 d0, .int .i64 d1] 33, wTw bx tx (.agg #[.int .i64 sX, .slice xp mX xq]) ⟨sX, lsX⟩, Thing.box gX #[.int .i64 sX, .slice xp mX xq] 29, wTw bt tt (.agg #[.int .i64 sT, .slice tp1 mT tq1]) ⟨sT, lsT⟩] w8) := by rw [hbt, htt]; exact Z7.out.more q ⟨⟨i1, Nat.le_refl _⟩, trivial⟩
  have HT1l : Hid (lsT.length = mT) := hm
  clear b3 hbt htt Z7 q i1 hbg hm
  have C2 := fun v W h => WT'.out ⟨sT, lsT⟩ v W HT1.out h
  have C2s := fun v W h => SWT'.out ⟨sT, lsT⟩ v W HT1.out h
  have HY : Hid (((⟨sT, lsT⟩ : Wh).takeB = true → (⟨sT, lsT⟩ : Wh).take.ok = true) ∧ (⟨sT, lsT⟩ : Wh).take.big ≤ 1048576) := ⟨fun h => (Wh.take_is h).1, Wh.big_take HT1.out⟩
  generalize (⟨sT, lsT⟩ : Wh).take = RY at C2 C2s HY
  generalize (⟨sT, lsT⟩ : Wh).takeB = there at C2 C2s HY
  generalize (⟨sT, lsT⟩ : Wh).takeD = f at C2 C2s
  obtain ⟨sY, lsY⟩ := RY
  obtain ⟨f0, f1⟩ := f
  simp only [] at C2 C2s
  obtain ⟨mY, hmY⟩ : ∃ m, lsY.length = m := ⟨_, rfl⟩
  rw [hmY] at C2 C2s
  have C2' : Hid _ := C2
  have C2s' : Hid _ := C2s
  clear C2 C2s hmY
  have N : Hid (Boxed (w8.alloc (.cells #[.int .i64 0, .slice none 0 0] 29)) w8.heap.size #[.int .i64 0, .slice none 0 0] 29) := Boxed.new _ _ _
  have Z9 : Hid (Lies w [dTw bh th (.slice hp n hq) l, wTw bw tw (.agg #[.int .i64 s0, .slice wp m0 wq]) ⟨s0, ls0⟩, Thing.box gW #[.int .i64 s0, .slice wp m0 wq] 29, wTw bp tp (.agg #[.int .i64 sP, .slice pp mP pq]) ⟨sP, lsP⟩, Thing.box gP #[.int .i64 sP, .slice pp mP pq] 29, Thing.box gd #[.int .i64 d0, .int .i64 d1] 33, wTw bx tx (.agg #[.int .i64 sX, .slice xp mX xq]) ⟨sX, lsX⟩, Thing.box gX #[.int .i64 sX, .slice xp mX xq] 29, wTw bt tt (.agg #[.int .i64 sT, .slice tp1 mT tq1]) ⟨sT, lsT⟩, Thing.box w8.heap.size #[.int .i64 sT, .slice tp1 mT tq1] 29] ((w8.alloc (.cells #[.int .i64 0, .slice none 0 0] 29)).setRow w8.heap.size #[.int .i64 sT, .slice tp1 mT tq1])) := lies_varw Z8.out _ _ _
  go_wp2_with (first | (refine wpList_store_row rfl 29 (.tmp _) (.tmp _) rfl w8.heap.size #[.int .i64 sT, .slice tp1 mT tq1] rfl rfl _ _ N.out (by kernel_rfl) rfl (whOnes _ _ _ _) ?_) | (refine wpList_load_row rfl 29 (.tmp _) rfl w8.heap.size rfl _ _ _ _ (show Boxed _ _ _ _ from Z9.out.1.2.2.2.2.2.2.2.2.2.1) Tryz.underlying29 rfl (by kernel_rfl) ?_))
  generalize ((w8.alloc (.cells #[.int .i64 0, .slice none 0 0] 29)).setRow w8.heap.size #[.int .i64 sT, .slice tp1 mT tq1]) = w9 at Z9 ⊢
  obtain ⟨gT, hgT⟩ : ∃ b, b = w8.heap.size := ⟨_, rfl⟩
  rw [← hgT] at Z9 ⊢
  clear N Z8 hgT
  refine (C2'.out _ _ (show WhIn _ _ _ _ _ from Z9.out.1.2.2.2.2.2.2.2.2.1.1).at).mono ?_
  rintro e w10 ⟨⟨yp, yq, rfl, i1⟩, q⟩
  obtain ⟨by1, hby1⟩ : ∃ b, b = w9.heap.size := ⟨_, rfl⟩
  obtain ⟨ty1, hty1⟩ : ∃ b, b = w10.heap.size := ⟨_, rfl⟩
  have Z10 : Hid (Lies w [dTw bh th (.slice hp n hq) l, wTw bw tw (.agg #[.int .i64 s0, .slice wp m0 wq]) ⟨s0, ls0⟩, Thing.box gW #[.int .i64 s0, .slice wp m0 wq] 29, wTw bp tp (.agg #[.int .i64 sP, .slice pp mP pq]) ⟨sP, lsP⟩, Thing.box gP #[.int .i64 sP, .slice pp mP pq] 29, Thing.box gd #[.int .i64 d0, .int .i64 d1] 33, wTw bx tx (.agg #[.int .i64 sX, .slice xp mX xq]) ⟨sX, lsX⟩, Thing.box gX #[.int .i64 sX, .slice xp mX xq] 29, wTw bt tt (.agg #[.int .i64 sT, .slice tp1 mT tq1]) ⟨sT, lsT⟩, Thing.box gT #[.int .i64 sT, .slice tp1 mT tq1] 29, wTw by1 ty1 (.agg #[.int .i64 sY, .slice yp mY yq]) ⟨sY, lsY⟩] w10) := by rw [hby1, hty1]; exact Z9.out.more q ⟨⟨i1, Nat.le_refl _⟩, trivial⟩
  clear hby1 hty1 Z9 q i1 C2'
  have N : Hid _ := boxed_two (W := w10) #[.int .i64 0, .slice none 0 0] #[.int .i64 0, .int .i64 0] #[.int .i64 sY, .slice yp mY yq] 29 33
  have Z11 : Hid (Lies w [dTw bh th (.slice hp n hq) l, wTw bw tw (.agg #[.int .i64 s0, .slice wp m0 wq]) ⟨s0, ls0⟩, Thing.box gW #[.int .i64 s0, .slice wp m0 wq] 29, wTw bp tp (.agg #[.int .i64 sP, .slice pp mP pq]) ⟨sP, lsP⟩, Thing.box gP #[.int .i64 sP, .slice pp mP pq] 29, Thing.box gd #[.int .i64 d0, .int .i64 d1] 33, wTw bx tx (.agg #[.int .i64 sX, .slice xp mX xq]) ⟨sX, lsX⟩, Thing.box gX #[.int .i64 sX, .slice xp mX xq] 29, wTw bt tt (.agg #[.int .i64 sT, .slice tp1 mT tq1]) ⟨sT, lsT⟩, Thing.box gT #[.int .i64 sT, .slice tp1 mT tq1] 29, wTw by1 ty1 (.agg #[.int .i64 sY, .slice yp mY yq]) ⟨sY, lsY⟩, Thing.box w10.heap.size #[.int .i64 sY, .slice yp mY yq] 29, Thing.box (w10.heap.size + 1) #[.int .i64 f0, .int .i64 f1] 33] ((((w10.alloc (.cells #[.int .i64 0, .slice none 0 0] 29)).alloc (.cells #[.int .i64 0, .int .i64 0] 33)).setRow w10.heap.size #[.int .i64 sY, .slice yp mY yq]).setRow (w10.heap.size + 1) #[.int .i64 f0, .int .i64 f1])) := lies_var2w Z10.out _ _ _ _ _ _
  go_wp2_with (first | (refine wpList_store_row rfl 29 (.tmp _) (.tmp _) rfl w10.heap.size #[.int .i64 sY, .slice yp mY yq] rfl rfl _ _ N.out.1 (by kernel_rfl) rfl (whOnes _ _ _ _) ?_) | (refine wpList_store_row rfl 33 (.tmp _) (.tmp _) rfl (w10.heap.size + 1) #[.int .i64 f0, .int .i64 f1] rfl rfl _ _ N.out.2 (by kernel_rfl) rfl (duOnes _ _) ?_))
  generalize ((((w10.alloc (.cells #[.int .i64 0, .slice none 0 0] 29)).alloc (.cells #[.int .i64 0, .int .i64 0] 33)).setRow w10.heap.size #[.int .i64 sY, .slice yp mY yq]).setRow (w10.heap.size + 1) #[.int .i64 f0, .int .i64 f1]) = w11 at Z11 ⊢
  obtain ⟨gY, hgY⟩ : ∃ b, b = w10.heap.size := ⟨_, rfl⟩
  rw [← hgY] at Z11 ⊢
  obtain ⟨gf, hgf⟩ : ∃ b, b = gY + 1 := ⟨_, rfl⟩
  rw [← hgf] at Z11 ⊢
  clear N Z10 hgY hgf
  have b3 : Hid (Below w.heap.size w w11) := Z11.out.2
  refine (dDrawToHeap hc _ b3).mono ?_
  rintro e w12 ⟨⟨v, ⟨sB, lsB⟩, rfl, i1, hbg⟩, q⟩
  obtain ⟨bp1, bq1, rfl⟩ := i1.cells
  simp only [] at i1 ⊢
  obtain ⟨mB, hm⟩ : ∃ m, lsB.length = m := ⟨_, rfl⟩
  rw [hm] at i1 ⊢
  have HB1 : Hid ((⟨sB, lsB⟩ : Wh).big ≤ 1048576) := by show (⟨sB, lsB⟩ : Wh).big ≤ 1048576; omega
  obtain ⟨bb, hbb⟩ : ∃ b, b = w11.heap.size := ⟨_, rfl⟩
  obtain ⟨tb, htb⟩ : ∃ b, b = w12.heap.size := ⟨_, rfl⟩
  have Z12 : Hid (Lies w [dTw bh th (.slice hp n hq) l, wTw bw tw (.agg #[.int .i64 s0, .slice wp m0 wq]) ⟨s0, ls0⟩, Thing.box gW #[.int .i64 s0, .slice wp m0 wq] 29, wTw bp tp (.agg #[.int .i64 sP, .slice pp mP pq]) ⟨sP, lsP⟩, Thing.box gP #[.int .i64 sP, .slice pp mP pq] 29, Thing.box gd #[.int .i64 d0, .int .i64 d1] 33, wTw bx tx (.agg #[.int .i64 sX, .slice xp mX xq]) ⟨sX, lsX⟩, Thing.box gX #[.int .i64 sX, .slice xp mX xq] 29, wTw bt tt (.agg #[.int .i64 sT, .slice tp1 mT tq1]) ⟨sT, lsT⟩, Thing.box gT #[.int .i64 sT, .slice tp1 mT tq1] 29, wTw by1 ty1 (.agg #[.int .i64 sY, .slice yp mY yq]) ⟨sY, lsY⟩, Thing.box gY #[.int .i64 sY, .slice yp mY yq] 29, Thing.box gf #[.int .i64 f0, .int .i64 f1] 33, wTw bb tb (.agg #[.int .i64 sB, .slice bp1 mB bq1]) ⟨sB, lsB⟩] w12) := by rw [hbb, htb]; exact Z11.out.more q ⟨⟨i1, Nat.le_refl _⟩, trivial⟩
  have HB1l : Hid (lsB.length = mB) := hm
  clear b3 hbb htb Z11 q i1 hbg hm
  have C3 := fun v W h => TH'.out ⟨sB, lsB⟩ v W HB1.out h
  have C3s := fun v W h => STH'.out ⟨sB, lsB⟩ v W HB1.out h
  have HE : Hid (((⟨sB, lsB⟩ : Wh).ok = true → hok (toH ⟨sB, lsB⟩) = true ∧ toWB (toH ⟨sB, lsB⟩) sB = true ∧ toW (toH ⟨sB, lsB⟩) sB = ⟨sB, lsB⟩) ∧ (toH ⟨sB, lsB⟩).length ≤ 1048576) := ⟨fun h => ⟨(toH_is h).1, (toW_back h).1, (toW_back h).2⟩, toH_big HB1.out⟩
  generalize toH ⟨sB, lsB⟩ = E at C3 C3s HE
  generalize (⟨sB, lsB⟩ : Wh).ok = fine at C3 C3s HE
  obtain ⟨nE, hnE⟩ : ∃ m, E.length = m := ⟨_, rfl⟩
  rw [hnE] at C3 C3s
  have HnE : Hid (E.length = nE) := hnE
  have C3' : Hid _ := C3
  have C3s' : Hid _ := C3s
  clear C3 C3s hnE
  have N : Hid (Boxed (w12.alloc (.cells #[.int .i64 0, .slice none 0 0] 29)) w12.heap.size #[.int .i64 0, .slice none 0 0] 29) := Boxed.new _ _ _
  have Z13 : Hid (Lies w [dTw bh th (.slice hp n hq) l, wTw bw tw (.agg #[.int .i64 s0, .slice wp m0 wq]) ⟨s0, ls0⟩, Thing.box gW #[.int .i64 s0, .slice wp m0 wq] 29, wTw bp tp (.agg #[.int .i64 sP, .slice pp mP pq]) ⟨sP, lsP⟩, Thing.box gP #[.int .i64 sP, .slice pp mP pq] 29, Thing.box gd #[.int .i64 d0, .int .i64 d1] 33, wTw bx tx (.agg #[.int .i64 sX, .slice xp mX xq]) ⟨sX, lsX⟩, Thing.box gX #[.int .i64 sX, .slice xp mX xq] 29, wTw bt tt (.agg #[.int .i64 sT, .slice tp1 mT tq1]) ⟨sT, lsT⟩, Thing.box gT #[.int .i64 sT, .slice tp1 mT tq1] 29, wTw by1 ty1 (.agg #[.int .i64 sY, .slice yp mY yq]) ⟨sY, lsY⟩, Thing.box gY #[.int .i64 sY, .slice yp mY yq] 29, Thing.box gf #[.int .i64 f0, .int .i64 f1] 33, wTw bb tb (.agg #[.int .i64 sB, .slice bp1 mB bq1]) ⟨sB, lsB⟩, Thing.box w12.heap.size #[.int .i64 sB, .slice bp1 mB bq1] 29] ((w12.alloc (.cells #[.int .i64 0, .slice none 0 0] 29)).setRow w12.heap.size #[.int .i64 sB, .slice bp1 mB bq1])) := lies_varw Z12.out _ _ _
  go_wp2_with (first | (refine wpList_store_row rfl 29 (.tmp _) (.tmp _) rfl w12.heap.size #[.int .i64 sB, .slice bp1 mB bq1] rfl rfl _ _ N.out (by kernel_rfl) rfl (whOnes _ _ _ _) ?_) | (refine wpList_load_row rfl 29 (.tmp _) rfl w12.heap.size rfl _ _ _ _ (show Boxed _ _ _ _ from Z13.out.1.2.2.2.2.2.2.2.2.2.2.2.2.2.2.1) Tryz.underlying29 rfl (by kernel_rfl) ?_))
  generalize ((w12.alloc (.cells #[.int .i64 0, .slice none 0 0] 29)).setRow w12.heap.size #[.int .i64 sB, .slice bp1 mB bq1]) = w13 at Z13 ⊢
  obtain ⟨gB, hgB⟩ : ∃ b, b = w12.heap.size := ⟨_, rfl⟩
  rw [← hgB] at Z13 ⊢
  clear N Z12 hgB
  refine (C3'.out _ _ (show WhIn _ _ _ _ _ from Z13.out.1.2.2.2.2.2.2.2.2.2.2.2.2.2.1.1).at).mono ?_
  rintro e w14 ⟨⟨ep, eq, rfl, i1⟩, q⟩
  obtain ⟨be, hbe⟩ : ∃ b, b = w13.heap.size := ⟨_, rfl⟩
  obtain ⟨te, hte⟩ : ∃ b, b = w14.heap.size := ⟨_, rfl⟩
  have Z14 : Hid (Lies w [dTw bh th (.slice hp n hq) l, wTw bw tw (.agg #[.int .i64 s0, .slice wp m0 wq]) ⟨s0, ls0⟩, Thing.box gW #[.int .i64 s0, .slice wp m0 wq] 29, wTw bp tp (.agg #[.int .i64 sP, .slice pp mP pq]) ⟨sP, lsP⟩, Thing.box gP #[.int .i64 sP, .slice pp mP pq] 29, Thing.box gd #[.int .i64 d0, .int .i64 d1] 33, wTw bx tx (.agg #[.int .i64 sX, .slice xp mX xq]) ⟨sX, lsX⟩, Thing.box gX #[.int .i64 sX, .slice xp mX xq] 29, wTw bt tt (.agg #[.int .i64 sT, .slice tp1 mT tq1]) ⟨sT, lsT⟩, Thing.box gT #[.int .i64 sT, .slice tp1 mT tq1] 29, wTw by1 ty1 (.agg #[.int .i64 sY, .slice yp mY yq]) ⟨sY, lsY⟩, Thing.box gY #[.int .i64 sY, .slice yp mY yq] 29, Thing.box gf #[.int .i64 f0, .int .i64 f1] 33, wTw bb tb (.agg #[.int .i64 sB, .slice bp1 mB bq1]) ⟨sB, lsB⟩, Thing.box gB #[.int .i64 sB, .slice bp1 mB bq1] 29, dTw be te (.slice ep nE eq) E] w14) := by rw [hbe, hte]; exact Z13.out.more q ⟨⟨i1, Nat.le_refl _⟩, trivial⟩
  clear hbe hte Z13 q i1 C3'
  go_wp2_with fail
  refine (C0s'.out _ _ (show DusW _ _ _ _ _ from Z14.out.1.1.1).at).mono ?_
  rintro e w15 ⟨⟨zp, zq, rfl, i1⟩, q⟩
  obtain ⟨bz, hbz⟩ : ∃ b, b = w14.heap.size := ⟨_, rfl⟩
  obtain ⟨tz, htz⟩ : ∃ b, b = w15.heap.size := ⟨_, rfl⟩
  have Z15 : Hid (Lies w [dTw bh th (.slice hp n hq) l, wTw bw tw (.agg #[.int .i64 s0, .slice wp m0 wq]) ⟨s0, ls0⟩, Thing.box gW #[.int .i64 s0, .slice wp m0 wq] 29, wTw bp tp (.agg #[.int .i64 sP, .slice pp mP pq]) ⟨sP, lsP⟩, Thing.box gP #[.int .i64 sP, .slice pp mP pq] 29, Thing.box gd #[.int .i64 d0, .int .i64 d1] 33, wTw bx tx (.agg #[.int .i64 sX, .slice xp mX xq]) ⟨sX, lsX⟩, Thing.box gX #[.int .i64 sX, .slice xp mX xq] 29, wTw bt tt (.agg #[.int .i64 sT, .slice tp1 mT tq1]) ⟨sT, lsT⟩, Thing.box gT #[.int .i64 sT, .slice tp1 mT tq1] 29, wTw by1 ty1 (.agg #[.int .i64 sY, .slice yp mY yq]) ⟨sY, lsY⟩, Thing.box gY #[.int .i64 sY, .slice yp mY yq] 29, Thing.box gf #[.int .i64 f0, .int .i64 f1] 33, wTw bb tb (.agg #[.int .i64 sB, .slice bp1 mB bq1]) ⟨sB, lsB⟩, Thing.box gB #[.int .i64 sB, .slice bp1 mB bq1] 29, dTw be te (.slice ep nE eq) E, wTw bz tz (.agg #[.int .i64 s0, .slice zp m0 zq]) ⟨s0, ls0⟩] w15) := by rw [hbz, htz]; exact Z14.out.more q ⟨⟨i1, Nat.le_refl _⟩, trivial⟩
  clear hbz htz Z14 q i1 C0s'
  have N : Hid (Boxed (w15.alloc (.cells #[.int .i64 0, .slice none 0 0] 29)) w15.heap.size #[.int .i64 0, .slice none 0 0] 29) := Boxed.new _ _ _
  have Z16 : Hid (Lies w [dTw bh th (.slice hp n hq) l, wTw bw tw (.agg #[.int .i64 s0, .slice wp m0 wq]) ⟨s0, ls0⟩, Thing.box gW #[.int .i64 s0, .slice wp m0 wq] 29, wTw bp tp (.agg #[.int .i64 sP, .slice pp mP pq]) ⟨sP, lsP⟩, Thing.box gP #[.int .i64 sP, .slice pp mP pq] 29, Thing.box gd #[.int .i64 d0, .int .i64 d1] 33, wTw bx tx (.agg #[.int .i64 sX, .slice xp mX xq]) ⟨sX, lsX⟩, Thing.box gX #[.int .i64 sX, .slice xp mX xq] 29, wTw bt tt (.agg #[.int .i64 sT, .slice tp1 mT tq1]) ⟨sT, lsT⟩, Thing.box gT #[.int .i64 sT, .slice tp1 mT tq1] 29, wTw by1 ty1 (.agg #[.int .i64 sY, .slice yp mY yq]) ⟨sY, lsY⟩, Thing.box gY #[.int .i64 sY, .slice yp mY yq] 29, Thing.box gf #[.int .i64 f0, .int .i64 f1] 33, wTw bb tb (.agg #[.int .i64 sB, .slice bp1 mB bq1]) ⟨sB, lsB⟩, Thing.box gB #[.int .i64 sB, .slice bp1 mB bq1] 29, dTw be te (.slice ep nE eq) E, wTw bz tz (.agg #[.int .i64 s0, .slice zp m0 zq]) ⟨s0, ls0⟩, Thing.box w15.heap.size #[.int .i64 s0, .slice zp m0 zq] 29] ((w15.alloc (.cells #[.int .i64 0, .slice none 0 0] 29)).setRow w15.heap.size #[.int .i64 s0, .slice zp m0 zq])) := lies_varw Z15.out _ _ _
  go_upto_region 12 with (refine wpList_store_row rfl 29 (.tmp _) (.tmp _) rfl w15.heap.size #[.int .i64 s0, .slice zp m0 zq] rfl rfl _ _ N.out (by kernel_rfl) rfl (whOnes _ _ _ _) ?_)
  generalize ((w15.alloc (.cells #[.int .i64 0, .slice none 0 0] 29)).setRow w15.heap.size #[.int .i64 s0, .slice zp m0 zq]) = w16 at Z16 ⊢
  obtain ⟨gZ, hgZ⟩ : ∃ b, b = w15.heap.size := ⟨_, rfl⟩
  rw [← hgZ] at Z16 ⊢
  clear N Z15 hgZ
  have L1 : Hid (∀ x, Below w16.heap.size w16 x → Calls Tryz.prog 14 #[.agg #[.int .i64 s0, .slice wp m0 wq], .agg #[.int .i64 s0, .slice zp m0 zq]] x fun e w' => e = .returned (.bool true) ∧ Below x.heap.size x w') := fun x q => LW'.out ⟨s0, ls0⟩ _ _ x HR0.out.2 (show WhIn _ _ _ _ _ from (Z16.out.below q).1.2.1.1).at (show WhIn _ _ _ _ _ from (Z16.out.below q).1.2.2.2.2.2.2.2.2.2.2.2.2.2.2.2.2.1.1).at
  obtain ⟨kP, hkP⟩ : ∃ k, (⟨sP, lsP⟩ : Wh).ok = k := ⟨_, rfl⟩
  have L2 : Hid (∀ x, Below w16.heap.size w16 x → Calls Tryz.prog 15 #[.agg #[.int .i64 sP, .slice pp mP pq]] x fun e w' => e = .returned (.bool kP) ∧ Below x.heap.size x w') := fun x q => by rw [← hkP]; exact WK'.out ⟨sP, lsP⟩ _ x HP.out (show WhIn _ _ _ _ _ from (Z16.out.below q).1.2.2.2.1.1).at
  have L3 : Hid (∀ x, Below w16.heap.size w16 x → Calls Tryz.prog 16 #[.agg #[.int .i64 sP, .slice pp mP pq]] x fun e w' => e = .returned (.bool kP) ∧ Below x.heap.size x w') := fun x q => by rw [← hkP]; exact SWK'.out ⟨sP, lsP⟩ _ x HP.out (show WhIn _ _ _ _ _ from (Z16.out.below q).1.2.2.2.1.1).at
  clear hkP
  haveI : Nonempty (BelW w16.heap.size w16) := ⟨⟨w16, Below.refl _ _⟩⟩
  have cW0 : ∀ p : BelW w16.heap.size w16, p.w'.cell? ⟨gW, 0, none⟩ = some (.int .i64 s0) := fun p => Boxed.cell (show Boxed _ _ _ _ from (Z16.out.below p.h).1.2.2.1) 0 rfl
  have cW1 : ∀ p : BelW w16.heap.size w16, p.w'.cell? ⟨gW, 1, none⟩ = some (.slice wp m0 wq) := fun p => Boxed.cell (show Boxed _ _ _ _ from (Z16.out.below p.h).1.2.2.1) 1 rfl
  have cZ0 : ∀ p : BelW w16.heap.size w16, p.w'.cell? ⟨gZ, 0, none⟩ = some (.int .i64 s0) := fun p => Boxed.cell (show Boxed _ _ _ _ from (Z16.out.below p.h).1.2.2.2.2.2.2.2.2.2.2.2.2.2.2.2.2.2.1) 0 rfl
  have cZ1 : ∀ p : BelW w16.heap.size w16, p.w'.cell? ⟨gZ, 1, none⟩ = some (.slice zp m0 zq) := fun p => Boxed.cell (show Boxed _ _ _ _ from (Z16.out.below p.h).1.2.2.2.2.2.2.2.2.2.2.2.2.2.2.2.2.2.1) 1 rfl
  have cP0 : ∀ p : BelW w16.heap.size w16, p.w'.cell? ⟨gP, 0, none⟩ = some (.int .i64 sP) := fun p => Boxed.cell (show Boxed _ _ _ _ from (Z16.out.below p.h).1.2.2.2.2.1) 0 rfl
  have cP1 : ∀ p : BelW w16.heap.size w16, p.w'.cell? ⟨gP, 1, none⟩ = some (.slice pp mP pq) := fun p => Boxed.cell (show Boxed _ _ _ _ from (Z16.out.below p.h).1.2.2.2.2.1) 1 rfl
  refine region_below w16.heap.size (by kernel_rfl) (by kernel_rfl) ?_
  repeat (go_big_quiet_step (first | (go_at_call 14; with_reducible refine quiet_below (Nat.le_refl _) (L1.out _ (BelW.h _))) | (go_at_call 15; with_reducible refine quiet_below (Nat.le_refl _) (L2.out _ (BelW.h _))) | (go_at_call 16; with_reducible refine quiet_below (Nat.le_refl _) (L3.out _ (BelW.h _)))))
  refine wpQuiet_nil ?_
  intro w17 hx
  have Z17 : Hid (Lies w [dTw bh th (.slice hp n hq) l, wTw bw tw (.agg #[.int .i64 s0, .slice wp m0 wq]) ⟨s0, ls0⟩, Thing.box gW #[.int .i64 s0, .slice wp m0 wq] 29, wTw bp tp (.agg #[.int .i64 sP, .slice pp mP pq]) ⟨sP, lsP⟩, Thing.box gP #[.int .i64 sP, .slice pp mP pq] 29, Thing.box gd #[.int .i64 d0, .int .i64 d1] 33, wTw bx tx (.agg #[.int .i64 sX, .slice xp mX xq]) ⟨sX, lsX⟩, Thing.box gX #[.int .i64 sX, .slice xp mX xq] 29, wTw bt tt (.agg #[.int .i64 sT, .slice tp1 mT tq1]) ⟨sT, lsT⟩, Thing.box gT #[.int .i64 sT, .slice tp1 mT tq1] 29, wTw by1 ty1 (.agg #[.int .i64 sY, .slice yp mY yq]) ⟨sY, lsY⟩, Thing.box gY #[.int .i64 sY, .slice yp mY yq] 29, Thing.box gf #[.int .i64 f0, .int .i64 f1] 33, wTw bb tb (.agg #[.int .i64 sB, .slice bp1 mB bq1]) ⟨sB, lsB⟩, Thing.box gB #[.int .i64 sB, .slice bp1 mB bq1] 29, dTw be te (.slice ep nE eq) E, wTw bz tz (.agg #[.int .i64 s0, .slice zp m0 zq]) ⟨s0, ls0⟩, Thing.box gZ #[.int .i64 s0, .slice zp m0 zq] 29] w17) := Z16.out.below (BelW.out hx)
  clear hx Z16 L1 L2 L3 cW0 cW1 cZ0 cZ1 cP0 cP1
  go_wp2_with (first | (refine wpList_load_row rfl 29 (.tmp _) rfl gP rfl _ _ _ _ (show Boxed _ _ _ _ from Z17.out.1.2.2.2.2.1) Tryz.underlying29 rfl (by kernel_rfl) ?_) | (refine wpList_load_row rfl 33 (.tmp _) rfl gd rfl _ _ _ _ (show Boxed _ _ _ _ from Z17.out.1.2.2.2.2.2.1) Tryz.underlying33 rfl (by kernel_rfl) ?_))
  refine (C1s'.out _ _ (show WhIn _ _ _ _ _ from Z17.out.1.2.2.2.1.1).at).mono ?_
  rintro e w18 ⟨⟨up, uq, rfl, i1⟩, q⟩
  obtain ⟨bu, hbu⟩ : ∃ b, b = w17.heap.size := ⟨_, rfl⟩
  obtain ⟨tu, htu⟩ : ∃ b, b = w18.heap.size := ⟨_, rfl⟩
  have Z18 : Hid (Lies w [dTw bh th (.slice hp n hq) l, wTw bw tw (.agg #[.int .i64 s0, .slice wp m0 wq]) ⟨s0, ls0⟩, Thing.box gW #[.int .i64 s0, .slice wp m0 wq] 29, wTw bp tp (.agg #[.int .i64 sP, .slice pp mP pq]) ⟨sP, lsP⟩, Thing.box gP #[.int .i64 sP, .slice pp mP pq] 29, Thing.box gd #[.int .i64 d0, .int .i64 d1] 33, wTw bx tx (.agg #[.int .i64 sX, .slice xp mX xq]) ⟨sX, lsX⟩, Thing.box gX #[.int .i64 sX, .slice xp mX xq] 29, wTw bt tt (.agg #[.int .i64 sT, .slice tp1 mT tq1]) ⟨sT, lsT⟩, Thing.box gT #[.int .i64 sT, .slice tp1 mT tq1] 29, wTw by1 ty1 (.agg #[.int .i64 sY, .slice yp mY yq]) ⟨sY, lsY⟩, Thing.box gY #[.int .i64 sY, .slice yp mY yq] 29, Thing.box gf #[.int .i64 f0, .int .i64 f1] 33, wTw bb tb (.agg #[.int .i64 sB, .slice bp1 mB bq1]) ⟨sB, lsB⟩, Thing.box gB #[.int .i64 sB, .slice bp1 mB bq1] 29, dTw be te (.slice ep nE eq) E, wTw bz tz (.agg #[.int .i64 s0, .slice zp m0 zq]) ⟨s0, ls0⟩, Thing.box gZ #[.int .i64 s0, .slice zp m0 zq] 29, wTw bu tu (.agg #[.int .i64 sX, .slice up mX uq]) ⟨sX, lsX⟩] w18) := by rw [hbu, htu]; exact Z17.out.more q ⟨⟨i1, Nat.le_refl _⟩, trivial⟩
  clear hbu htu Z17 q i1 C1s'
  have N : Hid (Boxed (w18.alloc (.cells #[.int .i64 0, .slice none 0 0] 29)) w18.heap.size #[.int .i64 0, .slice none 0 0] 29) := Boxed.new _ _ _
  have Z19 : Hid (Lies w [dTw bh th (.slice hp n hq) l, wTw bw tw (.agg #[.int .i64 s0, .slice wp m0 wq]) ⟨s0, ls0⟩, Thing.box gW #[.int .i64 s0, .slice wp m0 wq] 29, wTw bp tp (.agg #[.int .i64 sP, .slice pp mP pq]) ⟨sP, lsP⟩, Thing.box gP #[.int .i64 sP, .slice pp mP pq] 29, Thing.box gd #[.int .i64 d0, .int .i64 d1] 33, wTw bx tx (.agg #[.int .i64 sX, .slice xp mX xq]) ⟨sX, lsX⟩, Thing.box gX #[.int .i64 sX, .slice xp mX xq] 29, wTw bt tt (.agg #[.int .i64 sT, .slice tp1 mT tq1]) ⟨sT, lsT⟩, Thing.box gT #[.int .i64 sT, .slice tp1 mT tq1] 29, wTw by1 ty1 (.agg #[.int .i64 sY, .slice yp mY yq]) ⟨sY, lsY⟩, Thing.box gY #[.int .i64 sY, .slice yp mY yq] 29, Thing.box gf #[.int .i64 f0, .int .i64 f1] 33, wTw bb tb (.agg #[.int .i64 sB, .slice bp1 mB bq1]) ⟨sB, lsB⟩, Thing.box gB #[.int .i64 sB, .slice bp1 mB bq1] 29, dTw be te (.slice ep nE eq) E, wTw bz tz (.agg #[.int .i64 s0, .slice zp m0 zq]) ⟨s0, ls0⟩, Thing.box gZ #[.int .i64 s0, .slice zp m0 zq] 29, wTw bu tu (.agg #[.int .i64 sX, .slice up mX uq]) ⟨sX, lsX⟩, Thing.box w18.heap.size #[.int .i64 sX, .slice up mX uq] 29] ((w18.alloc (.cells #[.int .i64 0, .slice none 0 0] 29)).setRow w18.heap.size #[.int .i64 sX, .slice up mX uq])) := lies_varw Z18.out _ _ _
  go_upto_region 15 with (first | (refine wpList_store_row rfl 29 (.tmp _) (.tmp _) rfl w18.heap.size #[.int .i64 sX, .slice up mX uq] rfl rfl _ _ N.out (by kernel_rfl) rfl (whOnes _ _ _ _) ?_))
  generalize ((w18.alloc (.cells #[.int .i64 0, .slice none 0 0] 29)).setRow w18.heap.size #[.int .i64 sX, .slice up mX uq]) = w19 at Z19 ⊢
  obtain ⟨gU, hgU⟩ : ∃ b, b = w18.heap.size := ⟨_, rfl⟩
  rw [← hgU] at Z19 ⊢
  clear N Z18 hgU
  go_cut [118] (fun s wc => Hid (s = .bool false ∧ Lies w [dTw bh th (.slice hp n hq) l, wTw bw tw (.agg #[.int .i64 s0, .slice wp m0 wq]) ⟨s0, ls0⟩, Thing.box gW #[.int .i64 s0, .slice wp m0 wq] 29, wTw bp tp (.agg #[.int .i64 sP, .slice pp mP pq]) ⟨sP, lsP⟩, Thing.box gP #[.int .i64 sP, .slice pp mP pq] 29, Thing.box gd #[.int .i64 d0, .int .i64 d1] 33, wTw bx tx (.agg #[.int .i64 sX, .slice xp mX xq]) ⟨sX, lsX⟩, Thing.box gX #[.int .i64 sX, .slice xp mX xq] 29, wTw bt tt (.agg #[.int .i64 sT, .slice tp1 mT tq1]) ⟨sT, lsT⟩, Thing.box gT #[.int .i64 sT, .slice tp1 mT tq1] 29, wTw by1 ty1 (.agg #[.int .i64 sY, .slice yp mY yq]) ⟨sY, lsY⟩, Thing.box gY #[.int .i64 sY, .slice yp mY yq] 29, Thing.box gf #[.int .i64 f0, .int .i64 f1] 33, wTw bb tb (.agg #[.int .i64 sB, .slice bp1 mB bq1]) ⟨sB, lsB⟩, Thing.box gB #[.int .i64 sB, .slice bp1 mB bq1] 29, dTw be te (.slice ep nE eq) E, wTw bz tz (.agg #[.int .i64 s0, .slice zp m0 zq]) ⟨s0, ls0⟩, Thing.box gZ #[.int .i64 s0, .slice zp m0 zq] 29, wTw bu tu (.agg #[.int .i64 sX, .slice up mX uq]) ⟨sX, lsX⟩, Thing.box gU #[.int .i64 sX, .slice up mX uq] 29] wc))
  case first =>
    have cX0 : w19.cell? ⟨gX, 0, none⟩ = some (.int .i64 sX) := Boxed.cell (show Boxed _ _ _ _ from Z19.out.1.2.2.2.2.2.2.2.1) 0 rfl
    have cX1 : w19.cell? ⟨gX, 1, none⟩ = some (.slice xp mX xq) := Boxed.cell (show Boxed _ _ _ _ from Z19.out.1.2.2.2.2.2.2.2.1) 1 rfl
    have cU0 : w19.cell? ⟨gU, 0, none⟩ = some (.int .i64 sX) := Boxed.cell (show Boxed _ _ _ _ from Z19.out.1.2.2.2.2.2.2.2.2.2.2.2.2.2.2.2.2.2.2.2.1) 0 rfl
    have cU1 : w19.cell? ⟨gU, 1, none⟩ = some (.slice up mX uq) := Boxed.cell (show Boxed _ _ _ _ from Z19.out.1.2.2.2.2.2.2.2.2.2.2.2.2.2.2.2.2.2.2.2.1) 1 rfl
    go_wp2_with fail
    refine (LW'.out ⟨sX, lsX⟩ _ _ _ HX.out.2 (show WhIn _ _ _ _ _ from Z19.out.1.2.2.2.2.2.2.1.1).at (show WhIn _ _ _ _ _ from Z19.out.1.2.2.2.2.2.2.2.2.2.2.2.2.2.2.2.2.2.2.1.1).at).mono ?_
    rintro e wA ⟨rfl, q⟩
    have ZA : Hid (Lies w [dTw bh th (.slice hp n hq) l, wTw bw tw (.agg #[.int .i64 s0, .slice wp m0 wq]) ⟨s0, ls0⟩, Thing.box gW #[.int .i64 s0, .slice wp m0 wq] 29, wTw bp tp (.agg #[.int .i64 sP, .slice pp mP pq]) ⟨sP, lsP⟩, Thing.box gP #[.int .i64 sP, .slice pp mP pq] 29, Thing.box gd #[.int .i64 d0, .int .i64 d1] 33, wTw bx tx (.agg #[.int .i64 sX, .slice xp mX xq]) ⟨sX, lsX⟩, Thing.box gX #[.int .i64 sX, .slice xp mX xq] 29, wTw bt tt (.agg #[.int .i64 sT, .slice tp1 mT tq1]) ⟨sT, lsT⟩, Thing.box gT #[.int .i64 sT, .slice tp1 mT tq1] 29, wTw by1 ty1 (.agg #[.int .i64 sY, .slice yp mY yq]) ⟨sY, lsY⟩, Thing.box gY #[.int .i64 sY, .slice yp mY yq] 29, Thing.box gf #[.int .i64 f0, .int .i64 f1] 33, wTw bb tb (.agg #[.int .i64 sB, .slice bp1 mB bq1]) ⟨sB, lsB⟩, Thing.box gB #[.int .i64 sB, .slice bp1 mB bq1] 29, dTw be te (.slice ep nE eq) E, wTw bz tz (.agg #[.int .i64 s0, .slice zp m0 zq]) ⟨s0, ls0⟩, Thing.box gZ #[.int .i64 s0, .slice zp m0 zq] 29, wTw bu tu (.agg #[.int .i64 sX, .slice up mX uq]) ⟨sX, lsX⟩, Thing.box gU #[.int .i64 sX, .slice up mX uq] 29] wA) := Z19.out.below q
    clear q Z19 cX0 cX1 cU0 cU1
    cases put
    · go_wp2_with fail
      go_meet
      exact ⟨rfl, ZA.out⟩
    · have hk := HX.out.1 (by first | exact trivial | exact rfl)
      have K := fun v W h => WK'.out ⟨sX, lsX⟩ v W HX.out.2 h
      rw [hk] at K
      have K' : Hid _ := K
      clear K hk
      have cX0 : wA.cell? ⟨gX, 0, none⟩ = some (.int .i64 sX) := Boxed.cell (show Boxed _ _ _ _ from ZA.out.1.2.2.2.2.2.2.2.1) 0 rfl
      have cX1 : wA.cell? ⟨gX, 1, none⟩ = some (.slice xp mX xq) := Boxed.cell (show Boxed _ _ _ _ from ZA.out.1.2.2.2.2.2.2.2.1) 1 rfl
      go_wp2_with fail
      refine (K'.out _ _ (show WhIn _ _ _ _ _ from ZA.out.1.2.2.2.2.2.2.1.1).at).mono ?_
      rintro e wB ⟨rfl, q⟩
      have ZB : Hid (Lies w [dTw bh th (.slice hp n hq) l, wTw bw tw (.agg #[.int .i64 s0, .slice wp m0 wq]) ⟨s0, ls0⟩, Thing.box gW #[.int .i64 s0, .slice wp m0 wq] 29, wTw bp tp (.agg #[.int .i64 sP, .slice pp mP pq]) ⟨sP, lsP⟩, Thing.box gP #[.int .i64 sP, .slice pp mP pq] 29, Thing.box gd #[.int .i64 d0, .int .i64 d1] 33, wTw bx tx (.agg #[.int .i64 sX, .slice xp mX xq]) ⟨sX, lsX⟩, Thing.box gX #[.int .i64 sX, .slice xp mX xq] 29, wTw bt tt (.agg #[.int .i64 sT, .slice tp1 mT tq1]) ⟨sT, lsT⟩, Thing.box gT #[.int .i64 sT, .slice tp1 mT tq1] 29, wTw by1 ty1 (.agg #[.int .i64 sY, .slice yp mY yq]) ⟨sY, lsY⟩, Thing.box gY #[.int .i64 sY, .slice yp mY yq] 29, Thing.box gf #[.int .i64 f0, .int .i64 f1] 33, wTw bb tb (.agg #[.int .i64 sB, .slice bp1 mB bq1]) ⟨sB, lsB⟩, Thing.box gB #[.int .i64 sB, .slice bp1 mB bq1] 29, dTw be te (.slice ep nE eq) E, wTw bz tz (.agg #[.int .i64 s0, .slice zp m0 zq]) ⟨s0, ls0⟩, Thing.box gZ #[.int .i64 s0, .slice zp m0 zq] 29, wTw bu tu (.agg #[.int .i64 sX, .slice up mX uq]) ⟨sX, lsX⟩, Thing.box gU #[.int .i64 sX, .slice up mX uq] 29] wB) := ZA.out.below q
      clear q ZA
      go_wp2_with fail
      go_meet
      exact ⟨rfl, ZB.out⟩
  case rest =>
  obtain ⟨rfl, hz⟩ := hcut.out
  obtain ⟨w20, rfl⟩ : ∃ x, x = wc := ⟨_, rfl⟩
  have Z20 : Hid (Lies w [dTw bh th (.slice hp n hq) l, wTw bw tw (.agg #[.int .i64 s0, .slice wp m0 wq]) ⟨s0, ls0⟩, Thing.box gW #[.int .i64 s0, .slice wp m0 wq] 29, wTw bp tp (.agg #[.int .i64 sP, .slice pp mP pq]) ⟨sP, lsP⟩, Thing.box gP #[.int .i64 sP, .slice pp mP pq] 29, Thing.box gd #[.int .i64 d0, .int .i64 d1] 33, wTw bx tx (.agg #[.int .i64 sX, .slice xp mX xq]) ⟨sX, lsX⟩, Thing.box gX #[.int .i64 sX, .slice xp mX xq] 29, wTw bt tt (.agg #[.int .i64 sT, .slice tp1 mT tq1]) ⟨sT, lsT⟩, Thing.box gT #[.int .i64 sT, .slice tp1 mT tq1] 29, wTw by1 ty1 (.agg #[.int .i64 sY, .slice yp mY yq]) ⟨sY, lsY⟩, Thing.box gY #[.int .i64 sY, .slice yp mY yq] 29, Thing.box gf #[.int .i64 f0, .int .i64 f1] 33, wTw bb tb (.agg #[.int .i64 sB, .slice bp1 mB bq1]) ⟨sB, lsB⟩, Thing.box gB #[.int .i64 sB, .slice bp1 mB bq1] 29, dTw be te (.slice ep nE eq) E, wTw bz tz (.agg #[.int .i64 s0, .slice zp m0 zq]) ⟨s0, ls0⟩, Thing.box gZ #[.int .i64 s0, .slice zp m0 zq] 29, wTw bu tu (.agg #[.int .i64 sX, .slice up mX uq]) ⟨sX, lsX⟩, Thing.box gU #[.int .i64 sX, .slice up mX uq] 29] w20) := hz
  clear hcut hz Z19
  go_wp2_with (refine wpList_load_row rfl 29 (.tmp _) rfl gT rfl _ _ _ _ (show Boxed _ _ _ _ from Z20.out.1.2.2.2.2.2.2.2.2.2.1) Tryz.underlying29 rfl (by kernel_rfl) ?_)
  refine (C2s'.out _ _ (show WhIn _ _ _ _ _ from Z20.out.1.2.2.2.2.2.2.2.2.1.1).at).mono ?_
  rintro e w21 ⟨⟨vp, vq, rfl, i1⟩, q⟩
  obtain ⟨bv, hbv⟩ : ∃ b, b = w20.heap.size := ⟨_, rfl⟩
  obtain ⟨tv, htv⟩ : ∃ b, b = w21.heap.size := ⟨_, rfl⟩
  have Z21 : Hid (Lies w [dTw bh th (.slice hp n hq) l, wTw bw tw (.agg #[.int .i64 s0, .slice wp m0 wq]) ⟨s0, ls0⟩, Thing.box gW #[.int .i64 s0, .slice wp m0 wq] 29, wTw bp tp (.agg #[.int .i64 sP, .slice pp mP pq]) ⟨sP, lsP⟩, Thing.box gP #[.int .i64 sP, .slice pp mP pq] 29, Thing.box gd #[.int .i64 d0, .int .i64 d1] 33, wTw bx tx (.agg #[.int .i64 sX, .slice xp mX xq]) ⟨sX, lsX⟩, Thing.box gX #[.int .i64 sX, .slice xp mX xq] 29, wTw bt tt (.agg #[.int .i64 sT, .slice tp1 mT tq1]) ⟨sT, lsT⟩, Thing.box gT #[.int .i64 sT, .slice tp1 mT tq1] 29, wTw by1 ty1 (.agg #[.int .i64 sY, .slice yp mY yq]) ⟨sY, lsY⟩, Thing.box gY #[.int .i64 sY, .slice yp mY yq] 29, Thing.box gf #[.int .i64 f0, .int .i64 f1] 33, wTw bb tb (.agg #[.int .i64 sB, .slice bp1 mB bq1]) ⟨sB, lsB⟩, Thing.box gB #[.int .i64 sB, .slice bp1 mB bq1] 29, dTw be te (.slice ep nE eq) E, wTw bz tz (.agg #[.int .i64 s0, .slice zp m0 zq]) ⟨s0, ls0⟩, Thing.box gZ #[.int .i64 s0, .slice zp m0 zq] 29, wTw bu tu (.agg #[.int .i64 sX, .slice up mX uq]) ⟨sX, lsX⟩, Thing.box gU #[.int .i64 sX, .slice up mX uq] 29, wTw bv tv (.agg #[.int .i64 sY, .slice vp mY vq]) ⟨sY, lsY⟩] w21) := by rw [hbv, htv]; exact Z20.out.more q ⟨⟨i1, Nat.le_refl _⟩, trivial⟩
  clear hbv htv Z20 q i1 C2s'
  have N : Hid _ := boxed_two (W := w21) #[.int .i64 0, .slice none 0 0] #[.int .i64 0, .int .i64 0] #[.int .i64 sY, .slice vp mY vq] 29 33
  have Z22 : Hid (Lies w [dTw bh th (.slice hp n hq) l, wTw bw tw (.agg #[.int .i64 s0, .slice wp m0 wq]) ⟨s0, ls0⟩, Thing.box gW #[.int .i64 s0, .slice wp m0 wq] 29, wTw bp tp (.agg #[.int .i64 sP, .slice pp mP pq]) ⟨sP, lsP⟩, Thing.box gP #[.int .i64 sP, .slice pp mP pq] 29, Thing.box gd #[.int .i64 d0, .int .i64 d1] 33, wTw bx tx (.agg #[.int .i64 sX, .slice xp mX xq]) ⟨sX, lsX⟩, Thing.box gX #[.int .i64 sX, .slice xp mX xq] 29, wTw bt tt (.agg #[.int .i64 sT, .slice tp1 mT tq1]) ⟨sT, lsT⟩, Thing.box gT #[.int .i64 sT, .slice tp1 mT tq1] 29, wTw by1 ty1 (.agg #[.int .i64 sY, .slice yp mY yq]) ⟨sY, lsY⟩, Thing.box gY #[.int .i64 sY, .slice yp mY yq] 29, Thing.box gf #[.int .i64 f0, .int .i64 f1] 33, wTw bb tb (.agg #[.int .i64 sB, .slice bp1 mB bq1]) ⟨sB, lsB⟩, Thing.box gB #[.int .i64 sB, .slice bp1 mB bq1] 29, dTw be te (.slice ep nE eq) E, wTw bz tz (.agg #[.int .i64 s0, .slice zp m0 zq]) ⟨s0, ls0⟩, Thing.box gZ #[.int .i64 s0, .slice zp m0 zq] 29, wTw bu tu (.agg #[.int .i64 sX, .slice up mX uq]) ⟨sX, lsX⟩, Thing.box gU #[.int .i64 sX, .slice up mX uq] 29, wTw bv tv (.agg #[.int .i64 sY, .slice vp mY vq]) ⟨sY, lsY⟩, Thing.box w21.heap.size #[.int .i64 sY, .slice vp mY vq] 29, Thing.box (w21.heap.size + 1) #[.int .i64 f0, .int .i64 f1] 33] ((((w21.alloc (.cells #[.int .i64 0, .slice none 0 0] 29)).alloc (.cells #[.int .i64 0, .int .i64 0] 33)).setRow w21.heap.size #[.int .i64 sY, .slice vp mY vq]).setRow (w21.heap.size + 1) #[.int .i64 f0, .int .i64 f1])) := lies_var2w Z21.out _ _ _ _ _ _
  go_upto_region 18 with (first | (refine wpList_store_row rfl 29 (.tmp _) (.tmp _) rfl w21.heap.size #[.int .i64 sY, .slice vp mY vq] rfl rfl _ _ N.out.1 (by kernel_rfl) rfl (whOnes _ _ _ _) ?_) | (refine wpList_store_row rfl 33 (.tmp _) (.tmp _) rfl (w21.heap.size + 1) #[.int .i64 f0, .int .i64 f1] rfl rfl _ _ N.out.2 (by kernel_rfl) rfl (duOnes _ _) ?_))
  generalize ((((w21.alloc (.cells #[.int .i64 0, .slice none 0 0] 29)).alloc (.cells #[.int .i64 0, .int .i64 0] 33)).setRow w21.heap.size #[.int .i64 sY, .slice vp mY vq]).setRow (w21.heap.size + 1) #[.int .i64 f0, .int .i64 f1]) = w22 at Z22 ⊢
  obtain ⟨gV, hgV⟩ : ∃ b, b = w21.heap.size := ⟨_, rfl⟩
  rw [← hgV] at Z22 ⊢
  obtain ⟨gk, hgk⟩ : ∃ b, b = gV + 1 := ⟨_, rfl⟩
  rw [← hgk] at Z22 ⊢
  clear N Z21 hgV hgk
  go_cut [146] (fun s wc => Hid (s = .bool false ∧ Lies w [dTw bh th (.slice hp n hq) l, wTw bw tw (.agg #[.int .i64 s0, .slice wp m0 wq]) ⟨s0, ls0⟩, Thing.box gW #[.int .i64 s0, .slice wp m0 wq] 29, wTw bp tp (.agg #[.int .i64 sP, .slice pp mP pq]) ⟨sP, lsP⟩, Thing.box gP #[.int .i64 sP, .slice pp mP pq] 29, Thing.box gd #[.int .i64 d0, .int .i64 d1] 33, wTw bx tx (.agg #[.int .i64 sX, .slice xp mX xq]) ⟨sX, lsX⟩, Thing.box gX #[.int .i64 sX, .slice xp mX xq] 29, wTw bt tt (.agg #[.int .i64 sT, .slice tp1 mT tq1]) ⟨sT, lsT⟩, Thing.box gT #[.int .i64 sT, .slice tp1 mT tq1] 29, wTw by1 ty1 (.agg #[.int .i64 sY, .slice yp mY yq]) ⟨sY, lsY⟩, Thing.box gY #[.int .i64 sY, .slice yp mY yq] 29, Thing.box gf #[.int .i64 f0, .int .i64 f1] 33, wTw bb tb (.agg #[.int .i64 sB, .slice bp1 mB bq1]) ⟨sB, lsB⟩, Thing.box gB #[.int .i64 sB, .slice bp1 mB bq1] 29, dTw be te (.slice ep nE eq) E, wTw bz tz (.agg #[.int .i64 s0, .slice zp m0 zq]) ⟨s0, ls0⟩, Thing.box gZ #[.int .i64 s0, .slice zp m0 zq] 29, wTw bu tu (.agg #[.int .i64 sX, .slice up mX uq]) ⟨sX, lsX⟩, Thing.box gU #[.int .i64 sX, .slice up mX uq] 29, wTw bv tv (.agg #[.int .i64 sY, .slice vp mY vq]) ⟨sY, lsY⟩, Thing.box gV #[.int .i64 sY, .slice vp mY vq] 29, Thing.box gk #[.int .i64 f0, .int .i64 f1] 33] wc))
  case first =>
    have cf0 : w22.cell? ⟨gf, 0, none⟩ = some (.int .i64 f0) := Boxed.cell (show Boxed _ _ _ _ from Z22.out.1.2.2.2.2.2.2.2.2.2.2.2.2.1) 0 rfl
    have cf1 : w22.cell? ⟨gf, 1, none⟩ = some (.int .i64 f1) := Boxed.cell (show Boxed _ _ _ _ from Z22.out.1.2.2.2.2.2.2.2.2.2.2.2.2.1) 1 rfl
    have ck0 : w22.cell? ⟨gk, 0, none⟩ = some (.int .i64 f0) := Boxed.cell (show Boxed _ _ _ _ from Z22.out.1.2.2.2.2.2.2.2.2.2.2.2.2.2.2.2.2.2.2.2.2.2.2.1) 0 rfl
    have ck1 : w22.cell? ⟨gk, 1, none⟩ = some (.int .i64 f1) := Boxed.cell (show Boxed _ _ _ _ from Z22.out.1.2.2.2.2.2.2.2.2.2.2.2.2.2.2.2.2.2.2.2.2.2.2.1) 1 rfl
    have cY0 : w22.cell? ⟨gY, 0, none⟩ = some (.int .i64 sY) := Boxed.cell (show Boxed _ _ _ _ from Z22.out.1.2.2.2.2.2.2.2.2.2.2.2.1) 0 rfl
    have cY1 : w22.cell? ⟨gY, 1, none⟩ = some (.slice yp mY yq) := Boxed.cell (show Boxed _ _ _ _ from Z22.out.1.2.2.2.2.2.2.2.2.2.2.2.1) 1 rfl
    have cV0 : w22.cell? ⟨gV, 0, none⟩ = some (.int .i64 sY) := Boxed.cell (show Boxed _ _ _ _ from Z22.out.1.2.2.2.2.2.2.2.2.2.2.2.2.2.2.2.2.2.2.2.2.2.1) 0 rfl
    have cV1 : w22.cell? ⟨gV, 1, none⟩ = some (.slice vp mY vq) := Boxed.cell (show Boxed _ _ _ _ from Z22.out.1.2.2.2.2.2.2.2.2.2.2.2.2.2.2.2.2.2.2.2.2.2.1) 1 rfl
    go_wp2_with fail
    refine (LW'.out ⟨sY, lsY⟩ _ _ _ HY.out.2 (show WhIn _ _ _ _ _ from Z22.out.1.2.2.2.2.2.2.2.2.2.2.1.1).at (show WhIn _ _ _ _ _ from Z22.out.1.2.2.2.2.2.2.2.2.2.2.2.2.2.2.2.2.2.2.2.2.1.1).at).mono ?_
    rintro e wA ⟨rfl, q⟩
    have ZA : Hid (Lies w [dTw bh th (.slice hp n hq) l, wTw bw tw (.agg #[.int .i64 s0, .slice wp m0 wq]) ⟨s0, ls0⟩, Thing.box gW #[.int .i64 s0, .slice wp m0 wq] 29, wTw bp tp (.agg #[.int .i64 sP, .slice pp mP pq]) ⟨sP, lsP⟩, Thing.box gP #[.int .i64 sP, .slice pp mP pq] 29, Thing.box gd #[.int .i64 d0, .int .i64 d1] 33, wTw bx tx (.agg #[.int .i64 sX, .slice xp mX xq]) ⟨sX, lsX⟩, Thing.box gX #[.int .i64 sX, .slice xp mX xq] 29, wTw bt tt (.agg #[.int .i64 sT, .slice tp1 mT tq1]) ⟨sT, lsT⟩, Thing.box gT #[.int .i64 sT, .slice tp1 mT tq1] 29, wTw by1 ty1 (.agg #[.int .i64 sY, .slice yp mY yq]) ⟨sY, lsY⟩, Thing.box gY #[.int .i64 sY, .slice yp mY yq] 29, Thing.box gf #[.int .i64 f0, .int .i64 f1] 33, wTw bb tb (.agg #[.int .i64 sB, .slice bp1 mB bq1]) ⟨sB, lsB⟩, Thing.box gB #[.int .i64 sB, .slice bp1 mB bq1] 29, dTw be te (.slice ep nE eq) E, wTw bz tz (.agg #[.int .i64 s0, .slice zp m0 zq]) ⟨s0, ls0⟩, Thing.box gZ #[.int .i64 s0, .slice zp m0 zq] 29, wTw bu tu (.agg #[.int .i64 sX, .slice up mX uq]) ⟨sX, lsX⟩, Thing.box gU #[.int .i64 sX, .slice up mX uq] 29, wTw bv tv (.agg #[.int .i64 sY, .slice vp mY vq]) ⟨sY, lsY⟩, Thing.box gV #[.int .i64 sY, .slice vp mY vq] 29, Thing.box gk #[.int .i64 f0, .int .i64 f1] 33] wA) := Z22.out.below q
    clear q Z22 cY0 cY1 cV0 cV1
    cases there
    · go_wp2_with fail
      go_meet
      exact ⟨rfl, ZA.out⟩
    · have hk := HY.out.1 (by first | exact trivial | exact rfl)
      have K := fun v W h => WK'.out ⟨sY, lsY⟩ v W HY.out.2 h
      rw [hk] at K
      have K' : Hid _ := K
      clear K hk
      have cY0 : wA.cell? ⟨gY, 0, none⟩ = some (.int .i64 sY) := Boxed.cell (show Boxed _ _ _ _ from ZA.out.1.2.2.2.2.2.2.2.2.2.2.2.1) 0 rfl
      have cY1 : wA.cell? ⟨gY, 1, none⟩ = some (.slice yp mY yq) := Boxed.cell (show Boxed _ _ _ _ from ZA.out.1.2.2.2.2.2.2.2.2.2.2.2.1) 1 rfl
      go_wp2_with fail
      refine (K'.out _ _ (show WhIn _ _ _ _ _ from ZA.out.1.2.2.2.2.2.2.2.2.2.2.1.1).at).mono ?_
      rintro e wB ⟨rfl, q⟩
      have ZB : Hid (Lies w [dTw bh th (.slice hp n hq) l, wTw bw tw (.agg #[.int .i64 s0, .slice wp m0 wq]) ⟨s0, ls0⟩, Thing.box gW #[.int .i64 s0, .slice wp m0 wq] 29, wTw bp tp (.agg #[.int .i64 sP, .slice pp mP pq]) ⟨sP, lsP⟩, Thing.box gP #[.int .i64 sP, .slice pp mP pq] 29, Thing.box gd #[.int .i64 d0, .int .i64 d1] 33, wTw bx tx (.agg #[.int .i64 sX, .slice xp mX xq]) ⟨sX, lsX⟩, Thing.box gX #[.int .i64 sX, .slice xp mX xq] 29, wTw bt tt (.agg #[.int .i64 sT, .slice tp1 mT tq1]) ⟨sT, lsT⟩, Thing.box gT #[.int .i64 sT, .slice tp1 mT tq1] 29, wTw by1 ty1 (.agg #[.int .i64 sY, .slice yp mY yq]) ⟨sY, lsY⟩, Thing.box gY #[.int .i64 sY, .slice yp mY yq] 29, Thing.box gf #[.int .i64 f0, .int .i64 f1] 33, wTw bb tb (.agg #[.int .i64 sB, .slice bp1 mB bq1]) ⟨sB, lsB⟩, Thing.box gB #[.int .i64 sB, .slice bp1 mB bq1] 29, dTw be te (.slice ep nE eq) E, wTw bz tz (.agg #[.int .i64 s0, .slice zp m0 zq]) ⟨s0, ls0⟩, Thing.box gZ #[.int .i64 s0, .slice zp m0 zq] 29, wTw bu tu (.agg #[.int .i64 sX, .slice up mX uq]) ⟨sX, lsX⟩, Thing.box gU #[.int .i64 sX, .slice up mX uq] 29, wTw bv tv (.agg #[.int .i64 sY, .slice vp mY vq]) ⟨sY, lsY⟩, Thing.box gV #[.int .i64 sY, .slice vp mY vq] 29, Thing.box gk #[.int .i64 f0, .int .i64 f1] 33] wB) := ZA.out.below q
      clear q ZA
      go_wp2_with fail
      go_meet
      exact ⟨rfl, ZB.out⟩
  case rest =>
  obtain ⟨rfl, hz⟩ := hcut.out
  obtain ⟨w23, rfl⟩ : ∃ x, x = wc := ⟨_, rfl⟩
  have Z23 : Hid (Lies w [dTw bh th (.slice hp n hq) l, wTw bw tw (.agg #[.int .i64 s0, .slice wp m0 wq]) ⟨s0, ls0⟩, Thing.box gW #[.int .i64 s0, .slice wp m0 wq] 29, wTw bp tp (.agg #[.int .i64 sP, .slice pp mP pq]) ⟨sP, lsP⟩, Thing.box gP #[.int .i64 sP, .slice pp mP pq] 29, Thing.box gd #[.int .i64 d0, .int .i64 d1] 33, wTw bx tx (.agg #[.int .i64 sX, .slice xp mX xq]) ⟨sX, lsX⟩, Thing.box gX #[.int .i64 sX, .slice xp mX xq] 29, wTw bt tt (.agg #[.int .i64 sT, .slice tp1 mT tq1]) ⟨sT, lsT⟩, Thing.box gT #[.int .i64 sT, .slice tp1 mT tq1] 29, wTw by1 ty1 (.agg #[.int .i64 sY, .slice yp mY yq]) ⟨sY, lsY⟩, Thing.box gY #[.int .i64 sY, .slice yp mY yq] 29, Thing.box gf #[.int .i64 f0, .int .i64 f1] 33, wTw bb tb (.agg #[.int .i64 sB, .slice bp1 mB bq1]) ⟨sB, lsB⟩, Thing.box gB #[.int .i64 sB, .slice bp1 mB bq1] 29, dTw be te (.slice ep nE eq) E, wTw bz tz (.agg #[.int .i64 s0, .slice zp m0 zq]) ⟨s0, ls0⟩, Thing.box gZ #[.int .i64 s0, .slice zp m0 zq] 29, wTw bu tu (.agg #[.int .i64 sX, .slice up mX uq]) ⟨sX, lsX⟩, Thing.box gU #[.int .i64 sX, .slice up mX uq] 29, wTw bv tv (.agg #[.int .i64 sY, .slice vp mY vq]) ⟨sY, lsY⟩, Thing.box gV #[.int .i64 sY, .slice vp mY vq] 29, Thing.box gk #[.int .i64 f0, .int .i64 f1] 33] w23) := hz
  clear hcut hz Z22
  go_wp2_with (refine wpList_load_row rfl 29 (.tmp _) rfl gB rfl _ _ _ _ (show Boxed _ _ _ _ from Z23.out.1.2.2.2.2.2.2.2.2.2.2.2.2.2.2.1) Tryz.underlying29 rfl (by kernel_rfl) ?_)
  refine (C3s'.out _ _ (show WhIn _ _ _ _ _ from Z23.out.1.2.2.2.2.2.2.2.2.2.2.2.2.2.1.1).at).mono ?_
  rintro e w24 ⟨⟨op, oq, rfl, i1⟩, q⟩
  obtain ⟨bo, hbo⟩ : ∃ b, b = w23.heap.size := ⟨_, rfl⟩
  obtain ⟨to1, hto1⟩ : ∃ b, b = w24.heap.size := ⟨_, rfl⟩
  have Z24 : Hid (Lies w [dTw bh th (.slice hp n hq) l, wTw bw tw (.agg #[.int .i64 s0, .slice wp m0 wq]) ⟨s0, ls0⟩, Thing.box gW #[.int .i64 s0, .slice wp m0 wq] 29, wTw bp tp (.agg #[.int .i64 sP, .slice pp mP pq]) ⟨sP, lsP⟩, Thing.box gP #[.int .i64 sP, .slice pp mP pq] 29, Thing.box gd #[.int .i64 d0, .int .i64 d1] 33, wTw bx tx (.agg #[.int .i64 sX, .slice xp mX xq]) ⟨sX, lsX⟩, Thing.box gX #[.int .i64 sX, .slice xp mX xq] 29, wTw bt tt (.agg #[.int .i64 sT, .slice tp1 mT tq1]) ⟨sT, lsT⟩, Thing.box gT #[.int .i64 sT, .slice tp1 mT tq1] 29, wTw by1 ty1 (.agg #[.int .i64 sY, .slice yp mY yq]) ⟨sY, lsY⟩, Thing.box gY #[.int .i64 sY, .slice yp mY yq] 29, Thing.box gf #[.int .i64 f0, .int .i64 f1] 33, wTw bb tb (.agg #[.int .i64 sB, .slice bp1 mB bq1]) ⟨sB, lsB⟩, Thing.box gB #[.int .i64 sB, .slice bp1 mB bq1] 29, dTw be te (.slice ep nE eq) E, wTw bz tz (.agg #[.int .i64 s0, .slice zp m0 zq]) ⟨s0, ls0⟩, Thing.box gZ #[.int .i64 s0, .slice zp m0 zq] 29, wTw bu tu (.agg #[.int .i64 sX, .slice up mX uq]) ⟨sX, lsX⟩, Thing.box gU #[.int .i64 sX, .slice up mX uq] 29, wTw bv tv (.agg #[.int .i64 sY, .slice vp mY vq]) ⟨sY, lsY⟩, Thing.box gV #[.int .i64 sY, .slice vp mY vq] 29, Thing.box gk #[.int .i64 f0, .int .i64 f1] 33, dTw bo to1 (.slice op nE oq) E] w24) := by rw [hbo, hto1]; exact Z23.out.more q ⟨⟨i1, Nat.le_refl _⟩, trivial⟩
  clear hbo hto1 Z23 q i1 C3s'
  go_wp2_with fail
  have L4 : Hid (∀ v1 v2 W, DusV W v1 E → DusV W v2 E → _) := fun v1 v2 W h1 h2 => LD'.out E v1 v2 W HE.out.2 h1 h2
  refine (L4.out _ _ _ (show DusW _ _ _ _ _ from Z24.out.1.2.2.2.2.2.2.2.2.2.2.2.2.2.2.2.1.1).at (show DusW _ _ _ _ _ from Z24.out.1.2.2.2.2.2.2.2.2.2.2.2.2.2.2.2.2.2.2.2.2.2.2.2.1.1).at).mono ?_
  rintro e w25 ⟨rfl, q⟩
  have Z25 : Hid (Lies w [dTw bh th (.slice hp n hq) l, wTw bw tw (.agg #[.int .i64 s0, .slice wp m0 wq]) ⟨s0, ls0⟩, Thing.box gW #[.int .i64 s0, .slice wp m0 wq] 29, wTw bp tp (.agg #[.int .i64 sP, .slice pp mP pq]) ⟨sP, lsP⟩, Thing.box gP #[.int .i64 sP, .slice pp mP pq] 29, Thing.box gd #[.int .i64 d0, .int .i64 d1] 33, wTw bx tx (.agg #[.int .i64 sX, .slice xp mX xq]) ⟨sX, lsX⟩, Thing.box gX #[.int .i64 sX, .slice xp mX xq] 29, wTw bt tt (.agg #[.int .i64 sT, .slice tp1 mT tq1]) ⟨sT, lsT⟩, Thing.box gT #[.int .i64 sT, .slice tp1 mT tq1] 29, wTw by1 ty1 (.agg #[.int .i64 sY, .slice yp mY yq]) ⟨sY, lsY⟩, Thing.box gY #[.int .i64 sY, .slice yp mY yq] 29, Thing.box gf #[.int .i64 f0, .int .i64 f1] 33, wTw bb tb (.agg #[.int .i64 sB, .slice bp1 mB bq1]) ⟨sB, lsB⟩, Thing.box gB #[.int .i64 sB, .slice bp1 mB bq1] 29, dTw be te (.slice ep nE eq) E, wTw bz tz (.agg #[.int .i64 s0, .slice zp m0 zq]) ⟨s0, ls0⟩, Thing.box gZ #[.int .i64 s0, .slice zp m0 zq] 29, wTw bu tu (.agg #[.int .i64 sX, .slice up mX uq]) ⟨sX, lsX⟩, Thing.box gU #[.int .i64 sX, .slice up mX uq] 29, wTw bv tv (.agg #[.int .i64 sY, .slice vp mY vq]) ⟨sY, lsY⟩, Thing.box gV #[.int .i64 sY, .slice vp mY vq] 29, Thing.box gk #[.int .i64 f0, .int .i64 f1] 33, dTw bo to1 (.slice op nE oq) E] w25) := Z24.out.below q
  clear q Z24
  clear L4
  go_upto_if 161 with fail
  go_cut [] from 162 to 181 (fun wc => Hid (Lies w [dTw bh th (.slice hp n hq) l, wTw bw tw (.agg #[.int .i64 s0, .slice wp m0 wq]) ⟨s0, ls0⟩, Thing.box gW #[.int .i64 s0, .slice wp m0 wq] 29, wTw bp tp (.agg #[.int .i64 sP, .slice pp mP pq]) ⟨sP, lsP⟩, Thing.box gP #[.int .i64 sP, .slice pp mP pq] 29, Thing.box gd #[.int .i64 d0, .int .i64 d1] 33, wTw bx tx (.agg #[.int .i64 sX, .slice xp mX xq]) ⟨sX, lsX⟩, Thing.box gX #[.int .i64 sX, .slice xp mX xq] 29, wTw bt tt (.agg #[.int .i64 sT, .slice tp1 mT tq1]) ⟨sT, lsT⟩, Thing.box gT #[.int .i64 sT, .slice tp1 mT tq1] 29, wTw by1 ty1 (.agg #[.int .i64 sY, .slice yp mY yq]) ⟨sY, lsY⟩, Thing.box gY #[.int .i64 sY, .slice yp mY yq] 29, Thing.box gf #[.int .i64 f0, .int .i64 f1] 33, wTw bb tb (.agg #[.int .i64 sB, .slice bp1 mB bq1]) ⟨sB, lsB⟩, Thing.box gB #[.int .i64 sB, .slice bp1 mB bq1] 29, dTw be te (.slice ep nE eq) E, wTw bz tz (.agg #[.int .i64 s0, .slice zp m0 zq]) ⟨s0, ls0⟩, Thing.box gZ #[.int .i64 s0, .slice zp m0 zq] 29, wTw bu tu (.agg #[.int .i64 sX, .slice up mX uq]) ⟨sX, lsX⟩, Thing.box gU #[.int .i64 sX, .slice up mX uq] 29, wTw bv tv (.agg #[.int .i64 sY, .slice vp mY vq]) ⟨sY, lsY⟩, Thing.box gV #[.int .i64 sY, .slice vp mY vq] 29, Thing.box gk #[.int .i64 f0, .int .i64 f1] 33, dTw bo to1 (.slice op nE oq) E] wc))
  case first =>
    cases fine
    · go_wp2_with fail
      go_meet
      exact Z25.out
    · obtain ⟨hE1, hE2, hE3⟩ := HE.out.1 (by first | exact trivial | exact rfl)
      have C4 := fun v W h => TW'.out E v sB W HE.out.2 h
      rw [hE2, hE3] at C4
      simp only [] at C4
      rw [HB1l.out] at C4
      have C4' : Hid _ := C4
      have K5 := fun v W h => HK'.out E v W HE.out.2 h
      rw [hE1] at K5
      have K5' : Hid _ := K5
      clear C4 K5 hE1 hE2 hE3
      have cB0 : w25.cell? ⟨gB, 0, none⟩ = some (.int .i64 sB) := Boxed.cell (show Boxed _ _ _ _ from Z25.out.1.2.2.2.2.2.2.2.2.2.2.2.2.2.2.1) 0 rfl
      have cB1 : w25.cell? ⟨gB, 1, none⟩ = some (.slice bp1 mB bq1) := Boxed.cell (show Boxed _ _ _ _ from Z25.out.1.2.2.2.2.2.2.2.2.2.2.2.2.2.2.1) 1 rfl
      go_wp2_with fail
      refine (C4'.out _ _ (show DusW _ _ _ _ _ from Z25.out.1.2.2.2.2.2.2.2.2.2.2.2.2.2.2.2.1.1).at).mono ?_
      rintro e wA ⟨⟨ap, aq, rfl, i1⟩, q⟩
      obtain ⟨ba, hba⟩ : ∃ b, b = w25.heap.size := ⟨_, rfl⟩
      obtain ⟨ta, hta⟩ : ∃ b, b = wA.heap.size := ⟨_, rfl⟩
      have ZA : Hid (Lies w [dTw bh th (.slice hp n hq) l, wTw bw tw (.agg #[.int .i64 s0, .slice wp m0 wq]) ⟨s0, ls0⟩, Thing.box gW #[.int .i64 s0, .slice wp m0 wq] 29, wTw bp tp (.agg #[.int .i64 sP, .slice pp mP pq]) ⟨sP, lsP⟩, Thing.box gP #[.int .i64 sP, .slice pp mP pq] 29, Thing.box gd #[.int .i64 d0, .int .i64 d1] 33, wTw bx tx (.agg #[.int .i64 sX, .slice xp mX xq]) ⟨sX, lsX⟩, Thing.box gX #[.int .i64 sX, .slice xp mX xq] 29, wTw bt tt (.agg #[.int .i64 sT, .slice tp1 mT tq1]) ⟨sT, lsT⟩, Thing.box gT #[.int .i64 sT, .slice tp1 mT tq1] 29, wTw by1 ty1 (.agg #[.int .i64 sY, .slice yp mY yq]) ⟨sY, lsY⟩, Thing.box gY #[.int .i64 sY, .slice yp mY yq] 29, Thing.box gf #[.int .i64 f0, .int .i64 f1] 33, wTw bb tb (.agg #[.int .i64 sB, .slice bp1 mB bq1]) ⟨sB, lsB⟩, Thing.box gB #[.int .i64 sB, .slice bp1 mB bq1] 29, dTw be te (.slice ep nE eq) E, wTw bz tz (.agg #[.int .i64 s0, .slice zp m0 zq]) ⟨s0, ls0⟩, Thing.box gZ #[.int .i64 s0, .slice zp m0 zq] 29, wTw bu tu (.agg #[.int .i64 sX, .slice up mX uq]) ⟨sX, lsX⟩, Thing.box gU #[.int .i64 sX, .slice up mX uq] 29, wTw bv tv (.agg #[.int .i64 sY, .slice vp mY vq]) ⟨sY, lsY⟩, Thing.box gV #[.int .i64 sY, .slice vp mY vq] 29, Thing.box gk #[.int .i64 f0, .int .i64 f1] 33, dTw bo to1 (.slice op nE oq) E, wTw ba ta (.agg #[.int .i64 sB, .slice ap mB aq]) ⟨sB, lsB⟩] wA) := by rw [hba, hta]; exact Z25.out.more q ⟨⟨i1, Nat.le_refl _⟩, trivial⟩
      clear hba hta q i1 C4' cB0 cB1
      have N : Hid (Boxed (wA.alloc (.cells #[.int .i64 0, .slice none 0 0] 29)) wA.heap.size #[.int .i64 0, .slice none 0 0] 29) := Boxed.new _ _ _
      have ZB : Hid (Lies w [dTw bh th (.slice hp n hq) l, wTw bw tw (.agg #[.int .i64 s0, .slice wp m0 wq]) ⟨s0, ls0⟩, Thing.box gW #[.int .i64 s0, .slice wp m0 wq] 29, wTw bp tp (.agg #[.int .i64 sP, .slice pp mP pq]) ⟨sP, lsP⟩, Thing.box gP #[.int .i64 sP, .slice pp mP pq] 29, Thing.box gd #[.int .i64 d0, .int .i64 d1] 33, wTw bx tx (.agg #[.int .i64 sX, .slice xp mX xq]) ⟨sX, lsX⟩, Thing.box gX #[.int .i64 sX, .slice xp mX xq] 29, wTw bt tt (.agg #[.int .i64 sT, .slice tp1 mT tq1]) ⟨sT, lsT⟩, Thing.box gT #[.int .i64 sT, .slice tp1 mT tq1] 29, wTw by1 ty1 (.agg #[.int .i64 sY, .slice yp mY yq]) ⟨sY, lsY⟩, Thing.box gY #[.int .i64 sY, .slice yp mY yq] 29, Thing.box gf #[.int .i64 f0, .int .i64 f1] 33, wTw bb tb (.agg #[.int .i64 sB, .slice bp1 mB bq1]) ⟨sB, lsB⟩, Thing.box gB #[.int .i64 sB, .slice bp1 mB bq1] 29, dTw be te (.slice ep nE eq) E, wTw bz tz (.agg #[.int .i64 s0, .slice zp m0 zq]) ⟨s0, ls0⟩, Thing.box gZ #[.int .i64 s0, .slice zp m0 zq] 29, wTw bu tu (.agg #[.int .i64 sX, .slice up mX uq]) ⟨sX, lsX⟩, Thing.box gU #[.int .i64 sX, .slice up mX uq] 29, wTw bv tv (.agg #[.int .i64 sY, .slice vp mY vq]) ⟨sY, lsY⟩, Thing.box gV #[.int .i64 sY, .slice vp mY vq] 29, Thing.box gk #[.int .i64 f0, .int .i64 f1] 33, dTw bo to1 (.slice op nE oq) E, wTw ba ta (.agg #[.int .i64 sB, .slice ap mB aq]) ⟨sB, lsB⟩, Thing.box wA.heap.size #[.int .i64 sB, .slice ap mB aq] 29] ((wA.alloc (.cells #[.int .i64 0, .slice none 0 0] 29)).setRow wA.heap.size #[.int .i64 sB, .slice ap mB aq])) := lies_varw ZA.out _ _ _
      go_upto_region 25 with (refine wpList_store_row rfl 29 (.tmp _) (.tmp _) rfl wA.heap.size #[.int .i64 sB, .slice ap mB aq] rfl rfl _ _ N.out (by kernel_rfl) rfl (whOnes _ _ _ _) ?_)
      generalize ((wA.alloc (.cells #[.int .i64 0, .slice none 0 0] 29)).setRow wA.heap.size #[.int .i64 sB, .slice ap mB aq]) = wB at ZB ⊢
      obtain ⟨gA, hgA⟩ : ∃ b, b = wA.heap.size := ⟨_, rfl⟩
      rw [← hgA] at ZB ⊢
      clear N ZA hgA
      have cA0 : wB.cell? ⟨gA, 0, none⟩ = some (.int .i64 sB) := Boxed.cell (show Boxed _ _ _ _ from ZB.out.1.2.2.2.2.2.2.2.2.2.2.2.2.2.2.2.2.2.2.2.2.2.2.2.2.2.1) 0 rfl
      have cA1 : wB.cell? ⟨gA, 1, none⟩ = some (.slice ap mB aq) := Boxed.cell (show Boxed _ _ _ _ from ZB.out.1.2.2.2.2.2.2.2.2.2.2.2.2.2.2.2.2.2.2.2.2.2.2.2.2.2.1) 1 rfl
      have cB0 : wB.cell? ⟨gB, 0, none⟩ = some (.int .i64 sB) := Boxed.cell (show Boxed _ _ _ _ from ZB.out.1.2.2.2.2.2.2.2.2.2.2.2.2.2.2.1) 0 rfl
      have cB1 : wB.cell? ⟨gB, 1, none⟩ = some (.slice bp1 mB bq1) := Boxed.cell (show Boxed _ _ _ _ from ZB.out.1.2.2.2.2.2.2.2.2.2.2.2.2.2.2.1) 1 rfl
      go_wp2_with fail
      refine (LW'.out ⟨sB, lsB⟩ _ _ _ HB1.out (show WhIn _ _ _ _ _ from ZB.out.1.2.2.2.2.2.2.2.2.2.2.2.2.2.2.2.2.2.2.2.2.2.2.2.2.1.1).at (show WhIn _ _ _ _ _ from ZB.out.1.2.2.2.2.2.2.2.2.2.2.2.2.2.1.1).at).mono ?_
      rintro e wC ⟨rfl, q⟩
      have ZC : Hid (Lies w [dTw bh th (.slice hp n hq) l, wTw bw tw (.agg #[.int .i64 s0, .slice wp m0 wq]) ⟨s0, ls0⟩, Thing.box gW #[.int .i64 s0, .slice wp m0 wq] 29, wTw bp tp (.agg #[.int .i64 sP, .slice pp mP pq]) ⟨sP, lsP⟩, Thing.box gP #[.int .i64 sP, .slice pp mP pq] 29, Thing.box gd #[.int .i64 d0, .int .i64 d1] 33, wTw bx tx (.agg #[.int .i64 sX, .slice xp mX xq]) ⟨sX, lsX⟩, Thing.box gX #[.int .i64 sX, .slice xp mX xq] 29, wTw bt tt (.agg #[.int .i64 sT, .slice tp1 mT tq1]) ⟨sT, lsT⟩, Thing.box gT #[.int .i64 sT, .slice tp1 mT tq1] 29, wTw by1 ty1 (.agg #[.int .i64 sY, .slice yp mY yq]) ⟨sY, lsY⟩, Thing.box gY #[.int .i64 sY, .slice yp mY yq] 29, Thing.box gf #[.int .i64 f0, .int .i64 f1] 33, wTw bb tb (.agg #[.int .i64 sB, .slice bp1 mB bq1]) ⟨sB, lsB⟩, Thing.box gB #[.int .i64 sB, .slice bp1 mB bq1] 29, dTw be te (.slice ep nE eq) E, wTw bz tz (.agg #[.int .i64 s0, .slice zp m0 zq]) ⟨s0, ls0⟩, Thing.box gZ #[.int .i64 s0, .slice zp m0 zq] 29, wTw bu tu (.agg #[.int .i64 sX, .slice up mX uq]) ⟨sX, lsX⟩, Thing.box gU #[.int .i64 sX, .slice up mX uq] 29, wTw bv tv (.agg #[.int .i64 sY, .slice vp mY vq]) ⟨sY, lsY⟩, Thing.box gV #[.int .i64 sY, .slice vp mY vq] 29, Thing.box gk #[.int .i64 f0, .int .i64 f1] 33, dTw bo to1 (.slice op nE oq) E, wTw ba ta (.agg #[.int .i64 sB, .slice ap mB aq]) ⟨sB, lsB⟩, Thing.box gA #[.int .i64 sB, .slice ap mB aq] 29] wC) := ZB.out.below q
      clear q ZB cA0 cA1 cB0 cB1
      go_wp2_with fail
      refine (K5'.out _ _ (show DusW _ _ _ _ _ from ZC.out.1.2.2.2.2.2.2.2.2.2.2.2.2.2.2.2.1.1).at).mono ?_
      rintro e wD ⟨rfl, q⟩
      have ZD : Hid (Lies w [dTw bh th (.slice hp n hq) l, wTw bw tw (.agg #[.int .i64 s0, .slice wp m0 wq]) ⟨s0, ls0⟩, Thing.box gW #[.int .i64 s0, .slice wp m0 wq] 29, wTw bp tp (.agg #[.int .i64 sP, .slice pp mP pq]) ⟨sP, lsP⟩, Thing.box gP #[.int .i64 sP, .slice pp mP pq] 29, Thing.box gd #[.int .i64 d0, .int .i64 d1] 33, wTw bx tx (.agg #[.int .i64 sX, .slice xp mX xq]) ⟨sX, lsX⟩, Thing.box gX #[.int .i64 sX, .slice xp mX xq] 29, wTw bt tt (.agg #[.int .i64 sT, .slice tp1 mT tq1]) ⟨sT, lsT⟩, Thing.box gT #[.int .i64 sT, .slice tp1 mT tq1] 29, wTw by1 ty1 (.agg #[.int .i64 sY, .slice yp mY yq]) ⟨sY, lsY⟩, Thing.box gY #[.int .i64 sY, .slice yp mY yq] 29, Thing.box gf #[.int .i64 f0, .int .i64 f1] 33, wTw bb tb (.agg #[.int .i64 sB, .slice bp1 mB bq1]) ⟨sB, lsB⟩, Thing.box gB #[.int .i64 sB, .slice bp1 mB bq1] 29, dTw be te (.slice ep nE eq) E, wTw bz tz (.agg #[.int .i64 s0, .slice zp m0 zq]) ⟨s0, ls0⟩, Thing.box gZ #[.int .i64 s0, .slice zp m0 zq] 29, wTw bu tu (.agg #[.int .i64 sX, .slice up mX uq]) ⟨sX, lsX⟩, Thing.box gU #[.int .i64 sX, .slice up mX uq] 29, wTw bv tv (.agg #[.int .i64 sY, .slice vp mY vq]) ⟨sY, lsY⟩, Thing.box gV #[.int .i64 sY, .slice vp mY vq] 29, Thing.box gk #[.int .i64 f0, .int .i64 f1] 33, dTw bo to1 (.slice op nE oq) E, wTw ba ta (.agg #[.int .i64 sB, .slice ap mB aq]) ⟨sB, lsB⟩, Thing.box gA #[.int .i64 sB, .slice ap mB aq] 29] wD) := ZC.out.below q
      have ZE : Hid (Lies w [dTw bh th (.slice hp n hq) l, wTw bw tw (.agg #[.int .i64 s0, .slice wp m0 wq]) ⟨s0, ls0⟩, Thing.box gW #[.int .i64 s0, .slice wp m0 wq] 29, wTw bp tp (.agg #[.int .i64 sP, .slice pp mP pq]) ⟨sP, lsP⟩, Thing.box gP #[.int .i64 sP, .slice pp mP pq] 29, Thing.box gd #[.int .i64 d0, .int .i64 d1] 33, wTw bx tx (.agg #[.int .i64 sX, .slice xp mX xq]) ⟨sX, lsX⟩, Thing.box gX #[.int .i64 sX, .slice xp mX xq] 29, wTw bt tt (.agg #[.int .i64 sT, .slice tp1 mT tq1]) ⟨sT, lsT⟩, Thing.box gT #[.int .i64 sT, .slice tp1 mT tq1] 29, wTw by1 ty1 (.agg #[.int .i64 sY, .slice yp mY yq]) ⟨sY, lsY⟩, Thing.box gY #[.int .i64 sY, .slice yp mY yq] 29, Thing.box gf #[.int .i64 f0, .int .i64 f1] 33, wTw bb tb (.agg #[.int .i64 sB, .slice bp1 mB bq1]) ⟨sB, lsB⟩, Thing.box gB #[.int .i64 sB, .slice bp1 mB bq1] 29, dTw be te (.slice ep nE eq) E, wTw bz tz (.agg #[.int .i64 s0, .slice zp m0 zq]) ⟨s0, ls0⟩, Thing.box gZ #[.int .i64 s0, .slice zp m0 zq] 29, wTw bu tu (.agg #[.int .i64 sX, .slice up mX uq]) ⟨sX, lsX⟩, Thing.box gU #[.int .i64 sX, .slice up mX uq] 29, wTw bv tv (.agg #[.int .i64 sY, .slice vp mY vq]) ⟨sY, lsY⟩, Thing.box gV #[.int .i64 sY, .slice vp mY vq] 29, Thing.box gk #[.int .i64 f0, .int .i64 f1] 33, dTw bo to1 (.slice op nE oq) E] wD) := ⟨⟨ZD.out.1.1, ZD.out.1.2.1, ZD.out.1.2.2.1, ZD.out.1.2.2.2.1, ZD.out.1.2.2.2.2.1, ZD.out.1.2.2.2.2.2.1, ZD.out.1.2.2.2.2.2.2.1, ZD.out.1.2.2.2.2.2.2.2.1, ZD.out.1.2.2.2.2.2.2.2.2.1, ZD.out.1.2.2.2.2.2.2.2.2.2.1, ZD.out.1.2.2.2.2.2.2.2.2.2.2.1, ZD.out.1.2.2.2.2.2.2.2.2.2.2.2.1, ZD.out.1.2.2.2.2.2.2.2.2.2.2.2.2.1, ZD.out.1.2.2.2.2.2.2.2.2.2.2.2.2.2.1, ZD.out.1.2.2.2.2.2.2.2.2.2.2.2.2.2.2.1, ZD.out.1.2.2.2.2.2.2.2.2.2.2.2.2.2.2.2.1, ZD.out.1.2.2.2.2.2.2.2.2.2.2.2.2.2.2.2.2.1, ZD.out.1.2.2.2.2.2.2.2.2.2.2.2.2.2.2.2.2.2.1, ZD.out.1.2.2.2.2.2.2.2.2.2.2.2.2.2.2.2.2.2.2.1, ZD.out.1.2.2.2.2.2.2.2.2.2.2.2.2.2.2.2.2.2.2.2.1, ZD.out.1.2.2.2.2.2.2.2.2.2.2.2.2.2.2.2.2.2.2.2.2.1, ZD.out.1.2.2.2.2.2.2.2.2.2.2.2.2.2.2.2.2.2.2.2.2.2.1, ZD.out.1.2.2.2.2.2.2.2.2.2.2.2.2.2.2.2.2.2.2.2.2.2.2.1, ZD.out.1.2.2.2.2.2.2.2.2.2.2.2.2.2.2.2.2.2.2.2.2.2.2.2.1, trivial⟩, ZD.out.2⟩
      clear q ZC ZD
      go_wp2_with fail
      go_meet
      exact ZE.out
  case rest =>
  obtain ⟨w26, rfl⟩ : ∃ x, x = wc := ⟨_, rfl⟩
  have Z26 : Hid (Lies w [dTw bh th (.slice hp n hq) l, wTw bw tw (.agg #[.int .i64 s0, .slice wp m0 wq]) ⟨s0, ls0⟩, Thing.box gW #[.int .i64 s0, .slice wp m0 wq] 29, wTw bp tp (.agg #[.int .i64 sP, .slice pp mP pq]) ⟨sP, lsP⟩, Thing.box gP #[.int .i64 sP, .slice pp mP pq] 29, Thing.box gd #[.int .i64 d0, .int .i64 d1] 33, wTw bx tx (.agg #[.int .i64 sX, .slice xp mX xq]) ⟨sX, lsX⟩, Thing.box gX #[.int .i64 sX, .slice xp mX xq] 29, wTw bt tt (.agg #[.int .i64 sT, .slice tp1 mT tq1]) ⟨sT, lsT⟩, Thing.box gT #[.int .i64 sT, .slice tp1 mT tq1] 29, wTw by1 ty1 (.agg #[.int .i64 sY, .slice yp mY yq]) ⟨sY, lsY⟩, Thing.box gY #[.int .i64 sY, .slice yp mY yq] 29, Thing.box gf #[.int .i64 f0, .int .i64 f1] 33, wTw bb tb (.agg #[.int .i64 sB, .slice bp1 mB bq1]) ⟨sB, lsB⟩, Thing.box gB #[.int .i64 sB, .slice bp1 mB bq1] 29, dTw be te (.slice ep nE eq) E, wTw bz tz (.agg #[.int .i64 s0, .slice zp m0 zq]) ⟨s0, ls0⟩, Thing.box gZ #[.int .i64 s0, .slice zp m0 zq] 29, wTw bu tu (.agg #[.int .i64 sX, .slice up mX uq]) ⟨sX, lsX⟩, Thing.box gU #[.int .i64 sX, .slice up mX uq] 29, wTw bv tv (.agg #[.int .i64 sY, .slice vp mY vq]) ⟨sY, lsY⟩, Thing.box gV #[.int .i64 sY, .slice vp mY vq] 29, Thing.box gk #[.int .i64 f0, .int .i64 f1] 33, dTw bo to1 (.slice op nE oq) E] w26) := hcut.out
  clear hcut Z25
  cases is
  · have bl : Hid (Below w.heap.size w w26) := Z26.out.2
    clear Z26
    go_wp2
    go_ret
    exact ⟨rfl, bl.out⟩
  obtain ⟨hk1, hk2, hk3⟩ := HR0.out.1 (by first | exact trivial | exact rfl)
  have hgW : w.heap.size ≤ gW ∧ th ≤ gW ∧ tw ≤ gW := HgW.out
  have H0 : Hid (∃ (l : List Du) (r : Wh) (b t b2 t2 m : Nat) (xp : Option Addr) (xq : Nat), WhL w gW l (.slice hp n hq) n r b t b2 t2 m xp xq w26) := ⟨l, ⟨s0, ls0⟩, bh, th, bw, tw, m0, wp, wq, hk1, Hn.out.1, hk2, hk3, Hm0.out, ⟨⟨Z26.out.1.1, Z26.out.1.2.1, Z26.out.1.2.2.1, trivial⟩, Z26.out.2⟩, ⟨.inl hgW.2.1, .inl hgW.2.2⟩, hgW.1⟩
  clear Z26 hk1 hk2 hk3 hgW
  go_wp2_with fail
  go_loopw [3, 29, 30, 31, 32, 33, 34] (fun y _ _ _ _ _ _ wr => ∃ (p : Option Addr) (z q : Nat), y = .slice p z q ∧ Hid (∃ (l : List Du) (r : Wh) (b t b2 t2 m : Nat) (xp : Option Addr) (xq : Nat), WhL w gW l (.slice p z q) z r b t b2 t2 m xp xq wr)) (fun y _ _ _ _ _ _ _ => sliceLen y)
  case atStart => exact ⟨hp, n, hq, rfl, H0.out⟩
  case round =>
    obtain ⟨hp1, z, hq1, rfl, HE0⟩ := hrel
    obtain ⟨l1, r1, b, t, b2, t2, m, xp1, xq1, HH⟩ : ∃ (l : List Du) (r : Wh) (b t b2 t2 m : Nat) (xp : Option Addr) (xq : Nat), Hid (WhL w gW l (.slice hp1 z hq1) z r b t b2 t2 m xp xq wr) := HE0.out
    clear H0 HE0
    obtain ⟨wo, rfl⟩ : ∃ wo, wo = wr := ⟨_, rfl⟩
    obtain ⟨hA, hB, hC⟩ := heap_wheel HH.out.ok HH.out.rok HH.out.perm
    have C6 := fun v W h => HT'.out l1 v W (by have := (hok_is.1 HH.out.ok).1; omega) h
    have C7 := fun v W h => WT'.out r1 v W (Wh.ok_big HH.out.rok) h
    rw [hA, hB] at C6
    have HC : Hid (r1.takeB = true → hok (takeH l1) = true ∧ r1.take.ok = true ∧ (takeH l1).Perm r1.take.slots.flatten ∧ (takeH l1).length + 1 = z) := fun h => ⟨(hC h).1, (hC h).2.1, (hC h).2.2, by rw [← HH.out.len]; exact take_len (by rw [hA]; exact h)⟩
    clear hA hB hC
    generalize takeH l1 = l2 at C6 HC
    generalize r1.take = r2 at C7 HC
    generalize r1.takeB = bb at C6 C7 HC
    generalize r1.takeD = d at C6 C7
    obtain ⟨s2, ls2⟩ := r2
    obtain ⟨s1, ls1⟩ := r1
    obtain ⟨e0, e1⟩ := d
    simp only [] at C6 C7
    obtain ⟨z2, hz2⟩ : ∃ z2, l2.length = z2 := ⟨_, rfl⟩
    obtain ⟨m2, hm2⟩ : ∃ m2, ls2.length = m2 := ⟨_, rfl⟩
    rw [hz2] at C6
    rw [hm2] at C7
    have HS : Hid (l2.length = z2 ∧ ls2.length = m2) := ⟨hz2, hm2⟩
    have C6' : Hid _ := C6
    have C7' : Hid _ := C7
    clear C6 C7 hz2 hm2
    go_wp2_with fail
    refine (C6'.out _ _ (show DusW _ _ _ _ _ from HH.out.lies.1.1.1).at).mono ?_
    rintro e v1 ⟨⟨ap, aq, rfl, i1⟩, q⟩
    have B1 : Hid (Lies w [wTw b2 t2 (.agg #[.int .i64 s1, .slice xp1 m xq1]) ⟨s1, ls1⟩, Thing.box gW #[.int .i64 s1, .slice xp1 m xq1] 29, dTw wo.heap.size v1.heap.size (.slice ap z2 aq) l2, Thing.box v1.heap.size #[.int .i64 e0, .int .i64 e1] 33] ((v1.alloc (.cells #[.int .i64 0, .int .i64 0] 33)).setRow v1.heap.size #[.int .i64 e0, .int .i64 e1])) := by
      have h1 : Lies w [wTw b2 t2 (.agg #[.int .i64 s1, .slice xp1 m xq1]) ⟨s1, ls1⟩, Thing.box gW #[.int .i64 s1, .slice xp1 m xq1] 29] wo := ⟨HH.out.lies.1.2, HH.out.lies.2⟩
      have h2 : Lies w [wTw b2 t2 (.agg #[.int .i64 s1, .slice xp1 m xq1]) ⟨s1, ls1⟩, Thing.box gW #[.int .i64 s1, .slice xp1 m xq1] 29, dTw wo.heap.size v1.heap.size (.slice ap z2 aq) l2] v1 := h1.more q ⟨⟨i1, Nat.le_refl _⟩, trivial⟩
      exact lies_varw h2 _ _ _
    have O1 : Hid (gW < wo.heap.size ∧ w.heap.size ≤ gW) := ⟨(show Boxed _ _ _ _ from HH.out.lies.1.2.2.1).under, HH.out.gw⟩
    have N : Hid (Boxed (v1.alloc (.cells #[.int .i64 0, .int .i64 0] 33)) v1.heap.size #[.int .i64 0, .int .i64 0] 33) := Boxed.new _ _ _
    clear q i1 HH C6'
    go_upto_region 30 with (refine wpList_store_row rfl 33 (.tmp _) (.tmp _) rfl v1.heap.size #[.int .i64 e0, .int .i64 e1] rfl rfl _ _ N.out (by kernel_rfl) rfl (duOnes _ _) ?_)
    generalize ((v1.alloc (.cells #[.int .i64 0, .int .i64 0] 33)).setRow v1.heap.size #[.int .i64 e0, .int .i64 e1]) = v2 at B1 ⊢
    clear N
    generalize v1.heap.size = gE at B1 ⊢
    generalize wo.heap.size = bA at B1 O1 ⊢
    go_wp2_with (refine wpList_load_row rfl 29 (.tmp _) rfl gW rfl _ _ _ _ (show Boxed _ _ _ _ from B1.out.1.2.1) Tryz.underlying29 rfl (by kernel_rfl) ?_)
    refine (C7'.out _ _ (show WhIn _ _ _ _ _ from B1.out.1.1.1).at).mono ?_
    rintro e v3 ⟨⟨cp, cq, rfl, i1⟩, q⟩
    have B2 : Hid (Lies w [Thing.box gW #[.int .i64 s1, .slice xp1 m xq1] 29, dTw bA gE (.slice ap z2 aq) l2, Thing.box gE #[.int .i64 e0, .int .i64 e1] 33, wTw v2.heap.size v3.heap.size (.agg #[.int .i64 s2, .slice cp m2 cq]) ⟨s2, ls2⟩, Thing.box v3.heap.size #[.int .i64 s2, .slice cp m2 cq] 29, Thing.box (v3.heap.size + 1) #[.int .i64 e0, .int .i64 e1] 33] ((((v3.alloc (.cells #[.int .i64 0, .slice none 0 0] 29)).alloc (.cells #[.int .i64 0, .int .i64 0] 33)).setRow v3.heap.size #[.int .i64 s2, .slice cp m2 cq]).setRow (v3.heap.size + 1) #[.int .i64 e0, .int .i64 e1])) := by
      have h1 : Lies w [Thing.box gW #[.int .i64 s1, .slice xp1 m xq1] 29, dTw bA gE (.slice ap z2 aq) l2, Thing.box gE #[.int .i64 e0, .int .i64 e1] 33] v2 := ⟨B1.out.1.2, B1.out.2⟩
      have h2 : Lies w [Thing.box gW #[.int .i64 s1, .slice xp1 m xq1] 29, dTw bA gE (.slice ap z2 aq) l2, Thing.box gE #[.int .i64 e0, .int .i64 e1] 33, wTw v2.heap.size v3.heap.size (.agg #[.int .i64 s2, .slice cp m2 cq]) ⟨s2, ls2⟩] v3 := h1.more q ⟨⟨i1, Nat.le_refl _⟩, trivial⟩
      exact lies_var2w h2 _ _ _ _ _ _
    have O2 : Hid (gW < v2.heap.size ∧ v2.heap.size ≤ v3.heap.size) := ⟨(show Boxed _ _ _ _ from B1.out.1.2.1).under, q.size⟩
    have N : Hid _ := boxed_two (W := v3) #[.int .i64 0, .slice none 0 0] #[.int .i64 0, .int .i64 0] #[.int .i64 s2, .slice cp m2 cq] 29 33
    clear q i1 B1 C7'
    go_upto_region 31 with (first | (refine wpList_store_row rfl 29 (.tmp _) (.tmp _) rfl v3.heap.size #[.int .i64 s2, .slice cp m2 cq] rfl rfl _ _ N.out.1 (by kernel_rfl) rfl (whOnes _ _ _ _) ?_) | (refine wpList_store_row rfl 33 (.tmp _) (.tmp _) rfl (v3.heap.size + 1) #[.int .i64 e0, .int .i64 e1] rfl rfl _ _ N.out.2 (by kernel_rfl) rfl (duOnes _ _) ?_))
    generalize ((((v3.alloc (.cells #[.int .i64 0, .slice none 0 0] 29)).alloc (.cells #[.int .i64 0, .int .i64 0] 33)).setRow v3.heap.size #[.int .i64 s2, .slice cp m2 cq]).setRow (v3.heap.size + 1) #[.int .i64 e0, .int .i64 e1]) = v4 at B2 ⊢
    clear N
    generalize v2.heap.size = bC at B2 O2 ⊢
    generalize v3.heap.size = gC at B2 O2 ⊢
    obtain ⟨gF, hgF⟩ : ∃ b, b = gC + 1 := ⟨_, rfl⟩
    rw [← hgF] at B2 ⊢
    clear hgF
    have c0 : v4.cell? ⟨gE, 0, none⟩ = some (.int .i64 e0) := Boxed.cell (show Boxed _ _ _ _ from B2.out.1.2.2.1) 0 rfl
    have c1 : v4.cell? ⟨gE, 1, none⟩ = some (.int .i64 e1) := Boxed.cell (show Boxed _ _ _ _ from B2.out.1.2.2.1) 1 rfl
    have d0 : v4.cell? ⟨gF, 0, none⟩ = some (.int .i64 e0) := Boxed.cell (show Boxed _ _ _ _ from B2.out.1.2.2.2.2.2.1) 0 rfl
    have d1 : v4.cell? ⟨gF, 1, none⟩ = some (.int .i64 e1) := Boxed.cell (show Boxed _ _ _ _ from B2.out.1.2.2.2.2.2.1) 1 rfl
    cases bb
    · have bl : Hid (Below w.heap.size w v4) := B2.out.2
      clear B2 HC O1 O2
      go_wp2_with fail
      go_ret
      exact ⟨rfl, bl.out⟩
    · obtain ⟨h1, h2, h3, h4⟩ := HC.out (by first | exact trivial | exact rfl)
      have hz : z2 + 1 = z := by rw [← HS.out.1]; exact h4
      have Hz : Hid (z2 + 1 = z) := hz
      have Fin : Hid (∃ (l : List Du) (r : Wh) (b t b2 t2 m : Nat) (xp : Option Addr) (xq : Nat), WhL w gW l (.slice ap z2 aq) z2 r b t b2 t2 m xp xq (v4.setRow gW #[.int .i64 s2, .slice cp m2 cq])) := by
        have o1 := O1.out
        have o2 := O2.out
        have B := B2.out
        refine ⟨l2, ⟨s2, ls2⟩, bA, gE, bC, gC, m2, cp, cq, h1, HS.out.1, h2, h3, HS.out.2, ⟨⟨⟨DusW.keep B.1.2.1.1 (by rw [size_setRow]; exact Nat.le_refl _) (fun k j1 j2 => setRow_other _ _ _ _ (by omega)), by rw [size_setRow]; exact B.1.2.1.2⟩, ⟨WhIn.keep B.1.2.2.2.1.1 (by rw [size_setRow]; exact Nat.le_refl _) (fun k j1 j2 => setRow_other _ _ _ _ (by omega)), by rw [size_setRow]; exact B.1.2.2.2.1.2⟩, setRow_heap _ _ _ _ _ _ (show Boxed _ _ _ _ from B.1.1), trivial⟩, below_setRow B.2 o1.2 _⟩, ⟨.inr o1.1, .inr o2.1⟩, o1.2⟩
      clear h1 h2 h3 h4 hz HC HS O1 O2
      go_wp2_with (first | (refine wpList_load_row rfl 29 (.tmp _) rfl gC rfl _ _ _ _ (show Boxed _ _ _ _ from B2.out.1.2.2.2.2.1) Tryz.underlying29 rfl (by kernel_rfl) ?_) | (refine wpList_store_row rfl 29 (.tmp 5) (.tmp _) rfl gW #[.int .i64 s2, .slice cp m2 cq] rfl rfl _ _ (show Boxed _ _ _ _ from B2.out.1.1) (by kernel_rfl) rfl (whOnes _ _ _ _) ?_))
      simp only [Act.put, List.setIfInBounds_toArray, List.set_cons_succ, List.set_cons_zero]
      go_roundw
      case rel => exact ⟨ap, z2, aq, rfl, Fin⟩
      case measure => have := Hz.out; simp [sliceLen]; omega
end Go.Proofs.YtkocbfikcjgigaaGreat
