/-
  The walks of the program's Begins and Chosen, and of the choice among those that may. By the verifier.
-/
import Derived.Test.YtllmkolchgmjoaaFwFn
import Derived.Test.YtllmkolchgmjoaaFwEmp
import Derived.Shelf.Abstract
import Derived.WalkKit
import Derived.WalkSpells
import Derived.WalkLawsBesides
import Derived.RegionTactic
namespace Go.Proofs.Ytllmkolchgmjoaa
open Go.RowKit

theorem payRow (v : Value) (x y : Int) (w : World) : (Instr.field 55 (.agg #[v, .int .i64 x, .int .i64 y]) 0).run Try.prog w = .ok v w := by rfl
theorem implBeg (x : Fw) (a : Option Addr) (c : Nat) (now : Int) (w : World) :
    Calls Try.prog 54 #[x.pay a c, .int .i64 now] w fun e w' => e = .returned (.int .i64 (max now x.finish)) ∧ Below w.heap.size w w' := by
  obtain ⟨t, u, fl⟩ := x
  simp only [Fw.pay]
  generalize fl.length = n
  go_enter Try.func54, Try.ntmps54
  go_wp2
  all_goals
    go_ret
    exact ⟨congrArg (fun z => Ending.returned (Value.int .i64 z)) (by first | rfl | omega | (simp only [Int.max_def]; split <;> omega)), (Below.refl _ _).alloc (Nat.le_refl _) _⟩

theorem Fs.begins_at {f : Fs} (hk : f.ok = true) {H : Nat} (hH : H < f.flows.length) : f.begins (H : Int) = if 0 < (fwAt f.flows H).sizes.length then max f.now (fwAt f.flows H).finish else -1 := by
  unfold Fs.begins Fs.waits Fs.beg
  rw [hk, show inB 0 ((f.flows.length : Int) - 1) (H : Int) = true by rw [inB_true]; omega, Int.toNat_natCast]
  simp

set_option maxHeartbeats 3200000 in
set_option maxRecDepth 100000 in
theorem implBegins (d : Fs) (v : Value) (flow : Int) (w : World) (hB : d.big ≤ 1048576) (h : Hid (FsAt w v d)) :
    Calls Try.prog 20 #[v, .int .i64 flow] w fun e w' => e = .returned (.int .i64 (d.begins flow)) ∧ Below w.heap.size w w' := by
  have A1 := fun v w h => implFairOk d v w hB h
  have hT := (Fs.small hB).1
  have AP := fun (w : World) => implPlace d.flows.length flow w hT
  obtain ⟨a, c, rfl, k1⟩ := h.out
  clear h
  have Hn0 : Hid (d.ok = false → d.begins flow = -1) := fun e => by show d.begins flow = -1; unfold Fs.begins; rw [e]; rfl
  have Hn1 : Hid (inB 0 ((d.flows.length : Int) - 1) flow = false → d.begins flow = -1) := fun e => by show d.begins flow = -1; unfold Fs.begins; rw [e]; simp
  have Hy : Hid (d.ok = true → ∀ H : Nat, H < d.flows.length → flow = (H : Int) → d.begins flow = if 0 < (fwAt d.flows H).sizes.length then max d.now (fwAt d.flows H).finish else -1) := fun hk H hH e => by rw [e]; exact Fs.begins_at hk hH
  generalize d.begins flow = R at Hn0 Hn1 Hy ⊢
  have A2 : ∀ a c w, FwsAt w a d.flows → Calls Try.prog 12 #[.agg #[.int .i64 d.now, .slice a d.flows.length c]] w fun e w' => e = .returned (.bool d.ok) ∧ Below w.heap.size w w' := fun a c w h => A1 _ w ⟨a, c, rfl, h⟩
  generalize d.ok = ok at A2 Hn0 Hy
  clear A1 hB
  obtain ⟨f, ls⟩ := d
  simp only [Fs.val] at A2 AP Hn1 Hy k1 hT ⊢
  obtain ⟨len, hlen⟩ : ∃ n, ls.length = n := ⟨_, rfl⟩
  have Hlen : Hid (ls.length = len) := hlen
  rw [hlen] at A2 AP Hn1 Hy hT ⊢
  clear hlen
  have A2' : Hid _ := A2
  have Hp : Hid (inB 0 ((len : Int) - 1) flow = true ↔ 0 ≤ flow ∧ flow ≤ (len : Int) - 1) := inB_true
  generalize inB 0 ((len : Int) - 1) flow = pl at AP Hn1 Hp
  have AP' : Hid _ := AP
  clear A2 AP
  have X : Hid (FwsAt (w.alloc (.cells #[.int .i64 f, .slice a len c] 26)) a ls ∧ Boxed (w.alloc (.cells #[.int .i64 f, .slice a len c] 26)) w.heap.size #[.int .i64 f, .slice a len c] 26 ∧ Below w.heap.size w (w.alloc (.cells #[.int .i64 f, .slice a len c] 26))) := ⟨k1.alloc _, Boxed.new _ _ _, (Below.refl _ _).alloc (Nat.le_refl _) _⟩
  clear k1
  go_enter Try.func20, Try.ntmps20
  go_wp2_with (refine wpList_load_row rfl 26 (.tmp 2) rfl w.heap.size rfl _ _ _ _ X.out.2.1 Try.underlying26 rfl (by kernel_rfl) ?_)
  refine (A2'.out _ _ _ X.out.1).mono ?_
  rintro e W0 ⟨rfl, q⟩
  have X0 : Hid (FwsAt W0 a ls ∧ Boxed W0 w.heap.size #[.int .i64 f, .slice a len c] 26 ∧ Below w.heap.size w W0) := ⟨X.out.1.below q, X.out.2.1.below X.out.2.1.under q, X.out.2.2.trans (q.mono X.out.2.2.size)⟩
  clear q X A2'
  cases ok
  · have e1 : R = -1 := Hn0.out rfl
    subst e1
    go_wp2
    go_ret
    exact ⟨rfl, X0.out.2.2⟩
  have ca : W0.cell? ⟨w.heap.size, 1, none⟩ = some (.slice a len c) := X0.out.2.1.cell 1 rfl
  have X1 : Hid (FwsAt (W0.alloc (.cells #[.int .i64 flow] 2)) a ls ∧ Boxed (W0.alloc (.cells #[.int .i64 flow] 2)) w.heap.size #[.int .i64 f, .slice a len c] 26 ∧ Below w.heap.size w (W0.alloc (.cells #[.int .i64 flow] 2))) := ⟨X0.out.1.alloc _, X0.out.2.1.more _, X0.out.2.2.alloc X0.out.2.2.size _⟩
  cases pl
  · have e1 : R = -1 := Hn1.out rfl
    subst e1
    go_wp2_with fail
    refine (AP'.out _).mono ?_
    rintro e w' ⟨rfl, rfl⟩
    go_wp2
    go_ret
    exact ⟨rfl, X1.out.2.2⟩
  obtain ⟨g1, g2⟩ := Hp.out.1 (by first | exact trivial | exact rfl)
  go_wp2_with fail
  refine (AP'.out _).mono ?_
  rintro e W ⟨rfl, hW⟩
  rw [← hW] at X1
  clear hW AP' X0 ca Hp Hn0 Hn1
  obtain ⟨H, hH⟩ : ∃ H : Nat, flow = H := ⟨flow.toNat, by omega⟩
  subst hH
  have hHl : H < len := by omega
  have HR := Hy.out (by first | exact trivial | exact rfl) H hHl rfl
  clear Hy
  have cb : W.cell? ⟨w.heap.size, 1, none⟩ = some (.slice a len c) := X1.out.2.1.cell 1 rfl
  obtain ⟨b, off, ak, ck, ha, hb, ⟨c0, c1, c2⟩, hr, -⟩ := X1.out.1 H (by rw [Hlen.out]; exact hHl)
  subst ha
  have D := fun w => implPayerOf (fwAt ls H) ak ck w
  have E := fun w => implBeg (fwAt ls H) ak ck f w
  have F := fun w => implEmpty ak (fwAt ls H).sizes.length ck w
  generalize max f (fwAt ls H).finish = mx at HR E
  generalize fwAt ls H = q at c0 c1 c2 D E F HR
  obtain ⟨t, u, fl⟩ := q
  simp only [Fw.val, Fw.pay] at c0 c1 c2 D E F HR
  generalize fl.length = n at c2 D E F HR
  have HR' : Hid _ := HR
  have D' : Hid _ := D
  have E' : Hid _ := E
  have F' : Hid _ := F
  clear D E F hr HR
  have g2' : (H : Int) < (len : Int) := by omega
  go_wp2_with fail
  refine (D'.out _).mono ?_
  rintro e w2 ⟨rfl, q⟩
  have X2 : Hid (Boxed w2 w.heap.size #[.int .i64 f, .slice (some ⟨b, off, none⟩) len c] 26 ∧ Below w.heap.size w w2) := ⟨X1.out.2.1.below X1.out.2.1.under q, X1.out.2.2.trans (q.mono X1.out.2.2.size)⟩
  clear q c0 c1 c2 cb D' X1
  have N : Hid (Boxed (w2.alloc (.cells #[.slice none 0 0, .int .i64 0, .int .i64 0] 55)) w2.heap.size #[.slice none 0 0, .int .i64 0, .int .i64 0] 55) := Boxed.new _ _ _
  obtain ⟨w3, hw3⟩ : ∃ w3, (w2.alloc (.cells #[.slice none 0 0, .int .i64 0, .int .i64 0] 55)).setRow w2.heap.size #[.slice ak n ck, .int .i64 t, .int .i64 u] = w3 := ⟨_, rfl⟩
  have b3 : Below w2.heap.size w2 w3 := by rw [← hw3]; exact below_setRow ((Below.refl _ _).alloc (Nat.le_refl _) _) (Nat.le_refl _) _
  have X3 : Hid (Boxed w3 w.heap.size #[.int .i64 f, .slice (some ⟨b, off, none⟩) len c] 26 ∧ Boxed w3 w2.heap.size #[.slice ak n ck, .int .i64 t, .int .i64 u] 55 ∧ Below w.heap.size w w3) := ⟨X2.out.1.below X2.out.1.under b3, by rw [← hw3]; exact setRow_heap _ _ _ _ _ _ N.out, X2.out.2.trans (b3.mono X2.out.2.size)⟩
  have H3 : Hid _ := hw3
  clear hw3 b3 X2
  go_upto_region 4 with (refine wpList_store_row rfl 55 (.tmp 5) (.tmp 22) rfl w2.heap.size #[.slice ak n ck, .int .i64 t, .int .i64 u] rfl rfl _ _ N.out (by kernel_rfl) rfl (by simp [Value.oneCell']) ?_)
  rw [H3.out]
  generalize w2.heap.size = B at X3 ⊢
  clear N H3
  have d0 : w3.cell? ⟨B, 0, none⟩ = some (.slice ak n ck) := X3.out.2.1.cell 0 rfl
  have d1 : w3.cell? ⟨B, 1, none⟩ = some (.int .i64 t) := X3.out.2.1.cell 1 rfl
  have d2 : w3.cell? ⟨B, 2, none⟩ = some (.int .i64 u) := X3.out.2.1.cell 2 rfl
  have d3 : w3.cell? ⟨w.heap.size, 0, none⟩ = some (.int .i64 f) := X3.out.1.cell 0 rfl
  go_wp2_with fail
  refine (F'.out _).mono ?_
  rintro e w4 ⟨rfl, rfl⟩
  clear F'
  by_cases hn : (n : Int) = 0
  · rw [decide_eq_true hn]
    have e1 : R = -1 := by rw [HR'.out, if_neg (by omega)]
    subst e1
    clear hn HR'
    go_wp2
    go_ret
    exact ⟨rfl, X3.out.2.2⟩
  · rw [decide_eq_false hn]
    have e1 : R = mx := by rw [HR'.out, if_pos (by omega)]
    subst e1
    clear hn HR'
    go_wp2_with fail
    refine (E'.out _).mono ?_
    rintro e w5 ⟨rfl, q⟩
    have X5 : Hid (Below w.heap.size w w5) := X3.out.2.2.trans (q.mono X3.out.2.2.size)
    clear q
    go_wp2
    go_ret
    exact ⟨rfl, X5.out⟩

/-- What begins first among the first k, and none below nought. -/
def Fs.leastOf (f : Fs) (k : Nat) : Int := if f.best k < 0 then -1 else f.beg (f.best k).toNat
theorem Fs.begins_of {f : Fs} (hk : f.ok = true) {k : Nat} (hkl : k < f.flows.length) : (f.waits k = true ∧ f.begins (k : Int) = f.beg k ∧ 0 ≤ f.beg k) ∨ (f.waits k = false ∧ f.begins (k : Int) = -1) := by
  have h0 := (Fs.ok_iff.1 hk).1
  have h1 : f.begins (k : Int) = if f.waits k = true then f.beg k else -1 := by
    unfold Fs.begins
    rw [hk, show inB 0 ((f.flows.length : Int) - 1) (k : Int) = true by rw [inB_true]; omega, Int.toNat_natCast]
    simp
  cases hw : f.waits k with
  | false => exact .inr ⟨rfl, by rw [h1, hw]; rfl⟩
  | true =>
    refine .inl ⟨rfl, by rw [h1, hw]; rfl, ?_⟩
    unfold Fs.beg
    omega

/-- A function that tells which may, as long as all that lay lies. -/
structure MayF (W0 : World) (g : FuncId) (fs cb : Array Value) (Q : Nat → Prop) (p : Nat → Bool) : Prop where
  enters : Enters Try.prog g
  tells : ∀ (W : World) (k : Nat), Q k → Below W0.heap.size W0 W → Calls Try.prog g (fs ++ #[.int .i64 (k : Int)] ++ cb) W fun e w' => e = .returned (.bool (p k)) ∧ Below W.heap.size W w'
/-- Of those that may, the one that begins first among the first k. -/
def Fs.bestP (f : Fs) (p : Nat → Bool) : Nat → Int
  | 0 => -1
  | k + 1 => if (f.waits k && (p k && (decide (f.bestP p k < 0) || decide (f.beg k < f.beg (f.bestP p k).toNat)))) = true then (k : Int) else f.bestP p k
def Fs.leastP (f : Fs) (p : Nat → Bool) (k : Nat) : Int := if f.bestP p k < 0 then -1 else f.beg (f.bestP p k).toNat
theorem Fs.bestP_in (f : Fs) (p : Nat → Bool) (k : Nat) : -1 ≤ f.bestP p k ∧ f.bestP p k < k := by
  induction k with
  | zero => exact ⟨Int.le_refl _, by show (-1 : Int) < ((0 : Nat) : Int); omega⟩
  | succ k ih =>
    unfold Fs.bestP
    split <;> omega
theorem Fs.bestP_all (f : Fs) (k : Nat) : f.bestP (fun _ => true) k = f.best k := by
  induction k with
  | zero => rfl
  | succ k ih =>
    unfold Fs.bestP Fs.best
    rw [ih, Bool.true_and]

set_option maxHeartbeats 3200000 in
set_option maxRecDepth 100000 in
theorem implChosenOf (d : Fs) (a : Option Addr) (c : Nat) (g : FuncId) (fs cb : Array Value) (p : Nat → Bool) (w : World) (hB : d.big ≤ 1048576) (hok : d.ok = true) (h : Hid (FwsAt w a d.flows)) (hm : Hid (MayF w g fs cb (fun k => k < d.flows.length ∧ d.waits k = true) p)) :
    Calls Try.prog 43 #[.agg #[.int .i64 d.now, .slice a d.flows.length c], .func (.func g) fs cb] w fun e w' => e = .returned (.int .i64 (d.bestP p d.flows.length)) ∧ Below w.heap.size w w' := by
  have eg : ∀ args w, (callFunc g args).run Try.prog w = .ok (.enter g args) w := hm.out.enters
  have A3 := fun v flow w h => implBegins d v flow w hB h
  have Hs : Hid (∀ k, d.bestP p (k + 1) = if (d.waits k && (p k && (decide (d.bestP p k < 0) || decide (d.beg k < d.beg (d.bestP p k).toNat)))) = true then (k : Int) else d.bestP p k) := fun k => rfl
  have Hl : Hid (∀ k, d.leastP p k = if d.bestP p k < 0 then -1 else d.beg (d.bestP p k).toNat) := fun k => rfl
  have Hbi : Hid (∀ k, -1 ≤ d.bestP p k ∧ d.bestP p k < k) := fun k => d.bestP_in p k
  have Hbo : Hid (∀ k, k < d.flows.length → (d.waits k = true ∧ d.begins (k : Int) = d.beg k ∧ 0 ≤ d.beg k) ∨ (d.waits k = false ∧ d.begins (k : Int) = -1)) := fun k hkl => Fs.begins_of hok hkl
  have h8 : d.flows.length ≤ 8 := (Fs.ok_iff.1 hok).2.1.2
  have H0 : Hid (d.bestP p 0 = -1 ∧ d.leastP p 0 = -1) := ⟨rfl, rfl⟩
  have HM : Hid (∀ k, k < d.flows.length → d.waits k = true → ∀ W, Below w.heap.size w W → Calls Try.prog g (fs ++ #[.int .i64 (k : Int)] ++ cb) W fun e w' => e = .returned (.bool (p k)) ∧ Below W.heap.size W w') := fun k h1 h2 W h3 => hm.out.tells W k ⟨h1, h2⟩ h3
  have A4 : ∀ a c flow w, FwsAt w a d.flows → Calls Try.prog 20 #[.agg #[.int .i64 d.now, .slice a d.flows.length c], .int .i64 flow] w fun e w' => e = .returned (.int .i64 (d.begins flow)) ∧ Below w.heap.size w w' := fun a c flow w h => A3 _ flow w ⟨a, c, rfl, h⟩
  clear A3 hB hm hok
  generalize d.leastP p = least at Hl H0
  generalize d.bestP p = best at Hs Hl Hbi H0 ⊢
  generalize d.waits = waits at Hs Hbo HM
  generalize d.beg = beg at Hs Hl Hbo
  generalize d.begins = begins at A4 Hbo
  obtain ⟨f, ls⟩ := d
  simp only at A4 Hbo HM h8 h ⊢
  obtain ⟨len, hlen⟩ : ∃ n, ls.length = n := ⟨_, rfl⟩
  rw [hlen] at A4 Hbo HM h8 ⊢
  clear hlen
  have A4' : Hid _ := A4
  clear A4
  have X0 : Hid (FwsAt (w.alloc (.cells #[.int .i64 f, .slice a len c] 26)) a ls ∧ Boxed (w.alloc (.cells #[.int .i64 f, .slice a len c] 26)) w.heap.size #[.int .i64 f, .slice a len c] 26 ∧ Below w.heap.size w (w.alloc (.cells #[.int .i64 f, .slice a len c] 26))) := ⟨h.out.alloc _, Boxed.new _ _ _, (Below.refl _ _).alloc (Nat.le_refl _) _⟩
  clear h
  obtain ⟨W, hW⟩ : ∃ W, W = w.alloc (.cells #[.int .i64 f, .slice a len c] 26) := ⟨_, rfl⟩
  rw [← hW] at X0
  have HW : Hid (W = _) := hW
  clear hW
  have ca : W.cell? ⟨w.heap.size, 1, none⟩ = some (.slice a len c) := X0.out.2.1.cell 1 rfl
  have hWs : Hid (w.heap.size < W.heap.size) := X0.out.2.1.under
  go_enter Try.func43, Try.ntmps43
  go_upto_region 1 with fail
  rw [← HW.out]
  clear HW
  go_wp2
  clear ca
  go_loopw [5, 6, 7, 8, 12] (fun ch le _ _ i wr => ∃ (k : Nat) (z y : Int), k ≤ len ∧ i = .int .i64 k ∧ ch = .int .i64 z ∧ le = .int .i64 y ∧ Hid (z = best k) ∧ Hid (y = least k) ∧ Hid (Below W.heap.size W wr)) (fun _ _ _ _ i _ => len - (intOf i).toNat)
  case atStart => exact ⟨0, -1, -1, Nat.zero_le _, rfl, rfl, rfl, H0.out.1.symm, H0.out.2.symm, Below.refl _ _⟩
  case round =>
    obtain ⟨k, z, y, hk, rfl, rfl, rfl, Hz, Hy, HK⟩ := hrel
    by_cases hlt : k < len
    · have hlt' : (k : Int) < (len : Int) := by omega
      have Xr : Hid (FwsAt wr a ls ∧ Boxed wr w.heap.size #[.int .i64 f, .slice a len c] 26) := ⟨X0.out.1.below HK.out, X0.out.2.1.below hWs.out HK.out⟩
      have hz := Hbi.out k
      rw [← Hz.out] at hz
      have C := fun a c w => A4'.out a c (k : Int) w
      have hb := Hbo.out k hlt
      have hs := Hs.out k
      have hl := Hl.out (k + 1)
      have hl0 := Hl.out k
      rw [← Hz.out] at hs hl0
      rw [← Hy.out] at hl0
      have Mk : Hid (waits k = true → ∀ w1, Below W.heap.size W w1 → Calls Try.prog g (fs ++ #[.int .i64 (k : Int)] ++ cb) w1 fun e w' => e = .returned (.bool (p k)) ∧ Below w1.heap.size w1 w') := fun e w1 q => HM.out k hlt e w1 (X0.out.2.2.trans (q.mono X0.out.2.2.size))
      generalize begins (k : Int) = bg at C hb
      generalize waits k = wt at hb hs Mk
      generalize p k = pk at hs Mk
      have C' : Hid _ := C
      have Hb : Hid _ := hb
      have HS : Hid _ := hs
      have HL : Hid _ := hl
      have HL0 : Hid _ := hl0
      clear C hb hs hl hl0
      go_wp2_with (refine wpList_load_row rfl 26 (.tmp 2) rfl w.heap.size rfl _ _ _ _ Xr.out.2 Try.underlying26 rfl (by kernel_rfl) ?_)
      refine (C'.out _ _ _ Xr.out.1).mono ?_
      rintro e w2 ⟨rfl, q⟩
      have K2 : Hid (Below W.heap.size W w2) := HK.out.trans (q.mono HK.out.size)
      clear q C' Xr
      rcases Hb.out with ⟨e1, e2, e3⟩ | ⟨e1, e2⟩
      · have hbg : ¬ bg = -1 := by omega
        have hbd : (bg == -1) = false := by simpa using hbg
        have M1 := Mk.out e1 w2 K2.out
        subst e1
        have E2 : Hid (bg = beg k) := e2
        clear Mk e2 e3
        go_wp2_with fail
        refine M1.mono ?_
        rintro e w3 ⟨rfl, q⟩
        have K3 : Hid (Below W.heap.size W w3) := K2.out.trans (q.mono K2.out.size)
        clear q M1 K2
        cases pk
        · have F1 : Hid (z = best (k + 1)) := by show z = _; rw [HS.out]; rfl
          have F2 : Hid (y = least (k + 1)) := by show y = _; rw [HL.out, ← F1.out]; exact HL0.out
          clear Hb HS HL HL0 Hz Hy hz E2
          go_wp2
          go_roundw
          case rel => exact ⟨k + 1, z, y, by omega, by go_num, rfl, rfl, F1, F2, K3⟩
          case measure => simp [intOf]; omega
        by_cases hz0 : z = -1
        · have F1 : Hid ((k : Int) = best (k + 1)) := by show (k : Int) = _; rw [HS.out, hz0]; rfl
          have F2 : Hid (bg = least (k + 1)) := by show bg = _; rw [HL.out, ← F1.out, if_neg (by omega), Int.toNat_natCast]; exact E2.out
          subst hz0
          clear Hb HS HL HL0 Hz Hy hz E2
          go_wp2
          go_roundw
          case rel => exact ⟨k + 1, k, bg, by omega, by go_num, rfl, rfl, F1, F2, K3⟩
          case measure => simp [intOf]; omega
        · have hzd : (z == -1) = false := by simpa using hz0
          have hy0 : y = beg z.toNat := by rw [HL0.out, if_neg (by omega)]
          by_cases hlt2 : bg < y
          · have F1 : Hid ((k : Int) = best (k + 1)) := by show (k : Int) = _; rw [HS.out, if_pos (by rw [← hy0, ← E2.out]; simp [hlt2])]
            have F2 : Hid (bg = least (k + 1)) := by show bg = _; rw [HL.out, ← F1.out, if_neg (by omega), Int.toNat_natCast]; exact E2.out
            clear Hb HS HL HL0 Hz Hy hz E2 hy0
            go_wp2
            go_roundw
            case rel => exact ⟨k + 1, k, bg, by omega, by go_num, rfl, rfl, F1, F2, K3⟩
            case measure => simp [intOf]; omega
          · have F1 : Hid (z = best (k + 1)) := by show z = _; rw [HS.out, if_neg (by rw [← hy0, ← E2.out]; simp [hlt2]; omega)]
            have F2 : Hid (y = least (k + 1)) := by show y = _; rw [HL.out, ← F1.out, if_neg (by omega)]; exact hy0
            clear Hb HS HL HL0 Hz Hy hz E2 hy0
            go_wp2
            go_roundw
            case rel => exact ⟨k + 1, z, y, by omega, by go_num, rfl, rfl, F1, F2, K3⟩
            case measure => simp [intOf]; omega
      · have F1 : Hid (z = best (k + 1)) := by show z = _; rw [HS.out, e1]; rfl
        have F2 : Hid (y = least (k + 1)) := by show y = _; rw [HL.out, ← F1.out]; exact HL0.out
        subst e2
        clear Hb HS HL HL0 Hz Hy hz e1 Mk
        go_wp2
        go_roundw
        case rel => exact ⟨k + 1, z, y, by omega, by go_num, rfl, rfl, F1, F2, K2⟩
        case measure => simp [intOf]; omega
    · obtain rfl : k = len := by omega
      have HZ : Hid _ := Hz
      go_wp2
      go_ret
      exact ⟨by rw [HZ.out]; rfl, X0.out.2.2.trans (HK.out.mono X0.out.2.2.size)⟩

theorem implYes (x : Int) (w : World) :
    Calls Try.prog 44 #[.int .i64 x] w fun e w' => e = .returned (.bool true) ∧ Below w.heap.size w w' := by
  go_enter Try.func44, Try.ntmps44
  go_wp2
  go_ret
  exact ⟨rfl, Below.refl _ _⟩

set_option maxHeartbeats 3200000 in
set_option maxRecDepth 100000 in
theorem implChosen (d : Fs) (v : Value) (w : World) (hB : d.big ≤ 1048576) (h : Hid (FsAt w v d)) :
    Calls Try.prog 14 #[v] w fun e w' => e = .returned (.int .i64 d.chosen) ∧ Below w.heap.size w w' := by
  have A1 := fun v w h => implFairOk d v w hB h
  obtain ⟨a, c, rfl, k1⟩ := h.out
  clear h
  have A3 : Hid (d.ok = true → ∀ w, FwsAt w a d.flows → Calls Try.prog 43 #[.agg #[.int .i64 d.now, .slice a d.flows.length c], .func (.func 44) #[] #[]] w fun e w' => e = .returned (.int .i64 d.chosen) ∧ Below w.heap.size w w') := fun hk w hh => by
    have q := implChosenOf d a c 44 #[] #[] (fun _ => true) w hB hk hh ⟨enters_of Try.func44 (by kernel_rfl) rfl, fun W k _ _ => implYes k W⟩
    rw [Fs.bestP_all] at q
    have e : d.chosen = d.best d.flows.length := by unfold Fs.chosen; rw [if_pos hk]
    rw [e]
    exact q
  have Hv : Hid (d.ok = false → d.chosen = -1) := fun hk => by show d.chosen = -1; unfold Fs.chosen; rw [hk]; rfl
  have A2 : ∀ a c w, FwsAt w a d.flows → Calls Try.prog 12 #[.agg #[.int .i64 d.now, .slice a d.flows.length c]] w fun e w' => e = .returned (.bool d.ok) ∧ Below w.heap.size w w' := fun a c w h => A1 _ w ⟨a, c, rfl, h⟩
  clear A1 hB
  generalize d.chosen = R at Hv A3 ⊢
  generalize d.ok = ok at A2 Hv A3
  obtain ⟨f, ls⟩ := d
  simp only [Fs.val] at A2 A3 k1 ⊢
  obtain ⟨len, hlen⟩ : ∃ n, ls.length = n := ⟨_, rfl⟩
  rw [hlen] at A2 A3 ⊢
  clear hlen
  have A2' : Hid _ := A2
  clear A2
  have X : Hid (FwsAt (w.alloc (.cells #[.int .i64 f, .slice a len c] 26)) a ls ∧ Boxed (w.alloc (.cells #[.int .i64 f, .slice a len c] 26)) w.heap.size #[.int .i64 f, .slice a len c] 26 ∧ Below w.heap.size w (w.alloc (.cells #[.int .i64 f, .slice a len c] 26))) := ⟨k1.alloc _, Boxed.new _ _ _, (Below.refl _ _).alloc (Nat.le_refl _) _⟩
  clear k1
  go_enter Try.func14, Try.ntmps14
  go_wp2_with (refine wpList_load_row rfl 26 (.tmp 1) rfl w.heap.size rfl _ _ _ _ X.out.2.1 Try.underlying26 rfl (by kernel_rfl) ?_)
  refine (A2'.out _ _ _ X.out.1).mono ?_
  rintro e W ⟨rfl, q⟩
  have X0 : Hid (FwsAt W a ls ∧ Boxed W w.heap.size #[.int .i64 f, .slice a len c] 26 ∧ Below w.heap.size w W) := ⟨X.out.1.below q, X.out.2.1.below X.out.2.1.under q, X.out.2.2.trans (q.mono X.out.2.2.size)⟩
  clear q X A2'
  cases ok
  · have e1 : R = -1 := Hv.out rfl
    subst e1
    go_wp2
    go_ret
    exact ⟨rfl, X0.out.2.2⟩
  go_wp2_with (refine wpList_load_row rfl 26 (.tmp 1) rfl w.heap.size rfl _ _ _ _ X0.out.2.1 Try.underlying26 rfl (by kernel_rfl) ?_)
  refine (A3.out (by first | exact trivial | exact rfl) _ X0.out.1).mono ?_
  rintro e w2 ⟨rfl, q⟩
  have X2 : Hid (Below w.heap.size w w2) := X0.out.2.2.trans (q.mono X0.out.2.2.size)
  clear q
  go_wp2
  go_ret
  exact ⟨rfl, X2.out⟩
end Go.Proofs.Ytllmkolchgmjoaa
