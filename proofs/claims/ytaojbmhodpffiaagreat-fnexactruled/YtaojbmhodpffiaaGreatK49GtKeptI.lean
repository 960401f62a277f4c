import Derived.Test.YtaojbmhodpffiaaGreatK44ItFn
import Derived.Test.YtaojbmhodpffiaaGreatK4FsPlain
import Derived.Test.YtaojbmhodpffiaaGreatK9StepRow
import Derived.Test.YtaojbmhodpffiaaGreatK1Boxed
import Derived.Deep.DeepCutAuto
import Derived.Laws.CopyOwn
import Derived.Test.YtaojbmhodpffiaaGreatK43LnImpl
import Derived.BigQuiet
import Derived.Test.YtaojbmhodpffiaaGreatK42GtPartF
import Derived.Test.YtaojbmhodpffiaaGreatK8GtSpot
import Derived.Test.YtaojbmhodpffiaaGreatK19GtZero
/-
  The walk of slices.EqualFunc on items and numbers, for whatever function tells yes or no. By the verifier.
-/
namespace Go.Proofs.YtaojbmhodpffiaaGreat
open Go.RowKit Go.Shelf

/-- A function that tells yes or no of an item and a number, as long as all that lay lies. -/
structure EqTells (W0 : World) (g : FuncId) (fs cb : Array Value) (p : It → Int → Bool) : Prop where
  enters : Enters Tryz.prog g
  tells : ∀ (W : World) (r : It) (z : Int), Below W0.heap.size W0 W → Calls Tryz.prog g (fs ++ (#[r.val, .int .i64 z] ++ cb)) W fun e w' => e = .returned (.bool (p r z)) ∧ Below W.heap.size W w'
def eqAll (p : It → Int → Bool) (l : List It) (s : List Int) (n : Nat) : Bool := (List.range n).all fun k => p (itAt l k) (s[k]?.getD 0)
theorem eqAll_succ (p : It → Int → Bool) (l : List It) (s : List Int) (n : Nat) : eqAll p l s (n + 1) = (eqAll p l s n && p (itAt l n) (s[n]?.getD 0)) := by
  simp [eqAll, List.range_succ]
theorem eqAll_hit {p : It → Int → Bool} {l : List It} {s : List Int} {k n : Nat} (h : k < n) (g : p (itAt l k) (s[k]?.getD 0) = false) : eqAll p l s n = false := by
  unfold eqAll
  rw [List.all_eq_false]
  exact ⟨k, List.mem_range.2 h, by rw [g]; decide⟩

set_option maxHeartbeats 1600000 in
set_option maxRecDepth 100000 in
theorem implEqualT (a : Option Addr) (c : Nat) (l : List It) (a2 : Option Addr) (c2 : Nat) (s : List Int) (g : FuncId) (fs cb : Array Value) (p : It → Int → Bool) (w : World) (hT : l.length ≤ 1048576) (hS : s.length ≤ 1048576) (h : Hid (ItsAt w a l)) (h2 : Hid (IntsAt w a2 s)) (ht : Hid (EqTells w g fs cb p)) :
    Calls Tryz.prog 104 #[.slice a l.length c, .slice a2 s.length c2, .func (.func g) fs cb] w fun e w' => e = .returned (.bool (decide (l.length = s.length) && eqAll p l s l.length)) ∧ Below w.heap.size w w' := by
  have eg : ∀ args w, (callFunc g args).run Tryz.prog w = .ok (.enter g args) w := ht.out.enters
  obtain ⟨len, hlen⟩ : ∃ n, l.length = n := ⟨_, rfl⟩
  have Hlen : Hid (l.length = len) := hlen
  obtain ⟨ls, hls⟩ : ∃ n, s.length = n := ⟨_, rfl⟩
  have Hls : Hid (s.length = ls) := hls
  rw [hlen] at hT
  rw [hls] at hS
  rw [hlen, hls]
  clear hlen hls
  have Hv : Hid ((decide (len = ls) && eqAll p l s len) = (decide (len = ls) && eqAll p l s len)) := rfl
  generalize hR : (decide (len = ls) && eqAll p l s len) = R at Hv ⊢
  have HR : Hid (R = (decide (len = ls) && eqAll p l s len)) := hR.symm
  clear hR Hv
  by_cases hne : len = ls
  case neg =>
    have e1 : R = false := by rw [HR.out, decide_eq_false hne]; rfl
    subst e1
    have hn2 : ¬ (len : Int) = (ls : Int) := by omega
    have hn3 : ((len : Int) != (ls : Int)) = true := by simpa using hn2
    go_enter Tryz.func104, Tryz.ntmps104
    go_wp2
    go_ret
    exact ⟨rfl, Below.refl _ _⟩
  subst hne
  have HR2 : Hid (R = eqAll p l s len) := by show R = _; rw [HR.out, decide_eq_true rfl, Bool.true_and]
  clear HR
  go_enter Tryz.func104, Tryz.ntmps104
  go_wp2
  go_loopw [7, 8, 9, 17] (fun _ _ _ i wr => ∃ k : Nat, k ≤ len ∧ i = .int .i64 k ∧ Hid (eqAll p l s k = true) ∧ Hid (Below w.heap.size w wr)) (fun _ _ _ i _ => len - (intOf i).toNat)
  case atStart => exact ⟨0, Nat.zero_le _, rfl, rfl, Below.refl _ _⟩
  case round =>
    obtain ⟨k, hk, rfl, Hg, H1⟩ := hrel
    by_cases hlt : k < len
    · have R1 : Hid (ItsAt wr a l) := h.out.below H1.out
      obtain ⟨b1, o1, ha1, hb1, -⟩ := R1.out k (by rw [Hlen.out]; exact hlt)
      subst ha1
      obtain ⟨c0, c1, c2'⟩ := R1.out.cells (k := k) (by rw [Hlen.out]; exact hlt)
      have S1 : Hid (IntsAt wr a2 s) := h2.out.below H1.out
      obtain ⟨b2, o2, ha2, hb2, d0⟩ := S1.out k (by rw [Hls.out]; exact hlt)
      subst ha2
      have HC := fun W q => ht.out.tells W (itAt l k) (s[k]?.getD 0) (H1.out.trans ((show Below wr.heap.size wr W from q).mono H1.out.size))
      have hs := eqAll_succ p l s k
      rw [Hg.out, Bool.true_and] at hs
      have hh : p (itAt l k) (s[k]?.getD 0) = false → eqAll p l s len = false := fun e => eqAll_hit hlt e
      unfold It.val at HC
      have hlt' : (k : Int) < (len : Int) := by omega
      generalize p (itAt l k) (s[k]?.getD 0) = pk at HC hs hh
      generalize itAt l k = r at c0 c1 c2' HC
      generalize s[k]?.getD 0 = z at d0 HC
      obtain ⟨r1, r2, r3⟩ := r
      simp only at c0 c1 c2' HC
      have Hs : Hid _ := hs
      have Hh : Hid _ := hh
      have HC' : Hid _ := HC
      clear hs hh HC R1 S1
      have N : Hid (Boxed (wr.alloc (.cells #[.int .i64 0, .int .i64 0, .int .i64 0] 88)) wr.heap.size #[.int .i64 0, .int .i64 0, .int .i64 0] 88) := Boxed.new _ _ _
      have bN : Hid (Below wr.heap.size wr ((wr.alloc (.cells #[.int .i64 0, .int .i64 0, .int .i64 0] 88)).setRow wr.heap.size #[.int .i64 r1, .int .i64 r2, .int .i64 r3])) := below_setRow ((Below.refl _ _).alloc (Nat.le_refl _) _) (Nat.le_refl _) _
      have X2 : Hid (Boxed ((wr.alloc (.cells #[.int .i64 0, .int .i64 0, .int .i64 0] 88)).setRow wr.heap.size #[.int .i64 r1, .int .i64 r2, .int .i64 r3]) wr.heap.size #[.int .i64 r1, .int .i64 r2, .int .i64 r3] 88) := setRow_heap _ _ _ _ _ _ N.out
      have d1 : ((wr.alloc (.cells #[.int .i64 0, .int .i64 0, .int .i64 0] 88)).setRow wr.heap.size #[.int .i64 r1, .int .i64 r2, .int .i64 r3]).cell? ⟨b2, o2 + k, none⟩ = some (.int .i64 z) := by rw [bN.out.cell (p := ⟨b2, o2 + k, none⟩) hb2]; exact d0
      go_upto_region 6 with (refine wpList_store_row rfl 88 (.tmp 8) (.tmp 21) rfl wr.heap.size #[.int .i64 r1, .int .i64 r2, .int .i64 r3] rfl rfl _ _ N.out (by kernel_rfl) rfl (by simp [Value.oneCell']) ?_)
      try simp only [Act.put]
      generalize (wr.alloc (.cells #[.int .i64 0, .int .i64 0, .int .i64 0] 88)).setRow wr.heap.size #[.int .i64 r1, .int .i64 r2, .int .i64 r3] = w2 at bN X2 d1 ⊢
      have HC2 := HC'.out w2 bN.out
      have B2 : Hid (Below w.heap.size w w2) := H1.out.trans (bN.out.mono H1.out.size)
      clear HC' N bN
      have x0 : w2.cell? ⟨wr.heap.size, 0, none⟩ = some (.int .i64 r1) := X2.out.cell 0 rfl
      have x1 : w2.cell? ⟨wr.heap.size, 1, none⟩ = some (.int .i64 r2) := X2.out.cell 1 rfl
      have x2 : w2.cell? ⟨wr.heap.size, 2, none⟩ = some (.int .i64 r3) := X2.out.cell 2 rfl
      cases pk
      · have e1 : R = false := by rw [HR2.out]; exact Hh.out rfl
        subst e1
        go_wp2_with fail
        refine HC2.mono ?_
        rintro e w3 ⟨rfl, q⟩
        have B3 : Hid (Below w.heap.size w w3) := B2.out.trans (q.mono B2.out.size)
        clear q HC2 B2 X2 x0 x1 x2 d1 d0 c0 c1 c2'
        go_wp2
        go_ret
        exact ⟨rfl, B3.out⟩
      · go_wp2_with fail
        refine HC2.mono ?_
        rintro e w3 ⟨rfl, q⟩
        have B3 : Hid (Below w.heap.size w w3) := B2.out.trans (q.mono B2.out.size)
        clear q HC2 B2 X2 x0 x1 x2 d1 d0 c0 c1 c2'
        go_wp2
        go_roundw
        case rel => exact ⟨k + 1, by omega, by go_num, Hs.out, B3⟩
        case measure => simp [intOf]; omega
    · obtain rfl : k = len := by omega
      have e1 : R = true := by rw [HR2.out]; exact Hg.out
      subst e1
      go_wp2
      go_ret
      exact ⟨rfl, H1.out⟩
end Go.Proofs.YtaojbmhodpffiaaGreat

/-
  The walks of the program's OnLine. By the verifier.
-/
namespace Go.Proofs.YtaojbmhodpffiaaGreat
open Go.RowKit

set_option maxHeartbeats 1600000 in
theorem implOn (l : Ln) (n : Int) (w : World) :
    Calls Tryz.prog 106 #[l.val, .int .i64 n] w fun e w' => e = .returned (.int .i64 (l.on n)) ∧ Below w.heap.size w w' := by
  have Hon : Hid (l.on n = if (l.ok && inB 0 100000 n) = true then l.takes n else -1) := rfl
  have A1 := fun w => implLineOk l w
  have A2 := fun w B h => implUpTo1 100000 n w B h
  have A3 := fun (h : (l.ok && inB 0 100000 n) = true) (w : World) => implTakes l n (Bool.and_eq_true_iff.1 h).1 (inB_true.1 (Bool.and_eq_true_iff.1 h).2).1 (inB_true.1 (Bool.and_eq_true_iff.1 h).2).2 w
  generalize l.on n = v at Hon ⊢
  generalize l.takes n = t at A3 Hon
  generalize l.ok = b1 at A1 A3 Hon
  generalize inB 0 100000 n = b2 at A2 A3 Hon
  obtain ⟨k, x, m⟩ := l
  simp only [Ln.val, Ln.cells] at *
  have A1' : Hid _ := A1
  have A2' : Hid _ := A2
  have A3' : Hid _ := A3
  clear A1 A2 A3
  have X : Hid (Boxed (w.alloc (.cells #[.int .i64 k, .int .i64 x, .int .i64 m] 39)) w.heap.size #[.int .i64 k, .int .i64 x, .int .i64 m] 39 ∧ Below w.heap.size w (w.alloc (.cells #[.int .i64 k, .int .i64 x, .int .i64 m] 39))) :=
    ⟨Boxed.new _ _ _, (Below.refl _ _).alloc (Nat.le_refl _) _⟩
  go_enter Tryz.func106, Tryz.ntmps106
  go_wp2_with fail
  refine (A1'.out _).mono ?_
  rintro e w1 ⟨rfl, q⟩
  have X1 : Hid (Boxed w1 w.heap.size #[.int .i64 k, .int .i64 x, .int .i64 m] 39 ∧ Below w.heap.size w w1) := ⟨X.out.1.below X.out.1.under q, X.out.2.trans (q.mono X.out.2.size)⟩
  clear q X
  have c0 : w1.cell? ⟨w.heap.size, 0, none⟩ = some (.int .i64 k) := X1.out.1.cell 0 rfl
  have c1 : w1.cell? ⟨w.heap.size, 1, none⟩ = some (.int .i64 x) := X1.out.1.cell 1 rfl
  have c2 : w1.cell? ⟨w.heap.size, 2, none⟩ = some (.int .i64 m) := X1.out.1.cell 2 rfl
  have hlt : w.heap.size < w1.heap.size := X1.out.1.under
  cases b1
  · go_wp2
    go_ret
    exact ⟨ret_num (by rw [Hon.out]; rfl), X1.out.2⟩
  go_wp2_with fail
  refine (A2'.out _ _ (by simp)).mono ?_
  rintro e w2 ⟨rfl, rfl⟩
  cases b2
  · go_wp2
    go_ret
    exact ⟨ret_num (by rw [Hon.out]; rfl), X1.out.2.alloc (by omega) _⟩
  go_wp2_with fail
  refine (A3'.out rfl _).mono ?_
  rintro e w' ⟨rfl, rfl⟩
  go_wp2
  go_ret
  exact ⟨ret_num (by rw [Hon.out]; rfl), (X1.out.2.alloc (by omega) _).alloc (by simp; omega) _⟩
end Go.Proofs.YtaojbmhodpffiaaGreat

/-
  The walk of the program's eachLeafKept. By the verifier.
-/
namespace Go.Proofs.YtaojbmhodpffiaaGreat
open Go.RowKit Go.Shelf

set_option maxHeartbeats 1600000 in
set_option maxRecDepth 100000 in
theorem implKept1 (g : Gt) (x : Ga) (r : It) (z : Int) (B : Nat) (w : World) (hB : Hid (Boxed w B (g.cells x) 51)) :
    Calls Tryz.prog 105 #[r.val, .int .i64 z, .pointer (some ⟨B, 0, none⟩)] w fun e w' => e = .returned (.bool (decide (g.ln.on r.size = z))) ∧ Below w.heap.size w w' := by
  have O := fun w => implOn g.ln r.size w
  obtain ⟨r1, r2, r3⟩ := r
  simp only [It.val] at O ⊢
  have c0 : w.cell? ⟨B, 0, none⟩ = some (.int .i64 g.ln.kind) := hB.out.cell 0 rfl
  have c1 : w.cell? ⟨B, 1, none⟩ = some (.int .i64 g.ln.extra) := hB.out.cell 1 rfl
  have c2 : w.cell? ⟨B, 2, none⟩ = some (.int .i64 g.ln.least) := hB.out.cell 2 rfl
  have hl : B < w.heap.size := hB.out.under
  have hne : ¬ w.heap.size = B := by omega
  have hne2 : ¬ B = w.heap.size := by omega
  have H : Hid (Below w.heap.size w (w.alloc (.cells #[.int .i64 r1, .int .i64 r2, .int .i64 r3] 88))) := (Below.refl _ _).alloc (Nat.le_refl _) _
  unfold Ln.val at O
  generalize g.ln.on r2 = y at O ⊢
  generalize g.ln.kind = y1 at O c0
  generalize g.ln.extra = y2 at O c1
  generalize g.ln.least = y3 at O c2
  have O' : Hid _ := O
  clear O hB
  go_enter Tryz.func105, Tryz.ntmps105
  go_wp2_with fail
  refine (O'.out _).mono ?_
  rintro e w2 ⟨rfl, q⟩
  have H2 : Hid (Below w.heap.size w w2) := H.out.trans (q.mono H.out.size)
  clear q O' H
  go_wp2
  go_ret
  exact ⟨ret_bool (by rw [Bool.eq_iff_iff]; simp), H2.out⟩

theorem kept_hit {g : Gt} {k : Nat} (h : k < g.rows.lists.length) (e : keptB g.ln (izAt g.rows.lists k) (fwAt g.fair.flows k).sizes = false) : ((List.range g.rows.lists.length).all fun i => keptB g.ln (izAt g.rows.lists i) (fwAt g.fair.flows i).sizes) = false := by
  rw [List.all_eq_false]
  exact ⟨k, List.mem_range.2 h, by rw [e]; decide⟩
theorem kept_succ (g : Gt) (k : Nat) : ((List.range (k + 1)).all fun i => keptB g.ln (izAt g.rows.lists i) (fwAt g.fair.flows i).sizes) = (((List.range k).all fun i => keptB g.ln (izAt g.rows.lists i) (fwAt g.fair.flows i).sizes) && keptB g.ln (izAt g.rows.lists k) (fwAt g.fair.flows k).sizes) := by
  simp [List.range_succ]

set_option maxHeartbeats 3200000 in
set_option maxRecDepth 100000 in
theorem implKept (g : Gt) (x : Ga) (w : World) (hB : g.big ≤ 1048576) (h : Hid (GtV w x g)) :
    Calls Tryz.prog 47 #[g.val x] w fun e w' => e = .returned (.bool g.kept) ∧ Below w.heap.size w w' := by
  obtain ⟨s1, s2, s3, s4, s5, s6, s7⟩ := Gt.small hB
  obtain ⟨sT, -, sin⟩ := Rw.small s5
  obtain ⟨fT, -, fin⟩ := Fs.small s7
  have E : Hid (∀ (k : Nat), k < g.rows.lists.length → ∀ (ak : Option Addr) (ck : Nat) (a2 : Option Addr) (c2 : Nat) (B : Nat) (W : World), Boxed W B (g.cells x) 51 → ItsAt W ak (izAt g.rows.lists k) → IntsAt W a2 (fwAt g.fair.flows k).sizes → (fwAt g.fair.flows k).sizes.length ≤ 1048576 → Calls Tryz.prog 104 #[.slice ak (izAt g.rows.lists k).length ck, .slice a2 (fwAt g.fair.flows k).sizes.length c2, .func (.func 105) #[] #[.pointer (some ⟨B, 0, none⟩)]] W fun e w' => e = .returned (.bool (keptB g.ln (izAt g.rows.lists k) (fwAt g.fair.flows k).sizes)) ∧ Below W.heap.size W w') := fun k hk ak ck a2 c2 B W h1 h2 h3 h4 => implEqualT ak ck _ a2 c2 _ 105 #[] #[.pointer (some ⟨B, 0, none⟩)] (fun r z => decide (g.ln.on r.size = z)) W (sin k hk) h4 h2 h3 ⟨enters_of Tryz.func105 (by kernel_rfl) rfl, fun W2 r z hW => implKept1 g x r z B W2 (h1.below h1.under hW)⟩
  have Hs : Hid (∀ k, k < g.fair.flows.length → (fwAt g.fair.flows k).sizes.length ≤ 1048576) := fun k hk => fin k hk
  have Hh : Hid (∀ k, k < g.rows.lists.length → keptB g.ln (izAt g.rows.lists k) (fwAt g.fair.flows k).sizes = false → ((List.range g.rows.lists.length).all fun i => keptB g.ln (izAt g.rows.lists i) (fwAt g.fair.flows i).sizes) = false) := fun k hk e => kept_hit hk e
  have Hn : Hid (∀ k, ((List.range (k + 1)).all fun i => keptB g.ln (izAt g.rows.lists i) (fwAt g.fair.flows i).sizes) = (((List.range k).all fun i => keptB g.ln (izAt g.rows.lists i) (fwAt g.fair.flows i).sizes) && keptB g.ln (izAt g.rows.lists k) (fwAt g.fair.flows k).sizes)) := fun k => kept_succ g k
  have Hv : Hid (g.kept = (decide (g.rows.lists.length = g.leaves.length) && (decide (g.steers.length = g.leaves.length) && (decide (g.fair.flows.length = g.leaves.length) && (List.range g.rows.lists.length).all fun i => keptB g.ln (izAt g.rows.lists i) (fwAt g.fair.flows i).sizes)))) := rfl
  have Iz : Hid (IzAt w x.a5 g.rows.lists) := h.out.rows.spot
  have Fz : Hid (FwsAt w x.a7 g.fair.flows) := h.out.fair.spot
  generalize g.kept = R at Hv ⊢
  generalize (fun i => keptB g.ln (izAt g.rows.lists i) (fwAt g.fair.flows i).sizes) = P at Hh Hn Hv
  obtain ⟨W0, hW⟩ : ∃ W, W = w.alloc (.cells (g.cells x) 51) := ⟨_, rfl⟩
  have X0 : Hid (Boxed W0 w.heap.size (g.cells x) 51 ∧ Below w.heap.size w W0) := by
    rw [hW]
    exact ⟨Boxed.new _ _ _, (Below.refl _ _).alloc (Nat.le_refl _) _⟩
  have HW : Hid (W0 = _) := hW
  have c6 : W0.cell? ⟨w.heap.size, 6, none⟩ = some (.slice x.a4 g.leaves.length x.c4) := X0.out.1.cell 6 rfl
  have c8 : W0.cell? ⟨w.heap.size, 8, none⟩ = some (.slice x.a5 g.rows.lists.length x.c5) := X0.out.1.cell 8 rfl
  have c9 : W0.cell? ⟨w.heap.size, 9, none⟩ = some (.slice x.a6 g.steers.length x.c6) := X0.out.1.cell 9 rfl
  have c11 : W0.cell? ⟨w.heap.size, 11, none⟩ = some (.slice x.a7 g.fair.flows.length x.c7) := X0.out.1.cell 11 rfl
  clear hW h hB
  unfold Gt.val
  generalize g.leaves.length = n4 at c6 Hv s4
  generalize g.steers.length = n6 at c9 Hv s6
  have Hcs : Hid ((g.cells x).size = 14 ∧ (g.cells x).all (·.oneCell') = true) := ⟨Gt.cells_size g x, Gt.cells_one g x⟩
  have Gc : Hid (∀ W B, Boxed W B (g.cells x) 51 → W.cell? ⟨B, 11, none⟩ = some (.slice x.a7 g.fair.flows.length x.c7)) := fun W B hh => hh.cell 11 rfl
  generalize g.cells x = cs at E X0 HW Hcs Gc ⊢
  generalize x.a5 = p5 at Iz c8
  generalize x.a7 = p7 at Fz c11 Gc
  generalize x.c5 = q5 at c8
  generalize x.c7 = q7 at c11 Gc
  go_enter Tryz.func47, Tryz.ntmps47
  go_upto_region 1 with fail
  rw [← HW.out]
  clear HW
  have hw1 : Hid (w.heap.size < W0.heap.size) := X0.out.1.under
  obtain ⟨A, hA⟩ : ∃ A, w.heap.size = A := ⟨_, rfl⟩
  have HA : Hid (w.heap.size = A) := hA
  rw [hA] at c6 c8 c9 c11 ⊢
  rw [hA] at X0 hw1
  clear hA
  have hAw : Hid (A ≤ W0.heap.size) := by show A ≤ _; rw [← HA.out]; exact X0.out.2.size
  obtain ⟨nl, hnl⟩ : ∃ n, g.rows.lists.length = n := ⟨_, rfl⟩
  have Hnl : Hid (g.rows.lists.length = nl) := hnl
  rw [hnl] at c8 Hv Hh E sT
  obtain ⟨nf, hnf⟩ : ∃ n, g.fair.flows.length = n := ⟨_, rfl⟩
  have Hnf : Hid (g.fair.flows.length = nf) := hnf
  rw [hnf] at c11 Hv Hs Gc fT
  clear hnl hnf
  by_cases h1 : nl = n4
  case neg =>
    have e1 : R = false := by rw [Hv.out, decide_eq_false h1]; rfl
    subst e1
    have hn2 : ¬ (nl : Int) = (n4 : Int) := by omega
    have hn3 : ((nl : Int) != (n4 : Int)) = true := by simpa using hn2
    go_wp2
    go_ret
    exact ⟨rfl, by rw [HA.out]; exact X0.out.2⟩
  subst h1
  by_cases h2 : n6 = nl
  case neg =>
    have e1 : R = false := by rw [Hv.out, decide_eq_true rfl, decide_eq_false h2]; rfl
    subst e1
    have hn2 : ¬ (n6 : Int) = (nl : Int) := by omega
    have hn3 : ((n6 : Int) != (nl : Int)) = true := by simpa using hn2
    go_wp2
    go_ret
    exact ⟨rfl, by rw [HA.out]; exact X0.out.2⟩
  subst h2
  by_cases h3 : nf = n6
  case neg =>
    have e1 : R = false := by rw [Hv.out, decide_eq_true rfl, decide_eq_false h3]; rfl
    subst e1
    have hn2 : ¬ (nf : Int) = (n6 : Int) := by omega
    have hn3 : ((nf : Int) != (n6 : Int)) = true := by simpa using hn2
    go_wp2
    go_ret
    exact ⟨rfl, by rw [HA.out]; exact X0.out.2⟩
  subst h3
  have HR : Hid (R = (List.range nf).all P) := by show R = _; rw [Hv.out, decide_eq_true rfl, Bool.true_and, Bool.true_and, Bool.true_and]
  clear Hv s1 s2 s3 s4 s5 s6 s7 sin fin
  go_upto_region 4 with fail
  go_wp2
  clear c6 c8 c9 c11
  go_loopw [4, 5, 34] (fun _ _ i wr => ∃ k : Nat, k ≤ nf ∧ i = .int .i64 k ∧ Hid ((List.range k).all P = true) ∧ Hid (Below W0.heap.size W0 wr)) (fun _ _ i _ => nf - (intOf i).toNat)
  case atStart => exact ⟨0, Nat.zero_le _, rfl, rfl, Below.refl _ _⟩
  case round =>
    obtain ⟨k, hk, rfl, Hg, H1⟩ := hrel
    by_cases hlt : k < nf
    · have hlt' : (k : Int) < (nf : Int) := by omega
      have bw : Below w.heap.size w wr := by rw [HA.out]; exact X0.out.2.trans (H1.out.mono hAw.out)
      have Iz2 : IzAt wr p5 g.rows.lists := Iz.out.below bw
      have Fz2 : FwsAt wr p7 g.fair.flows := Fz.out.below bw
      have Bx : Hid (Boxed wr A cs 51) := X0.out.1.below hw1.out H1.out
      have cF := Gc.out wr A Bx.out
      obtain ⟨b1, o1, ak, ck, ha1, hb1, d0, hit, -⟩ := Iz2 k (by rw [Hnl.out]; exact hlt)
      obtain ⟨b2, o2, a2, c2, ha2, hb2, ⟨e0, e1, e2⟩, hin, -⟩ := Fz2 k (by rw [Hnf.out]; exact hlt)
      subst ha1 ha2
      have C := E.out k hlt ak ck a2 c2 A wr Bx.out hit hin (Hs.out k hlt)
      have hn := Hn.out k
      rw [Hg.out, Bool.true_and] at hn
      have hh := Hh.out k hlt
      have HR2 : Hid (keptB g.ln (izAt g.rows.lists k) (fwAt g.fair.flows k).sizes = false → R = false) := fun e => by rw [HR.out]; exact hh e
      generalize keptB g.ln (izAt g.rows.lists k) (fwAt g.fair.flows k).sizes = kb at C hn HR2
      generalize (izAt g.rows.lists k).length = m1 at C d0
      generalize (fwAt g.fair.flows k).sizes.length = m2 at C e2
      have Hn2 : Hid _ := hn
      have hmf : ∀ (fn : Fn) (first cap : Array Value) (w : World), (Instr.makeFunc fn first cap).run Tryz.prog w = .ok (.func fn first cap) w := fun _ _ _ _ => rfl
      have B2 : Hid (Below W0.heap.size W0 wr) := H1
      clear hn hh e0 e1 hit hin Iz2 Fz2 bw
      cases kb
      · have e1 : R = false := HR2.out rfl
        subst e1
        go_wp2_with fail
        refine C.mono ?_
        rintro e w3 ⟨rfl, q⟩
        have B3 : Hid (Below w.heap.size w w3) := by
          rw [HA.out]
          exact (X0.out.2.trans (B2.out.mono hAw.out)).trans (q.mono (Nat.le_trans hAw.out B2.out.size))
        clear q C
        go_wp2
        go_ret
        exact ⟨rfl, B3.out⟩
      · go_wp2_with fail
        refine C.mono ?_
        rintro e w3 ⟨rfl, q⟩
        have B3 : Hid (Below W0.heap.size W0 w3) := B2.out.trans (q.mono B2.out.size)
        clear q C
        go_wp2
        go_roundw
        case rel => exact ⟨k + 1, by omega, by go_num, Hn2.out, B3⟩
        case measure => simp [intOf]; omega
    · obtain rfl : k = nf := by omega
      have e1 : R = true := by rw [HR.out]; exact Hg.out
      subst e1
      go_wp2
      go_ret
      exact ⟨rfl, by rw [HA.out]; exact X0.out.2.trans (H1.out.mono hAw.out)⟩
end Go.Proofs.YtaojbmhodpffiaaGreat
