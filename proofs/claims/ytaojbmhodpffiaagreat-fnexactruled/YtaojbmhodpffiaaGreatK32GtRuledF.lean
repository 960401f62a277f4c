import Derived.Test.YtaojbmhodpffiaaGreatK31GtVar
import Derived.Test.YtaojbmhodpffiaaGreatK19GtZero
import Derived.Test.YtaojbmhodpffiaaGreatK25GtCopyS
import Derived.Test.YtaojbmhodpffiaaGreatK28RtOkS
import Derived.Test.YtaojbmhodpffiaaGreatK29RuOkS
import Derived.Deep.DeepCutAuto
import Derived.Test.YtaojbmhodpffiaaGreatK30GtOkS
import Derived.Test.YtaojbmhodpffiaaGreatK9StepRow
/-
  The walk of the model's Ruled: other rules put into a gate. By the verifier.
-/
namespace Go.Proofs.YtaojbmhodpffiaaGreat
open Go.RowKit

/-- A list's place in the variable put. -/
theorem GtB.putRoutes {b B : Nat} {w w' : World} {x : Ga} {vs : List Value} {rs : List Fwr} {g : Gt} (h : GtB b B w x vs rs g) {y : Option Addr} {d : Nat} {l : List Rt} (r : RtRow b w (.slice y l.length d) l) (e : w' = w.setCell ⟨B, 3, none⟩ (.slice y l.length d)) : GtB b B w' { x with a1 := y, c1 := d } vs rs { g with routes := l } := by
  have ho : ∀ k, k ≠ B → k < w.heap.size → w'.heap[k]? = w.heap[k]? := fun k hk _ => by rw [e]; exact Below.heap_setCell _ _ _ _ hk
  have q := h.own.boxed h.box ho
  refine ⟨?_, ⟨r.carry fun k hk hl => ho k (fun e2 => gate_off h.box r (by decide) (by rw [← e2]; exact hk)) hl, q.rules, q.tree, q.leaves, q.rows, q.steers, q.fair, q.apart⟩⟩
  rw [e]
  exact h.box.put 3 _
theorem GtB.putRules {b B : Nat} {w w' : World} {x : Ga} {vs : List Value} {rs : List Fwr} {g : Gt} (h : GtB b B w x vs rs g) {y : Option Addr} {d : Nat} {l : List Ru} (r : RuRow b w (.slice y l.length d) l) (e : w' = w.setCell ⟨B, 4, none⟩ (.slice y l.length d)) : GtB b B w' { x with a2 := y, c2 := d } vs rs { g with rules := l } := by
  have ho : ∀ k, k ≠ B → k < w.heap.size → w'.heap[k]? = w.heap[k]? := fun k hk _ => by rw [e]; exact Below.heap_setCell _ _ _ _ hk
  have q := h.own.boxed h.box ho
  refine ⟨?_, ⟨q.routes, r.carry fun k hk hl => ho k (fun e2 => gate_off h.box r (by decide) (by rw [← e2]; exact hk)) hl, q.tree, q.leaves, q.rows, q.steers, q.fair, q.apart⟩⟩
  rw [e]
  exact h.box.put 4 _

set_option maxHeartbeats 6400000 in
set_option maxRecDepth 100000 in
theorem specRuledP (b B : Nat) (x : Ga) (vs : List Value) (rs : List Fwr) (g : Gt) (ra : Option Addr) (rc : Nat) (rl : List Rt) (ua : Option Addr) (uc : Nat) (ul : List Ru) (w : World) (hr1 : rl.length ≤ 1048576) (hr2 : ra = none → rc = 0) (hu1 : ul.length ≤ 1048576) (hu2 : ua = none → uc = 0) (hb : b ≤ w.heap.size) (KR : Hid (∀ w', Below b w w' → RtsAt w' ra rl ∧ RusAt w' ua ul)) (hbB : b ≤ B) (h : Hid (GtB b B w x vs rs g)) :
    Calls Tryz.prog 74 #[.pointer (some ⟨B, 0, none⟩), .slice ra rl.length rc, .slice ua ul.length uc] w fun e w' => e = .returned (.bool (rtsOk rl && rusOk ul)) ∧ (∃ x2 vs2 rs2, GtB b B w' x2 vs2 rs2 (if (rtsOk rl && rusOk ul) = true then { g with routes := rl, rules := ul } else g)) ∧ Below b w w' := by
  have A1 := fun w' (hh : Hid (RtsAt w' ra rl)) => specOk ra rc rl w' hr1 hh
  have A2 := fun w' (hh : Hid (RusAt w' ua ul)) => specRules ua uc ul w' hu1 hh
  have L1 : Hid (rl.length ≤ 1048576 ∧ (ra = none → rc = 0)) := ⟨hr1, hr2⟩
  have L2 : Hid (ul.length ≤ 1048576 ∧ (ua = none → uc = 0)) := ⟨hu1, hu2⟩
  generalize rtsOk rl = ok1 at A1 ⊢
  generalize rusOk ul = ok2 at A2 ⊢
  obtain ⟨rn, hrn⟩ : ∃ n, rl.length = n := ⟨_, rfl⟩
  obtain ⟨un, hun⟩ : ∃ n, ul.length = n := ⟨_, rfl⟩
  rw [hrn] at A1 L1 ⊢
  rw [hun] at A2 L2 ⊢
  have Hrn : Hid (rl.length = rn) := hrn
  have Hun : Hid (ul.length = un) := hun
  have A1' : Hid _ := A1
  have A2' : Hid _ := A2
  have Hb : Hid (b ≤ w.heap.size ∧ b ≤ B) := ⟨hb, hbB⟩
  clear A1 A2 hr1 hr2 hu1 hu2 hrn hun hb hbB
  go_enter Tryz.func74, Tryz.ntmps74
  go_wp2_with fail
  refine (A1'.out _ (KR.out _ (Below.refl _ _)).1).mono ?_
  rintro e w1 ⟨rfl, q⟩
  have X1 : Hid (GtB b B w1 x vs rs g ∧ Below w.heap.size w w1) := ⟨h.out.below q, q⟩
  clear q A1' h
  cases ok1
  · go_wp2
    go_ret
    exact ⟨rfl, ⟨_, _, _, X1.out.1⟩, X1.out.2.mono Hb.out.1⟩
  go_wp2_with fail
  refine (A2'.out _ (KR.out _ (X1.out.2.mono Hb.out.1)).2).mono ?_
  rintro e w2 ⟨rfl, q⟩
  have X2 : Hid (GtB b B w2 x vs rs g ∧ Below w.heap.size w w2) := ⟨X1.out.1.below q, X1.out.2.trans (q.mono X1.out.2.size)⟩
  clear q A2' X1
  cases ok2
  · go_wp2
    go_ret
    exact ⟨rfl, ⟨_, _, _, X2.out.1⟩, X2.out.2.mono Hb.out.1⟩
  have E : Hid (RtRow w2.heap.size (w2.alloc (.cells #[] 116)) (.slice (some ⟨w2.heap.size, 0, none⟩) 0 0) [] ∧ RtsAt (w2.alloc (.cells #[] 116)) ra rl) := ⟨rt_built w2 _ (Nat.le_refl _), (KR.out _ ((X2.out.2.trans ((Below.refl _ _).alloc X2.out.2.size _)).mono Hb.out.1)).1⟩
  go_upto_region 4 with (refine rt_app rfl (.tmp 16) (.tmp 17) rfl w2.heap.size (.slice (some ⟨w2.heap.size, 0, none⟩) 0 0) [] ra rn rc rl Hrn.out rfl rfl E.out.1 E.out.2 L1.out.2 (by rw [Hrn.out]; have := L1.out.1; simp; omega) (by simp) ?_; intro v' w3 q1 q2 q3 q4; have q5 : RtRow w2.heap.size w3 v' rl := (by simpa using q1); obtain ⟨y1, d1, ev⟩ := q5.shape; have qb : Below w2.heap.size w2 w3 := ((Below.refl _ w2).alloc (Nat.le_refl _) _).trans q2; have gb := X2.out.1.below qb; have S3 : Hid (RtRow b w3 (.slice y1 rl.length d1) rl ∧ GtB b B w3 x vs rs g ∧ Below w.heap.size w w3) := (by rw [ev] at q5; exact ⟨q5.mono (Nat.le_trans Hb.out.1 X2.out.2.size), gb, X2.out.2.trans (qb.mono X2.out.2.size)⟩); rw [Hrn.out] at ev; subst ev; have e3 : w3.cell? ⟨B, 3, none⟩ = some (.slice x.a1 g.routes.length x.c1) := gb.box.cell 3 rfl; have f3 := gb.box.ice 3; have hOl : B < w3.heap.size := gb.box.under; clear q1 q2 q3 q4 q5 qb gb E)
  have X4 : Hid (GtB b B (w3.setCell ⟨B, 3, none⟩ (.slice y1 rn d1)) { x with a1 := y1, c1 := d1 } vs rs { g with routes := rl } ∧ Below b w (w3.setCell ⟨B, 3, none⟩ (.slice y1 rn d1)) ∧ b ≤ (w3.setCell ⟨B, 3, none⟩ (.slice y1 rn d1)).heap.size) := by
    have e9 : (w3.setCell ⟨B, 3, none⟩ (.slice y1 rn d1)).heap.size = w3.heap.size := by simp [World.setCell]
    refine ⟨S3.out.2.1.putRoutes S3.out.1 (by rw [Hrn.out]), (S3.out.2.2.mono Hb.out.1).setCell Hb.out.2 _, ?_⟩
    rw [e9]
    exact Nat.le_trans Hb.out.1 S3.out.2.2.size
  clear S3 e3 f3 hOl X2
  generalize w3.setCell ⟨B, 3, none⟩ (.slice y1 rn d1) = w4 at X4 ⊢
  have E : Hid (RuRow w4.heap.size (w4.alloc (.cells #[] 120)) (.slice (some ⟨w4.heap.size, 0, none⟩) 0 0) [] ∧ RusAt (w4.alloc (.cells #[] 120)) ua ul) := ⟨ru_built w4 _ (Nat.le_refl _), (KR.out _ (X4.out.2.1.trans ((Below.refl _ _).alloc X4.out.2.2 _))).2⟩
  go_upto_region 5 with (refine ru_app rfl (.tmp 22) (.tmp 23) rfl w4.heap.size (.slice (some ⟨w4.heap.size, 0, none⟩) 0 0) [] ua un uc ul Hun.out rfl rfl E.out.1 E.out.2 L2.out.2 (by rw [Hun.out]; have := L2.out.1; simp; omega) (by simp) ?_; intro v' w5 q1 q2 q3 q4; have q5 : RuRow w4.heap.size w5 v' ul := (by simpa using q1); obtain ⟨y2, d2, ev⟩ := q5.shape; have qb : Below w4.heap.size w4 w5 := ((Below.refl _ w4).alloc (Nat.le_refl _) _).trans q2; have gb := X4.out.1.below qb; have S5 : Hid (RuRow b w5 (.slice y2 ul.length d2) ul ∧ GtB b B w5 { x with a1 := y1, c1 := d1 } vs rs { g with routes := rl } ∧ Below b w w5) := (by rw [ev] at q5; exact ⟨q5.mono X4.out.2.2, gb, X4.out.2.1.trans (qb.mono X4.out.2.2)⟩); rw [Hun.out] at ev; subst ev; have e4 : w5.cell? ⟨B, 4, none⟩ = some (.slice x.a2 g.rules.length x.c2) := gb.box.cell 4 rfl; have f4 := gb.box.ice 4; have hOl : B < w5.heap.size := gb.box.under; clear q1 q2 q3 q4 q5 qb gb E)
  have X6 : Hid (GtB b B (w5.setCell ⟨B, 4, none⟩ (.slice y2 un d2)) { x with a1 := y1, c1 := d1, a2 := y2, c2 := d2 } vs rs { g with routes := rl, rules := ul } ∧ Below b w (w5.setCell ⟨B, 4, none⟩ (.slice y2 un d2))) := ⟨S5.out.2.1.putRules S5.out.1 (by rw [Hun.out]), S5.out.2.2.setCell Hb.out.2 _⟩
  clear S5 e4 f4 hOl X4
  generalize w5.setCell ⟨B, 4, none⟩ (.slice y2 un d2) = w6 at X6 ⊢
  go_wp2
  go_ret
  exact ⟨rfl, ⟨_, _, _, X6.out.1⟩, X6.out.2⟩
end Go.Proofs.YtaojbmhodpffiaaGreat

/-
  The walk of the model's Ruled. By the verifier, by program.
-/
namespace Go.Proofs.YtaojbmhodpffiaaGreat
open Go.RowKit

set_option maxHeartbeats 6400000 in
set_option maxRecDepth 100000 in
theorem specRuled (g : Gt) (v : Value) (ra : Option Addr) (rc : Nat) (rl : List Rt) (ua : Option Addr) (uc : Nat) (ul : List Ru) (w : World) (hB : g.big ≤ 1048576) (hr1 : rl.length ≤ 1048576) (hr2 : ra = none → rc = 0) (hu1 : ul.length ≤ 1048576) (hu2 : ua = none → uc = 0) (hr : Hid (RtsAt w ra rl)) (hu : Hid (RusAt w ua ul)) (h : Hid (GtAt w v g)) :
    Calls Tryz.prog 17 #[v, .slice ra rl.length rc, .slice ua ul.length uc] w fun e w' => (∃ v', e = .returned (.tuple #[v', .bool (g.ruledB rl ul)]) ∧ GtLie w.heap.size w'.heap.size w' v' (g.ruled rl ul)) ∧ Below w.heap.size w w' := by
  obtain ⟨x, rfl, hG⟩ := h.out
  have A1 := fun w' (hh : Hid (GtV w' x g)) => specGateOk g x w' hB hh
  have A2 := fun w' (hh : Hid (GtV w' x g)) => specCopyG g x w' hB hh
  have A3 : Hid (g.ok = true → ∀ b B x' vs rs w', b ≤ B → GtB b B w' x' vs rs g → (b ≤ w'.heap.size ∧ ∀ w2, Below b w' w2 → RtsAt w2 ra rl ∧ RusAt w2 ua ul) → Calls Tryz.prog 74 #[.pointer (some ⟨B, 0, none⟩), .slice ra rl.length rc, .slice ua ul.length uc] w' fun e w2 => e = .returned (.bool (g.ruledB rl ul)) ∧ (∃ x2 vs2 rs2, GtB b B w2 x2 vs2 rs2 (g.ruled rl ul)) ∧ Below b w' w2) := (fun e1 b B x' vs rs w' hbB hh k1 => by
    have q := specRuledP b B x' vs rs g ra rc rl ua uc ul w' hr1 hr2 hu1 hu2 k1.1 k1.2 hbB hh
    have e2 : g.ruledB rl ul = (rtsOk rl && rusOk ul) := by unfold Gt.ruledB; rw [e1]; rfl
    have e3 : g.ruled rl ul = if (rtsOk rl && rusOk ul) = true then { g with routes := rl, rules := ul } else g := by unfold Gt.ruled; rw [if_pos e1]
    rw [e2, e3]
    exact q)
  have N1 : Hid (g.ok = false → g.ruledB rl ul = false ∧ g.ruled rl ul = Gt.zero) := fun e => ⟨by unfold Gt.ruledB; rw [e]; rfl, by unfold Gt.ruled; rw [e]; rfl⟩
  have K : Hid (∀ w', Below w.heap.size w w' → GtV w' x g) := fun w' q => hG.below q
  have KR : Hid (∀ w', Below w.heap.size w w' → RtsAt w' ra rl ∧ RusAt w' ua ul) := fun w' q => ⟨hr.out.below q, hu.out.below q⟩
  clear hr hu hr1 hr2 hu1 hu2
  generalize g.ok = ok at A1 A3 N1
  generalize g.ruledB rl ul = fl at A3 N1 ⊢
  generalize hans : g.ruled rl ul = ga at A3 N1 ⊢
  generalize rl.length = rn at A3 ⊢
  generalize ul.length = un at A3 ⊢
  have hs := Gt.cells_size g x
  have hone := Gt.cells_one g x
  unfold Gt.val at A1 A2 ⊢
  have Sh : Hid (∀ x' : Ga, (g.cells x').size = 14 ∧ (g.cells x').all (·.oneCell') = true) := fun x' => ⟨Gt.cells_size g x', Gt.cells_one g x'⟩
  have Sa : Hid (∀ x' : Ga, (ga.cells x').size = 14 ∧ (ga.cells x').all (·.oneCell') = true) := fun x' => ⟨Gt.cells_size ga x', Gt.cells_one ga x'⟩
  generalize g.cells x = cs at A1 A2 hs hone ⊢
  have A1' : Hid _ := A1
  have A2' : Hid _ := A2
  have Hs : Hid (cs.size = 14 ∧ cs.all (·.oneCell') = true) := ⟨hs, hone⟩
  clear A1 A2 h hG hs hone hans
  obtain ⟨W0, hW⟩ : ∃ W, W = (w.alloc (.cells cs 51)).alloc (.cells #[.int .i64 0, .int .i64 0, .int .i64 0, .slice none 0 0, .slice none 0 0, .slice none 0 0, .slice none 0 0, .int .i64 0, .slice none 0 0, .slice none 0 0, .int .i64 0, .slice none 0 0, .int .i64 0, .int .i64 0] 51) := ⟨_, rfl⟩
  have X : Hid (Boxed W0 w.heap.size cs 51 ∧ Boxed W0 (w.heap.size + 1) #[.int .i64 0, .int .i64 0, .int .i64 0, .slice none 0 0, .slice none 0 0, .slice none 0 0, .slice none 0 0, .int .i64 0, .slice none 0 0, .slice none 0 0, .int .i64 0, .slice none 0 0, .int .i64 0, .int .i64 0] 51 ∧ Below w.heap.size w W0 ∧ w.heap.size + 2 ≤ W0.heap.size) := by
    rw [hW]
    refine ⟨(Boxed.new w _ _).more _, ?_, ((Below.refl _ _).alloc (Nat.le_refl _) _).alloc (by simp) _, by simp⟩
    have := Boxed.new (w.alloc (.cells cs 51)) #[.int .i64 0, .int .i64 0, .int .i64 0, .slice none 0 0, .slice none 0 0, .slice none 0 0, .slice none 0 0, .int .i64 0, .slice none 0 0, .slice none 0 0, .int .i64 0, .slice none 0 0, .int .i64 0, .int .i64 0] 51
    simpa using this
  have HW : Hid (W0 = _) := hW
  clear hW
  go_enter Tryz.func17, Tryz.ntmps17
  go_upto_region 1 with fail
  rw [← HW.out]
  clear HW
  go_wp2_with (refine wpList_load_row rfl 51 (.tmp 3) rfl w.heap.size rfl _ _ _ _ X.out.1 Tryz.underlying51 rfl (by rw [Hs.out.1]; kernel_rfl) ?_)
  refine (A1'.out _ (K.out _ X.out.2.2.1)).mono ?_
  rintro e w1 ⟨rfl, q⟩
  have X1 : Hid (Boxed w1 w.heap.size cs 51 ∧ Boxed w1 (w.heap.size + 1) #[.int .i64 0, .int .i64 0, .int .i64 0, .slice none 0 0, .slice none 0 0, .slice none 0 0, .slice none 0 0, .int .i64 0, .slice none 0 0, .slice none 0 0, .int .i64 0, .slice none 0 0, .int .i64 0, .int .i64 0] 51 ∧ Below w.heap.size w w1 ∧ w.heap.size + 2 ≤ w1.heap.size) := ⟨X.out.1.below X.out.1.under q, X.out.2.1.below X.out.2.1.under q, X.out.2.2.1.trans (q.mono X.out.2.2.1.size), Nat.le_trans X.out.2.2.2 q.size⟩
  clear q X A1'
  cases ok
  · obtain ⟨e1, e2⟩ := N1.out rfl
    subst e1
    subst e2
    go_wp2_with (refine wpList_store_row rfl 51 (.tmp 6) (.tmp 13) rfl (w.heap.size + 1) #[.int .i64 0, .int .i64 0, .int .i64 0, .slice none 0 0, .slice none 0 0, .slice none 0 0, .slice none 0 0, .int .i64 0, .slice none 0 0, .slice none 0 0, .int .i64 0, .slice none 0 0, .int .i64 0, .int .i64 0] rfl rfl _ _ X1.out.2.1 (by kernel_rfl) rfl (by simp [Value.oneCell']) ?_)
    refine bodyPost_ret (results_row_tmp Tryz.results17 _ _ (w.heap.size + 1) _ #[.int .i64 0, .int .i64 0, .int .i64 0, .slice none 0 0, .slice none 0 0, .slice none 0 0, .slice none 0 0, .int .i64 0, .slice none 0 0, .slice none 0 0, .int .i64 0, .slice none 0 0, .int .i64 0, .int .i64 0] _ _ (.bool false) rfl rfl (setRow_heap w1 (w.heap.size + 1) _ _ _ _ X1.out.2.1) Tryz.underlying51 rfl (by kernel_rfl)) rfl ⟨⟨_, rfl, ?_⟩, below_setRow X1.out.2.2.1 (by omega) _⟩
    exact GtLie.zero _ _
  go_wp2_with (refine wpList_load_row rfl 51 (.tmp 3) rfl w.heap.size rfl _ _ _ _ X1.out.1 Tryz.underlying51 rfl (by rw [Hs.out.1]; kernel_rfl) ?_)
  refine (A2'.out _ (K.out _ X1.out.2.2.1)).mono ?_
  rintro e w2 ⟨⟨x', vs, rs, rfl, o⟩, q⟩
  have hx' := Sh.out x'
  have Bx : Hid (∀ W, Boxed W w2.heap.size (g.cells x') 51 → GtO w1.heap.size W x' vs rs g → GtB w1.heap.size w2.heap.size W x' vs rs g) := fun W h1 h2 => ⟨h1, h2⟩
  generalize g.cells x' = cs' at hx' Bx ⊢
  have Hx' : Hid _ := hx'
  have X2 : Hid (Boxed w2 (w.heap.size + 1) #[.int .i64 0, .int .i64 0, .int .i64 0, .slice none 0 0, .slice none 0 0, .slice none 0 0, .slice none 0 0, .int .i64 0, .slice none 0 0, .slice none 0 0, .int .i64 0, .slice none 0 0, .int .i64 0, .int .i64 0] 51 ∧ Below w.heap.size w w2 ∧ w.heap.size + 2 ≤ w1.heap.size ∧ w1.heap.size ≤ w2.heap.size) := ⟨X1.out.2.1.below X1.out.2.1.under q, X1.out.2.2.1.trans (q.mono X1.out.2.2.1.size), X1.out.2.2.2, q.size⟩
  have N : Hid (Boxed (w2.alloc (.cells #[.int .i64 0, .int .i64 0, .int .i64 0, .slice none 0 0, .slice none 0 0, .slice none 0 0, .slice none 0 0, .int .i64 0, .slice none 0 0, .slice none 0 0, .int .i64 0, .slice none 0 0, .int .i64 0, .int .i64 0] 51)) w2.heap.size #[.int .i64 0, .int .i64 0, .int .i64 0, .slice none 0 0, .slice none 0 0, .slice none 0 0, .slice none 0 0, .int .i64 0, .slice none 0 0, .slice none 0 0, .int .i64 0, .slice none 0 0, .int .i64 0, .int .i64 0] 51) := Boxed.new _ _ _
  have bN : Below w2.heap.size w2 ((w2.alloc (.cells #[.int .i64 0, .int .i64 0, .int .i64 0, .slice none 0 0, .slice none 0 0, .slice none 0 0, .slice none 0 0, .int .i64 0, .slice none 0 0, .slice none 0 0, .int .i64 0, .slice none 0 0, .int .i64 0, .int .i64 0] 51)).setRow w2.heap.size cs') := below_setRow ((Below.refl _ _).alloc (Nat.le_refl _) _) (Nat.le_refl _) _
  have Y : Hid (GtB w1.heap.size w2.heap.size ((w2.alloc (.cells #[.int .i64 0, .int .i64 0, .int .i64 0, .slice none 0 0, .slice none 0 0, .slice none 0 0, .slice none 0 0, .int .i64 0, .slice none 0 0, .slice none 0 0, .int .i64 0, .slice none 0 0, .int .i64 0, .int .i64 0] 51)).setRow w2.heap.size cs') x' vs rs g ∧ Boxed ((w2.alloc (.cells #[.int .i64 0, .int .i64 0, .int .i64 0, .slice none 0 0, .slice none 0 0, .slice none 0 0, .slice none 0 0, .int .i64 0, .slice none 0 0, .slice none 0 0, .int .i64 0, .slice none 0 0, .int .i64 0, .int .i64 0] 51)).setRow w2.heap.size cs') (w.heap.size + 1) #[.int .i64 0, .int .i64 0, .int .i64 0, .slice none 0 0, .slice none 0 0, .slice none 0 0, .slice none 0 0, .int .i64 0, .slice none 0 0, .slice none 0 0, .int .i64 0, .slice none 0 0, .int .i64 0, .int .i64 0] 51 ∧ Below w.heap.size w ((w2.alloc (.cells #[.int .i64 0, .int .i64 0, .int .i64 0, .slice none 0 0, .slice none 0 0, .slice none 0 0, .slice none 0 0, .int .i64 0, .slice none 0 0, .slice none 0 0, .int .i64 0, .slice none 0 0, .int .i64 0, .int .i64 0] 51)).setRow w2.heap.size cs') ∧ w1.heap.size ≤ ((w2.alloc (.cells #[.int .i64 0, .int .i64 0, .int .i64 0, .slice none 0 0, .slice none 0 0, .slice none 0 0, .slice none 0 0, .int .i64 0, .slice none 0 0, .slice none 0 0, .int .i64 0, .slice none 0 0, .int .i64 0, .int .i64 0] 51)).setRow w2.heap.size cs').heap.size) := by
    refine ⟨Bx.out _ (setRow_heap _ _ _ _ _ _ N.out) (o.below bN), X2.out.1.below X2.out.1.under bN, X2.out.2.1.trans (bN.mono X2.out.2.1.size), Nat.le_trans X2.out.2.2.2 bN.size⟩
  have Or : Hid (w.heap.size + 2 ≤ w1.heap.size ∧ w1.heap.size ≤ w2.heap.size) := X2.out.2.2
  clear q o hx' bN Bx X1 A2'
  go_upto_region 4 with (refine wpList_store_row rfl 51 (.tmp 8) (.tmp 15) rfl w2.heap.size cs' rfl rfl _ _ N.out (by rw [Hx'.out.1]; kernel_rfl) (by rw [Hx'.out.1]; rfl) Hx'.out.2 ?_)
  simp only [Act.put]
  generalize (w2.alloc (.cells #[.int .i64 0, .int .i64 0, .int .i64 0, .slice none 0 0, .slice none 0 0, .slice none 0 0, .slice none 0 0, .int .i64 0, .slice none 0 0, .slice none 0 0, .int .i64 0, .slice none 0 0, .int .i64 0, .int .i64 0] 51)).setRow w2.heap.size cs' = w3 at Y ⊢
  generalize w2.heap.size = B at Y Or ⊢
  clear N X2 Hx'
  go_wp2_with fail
  refine (A3.out (by first | exact trivial | exact rfl) w1.heap.size B x' vs rs w3 Or.out.2 Y.out.1 ⟨Y.out.2.2.2, fun w2 q2 => KR.out _ (Y.out.2.2.1.trans (q2.mono (by have := Or.out; omega)))⟩).mono ?_
  rintro e w4 ⟨rfl, ⟨x2, vs2, rs2, gb⟩, q⟩
  have hx2 := Sa.out x2
  have Bx : Hid (Boxed w4 B (ga.cells x2) 51 ∧ GtO w1.heap.size w4 x2 vs2 rs2 ga) := ⟨gb.box, gb.own⟩
  have Fin : Hid (∀ W, (∀ k, k ≠ w.heap.size + 1 → W.heap[k]? = w4.heap[k]?) → GtLie w.heap.size W.heap.size W (.agg (ga.cells x2)) ga) := fun W hk => by
    have h1 : GtO w1.heap.size W x2 vs2 rs2 ga := gb.own.other fun k k1 _ => hk k (by have := Or.out; omega)
    exact (h1.mono (by have := Or.out; omega)).lie
  have R4 : Hid (Boxed w4 (w.heap.size + 1) #[.int .i64 0, .int .i64 0, .int .i64 0, .slice none 0 0, .slice none 0 0, .slice none 0 0, .slice none 0 0, .int .i64 0, .slice none 0 0, .slice none 0 0, .int .i64 0, .slice none 0 0, .int .i64 0, .int .i64 0] 51 ∧ Below w.heap.size w w4) := ⟨Y.out.2.1.below (by have := Or.out; omega) q, Y.out.2.2.1.trans (q.mono (by have := Or.out; omega))⟩
  generalize ga.cells x2 = c2 at hx2 Bx Fin
  have Hx2 : Hid _ := hx2
  clear gb q Y A3 hx2 K
  go_wp2_with (first | (refine wpList_load_row rfl 51 (.tmp 8) rfl B rfl _ _ _ _ Bx.out.1 Tryz.underlying51 rfl (by rw [Hx2.out.1]; kernel_rfl) ?_) | (refine wpList_store_row rfl 51 (.tmp 6) (.tmp 19) rfl (w.heap.size + 1) c2 rfl rfl _ _ R4.out.1 (by rw [Hx2.out.1]; kernel_rfl) (by rw [Hx2.out.1]; rfl) Hx2.out.2 ?_))
  refine bodyPost_ret (results_row_tmp Tryz.results17 _ _ (w.heap.size + 1) _ c2 _ _ (.bool fl) rfl rfl (setRow_heap w4 (w.heap.size + 1) _ _ _ _ R4.out.1) Tryz.underlying51 rfl (by rw [Hx2.out.1]; kernel_rfl)) rfl ⟨⟨_, rfl, Fin.out _ fun k hk => setRow_other _ _ _ _ hk⟩, below_setRow R4.out.2 (by omega) _⟩
end Go.Proofs.YtaojbmhodpffiaaGreat
