/-
  The walk of the program's comeIn: what comes in at a gate's variable. By the verifier, by program.
-/
import Derived.Test.YtgebghkcikmfaaaGreatDoorQJ34GtComeF
import Derived.Test.YtgebghkcikmfaaaGreatDoorQJ11GtFacts
import Derived.Test.YtgebghkcikmfaaaGreatDoorQJ35GtTimeI
import Derived.Test.YtgebghkcikmfaaaGreatDoorQJ36GtOne
import Derived.Test.YtgebghkcikmfaaaGreatDoorQJ37GuMust
import Derived.Test.YtgebghkcikmfaaaGreatDoorQJ41RdMath
import Derived.Test.YtgebghkcikmfaaaGreatDoorQJ39RuMat
import Derived.Test.YtgebghkcikmfaaaGreatDoorQJ42RuOrder
import Derived.Test.YtgebghkcikmfaaaGreatDoorQJ43LnOn
import Derived.Test.YtgebghkcikmfaaaGreatDoorQJ44RwOkI
import Derived.Test.YtgebghkcikmfaaaGreatDoorQJ45RuClsI
import Derived.Test.YtgebghkcikmfaaaGreatDoorQJ46SrHitI
import Derived.Test.YtgebghkcikmfaaaGreatDoorQJ47RwPushI
import Derived.Test.YtgebghkcikmfaaaGreatDoorQJ48FsQuI
import Derived.Test.YtgebghkcikmfaaaGreatDoorQJ17RegList
import Derived.Test.YtgebghkcikmfaaaGreatDoorQJ31OpStep
import Derived.Test.YtgebghkcikmfaaaGreatDoorQJ32OpVal
import Derived.Deep.DeepCutAuto
namespace Go.Proofs.YtgebghkcikmfaaaGreatDoor
open Go.RowKit

theorem op_callP {P : Program} {o : Oper} {a : Act} {w : World} {K : Act → World → Prop} {Q : Exit → Act → World → Prop} {f : FuncId} {args : Array Value} (hrun : (execOp a.eval o).run P w = .ok (.enter f args) w) {post : Ending → World → Prop} (hc : Calls P f args w post)
    (h : ∀ e w', post e w' → ∃ v, e = .panicked v ∧ Q (.panic v) a w') : o.wp P a w K Q := by
  unfold Oper.wp
  rw [hrun, Oper.upon_enter]
  refine hc.mono fun e w'' hh => ?_
  obtain ⟨v, rfl, hk⟩ := h e w'' hh
  exact hk

set_option maxHeartbeats 25600000 in
set_option maxRecDepth 100000 in
theorem implComeInQ {es em : Addr} (lo : Nat) (g : Gt) (xg : Ga) (f : Gf) (B : Nat) (s : ByteArray) (w : World) (Q : Ending → World → Prop) (hB : g.big ≤ 1048576) (hok : g.ok = true) (hs : s.size ≤ 1048576) (hE : Hid (∀ W, Below lo w W → Gl es em W)) (hb : Hid (Boxed w B (g.cells xg) 50)) (hG : Hid (GtW w xg f g ∧ f.In lo B ∧ f.Apart ∧ lo ≤ B))
    (h1 : Hid ((g.inn s).2 = 0 → ∀ w', GoneW lo B (g.inn s).1 w w' → Q (.returned (.int .i64 0)) w'))
    (h2 : Hid ((g.inn s).2 ≠ 0 → ∀ w', GoneW lo B (g.inn s).1 w w' → Q (.panicked [{ v := gaveUp (g.inn s).2, recovered := false }]) w')) :
    Calls Tryz.prog 63 #[.pointer (some ⟨B, 0, none⟩), .string s] w Q := by
  obtain ⟨s1, s2, s3, s4, s5, s6, s7⟩ := Gt.small hB
  obtain ⟨k1, k2, k3, k4, k5, k6, k7, k8, k9, k10, k11, k12⟩ := Gt.head_iff.1 (Gt.ok_iff.1 hok).1
  obtain ⟨f0, hf0⟩ : ∃ z, (sRun s).1 = z := ⟨_, rfl⟩
  obtain ⟨code, hcode⟩ : ∃ z, (sRun s).2 = z := ⟨_, rfl⟩
  have hrd : code = 0 → f0.Ok ∧ (s.size : Int) ≤ 1529 ∧ (23 : Int) ≤ s.size := fun e => by rw [← hf0]; exact read_ok (hcode.trans e)
  obtain ⟨so, hso⟩ : ∃ z, f0.sumOf = z := ⟨_, rfl⟩
  obtain ⟨hop, hhop⟩ : ∃ z, hopL g.routes f0.dst = z := ⟨_, rfl⟩
  obtain ⟨tk, htk⟩ : ∃ z, g.ln.takes s.size = z := ⟨_, rfl⟩
  obtain ⟨cl, hcl⟩ : ∃ z, classL g.rules f0 = z := ⟨_, rfl⟩
  obtain ⟨lf, hlf⟩ : ∃ z, g.leafOf f0 = z := ⟨_, rfl⟩
  have hopi := hopL_in k2 f0.dst
  rw [hhop] at hopi
  have cli := classL_in k3 f0
  rw [hcl] at cli
  have hnl : 1 ≤ g.leaves.length ∧ g.leaves.length ≤ 8 := k5
  have hli : hop ≠ -1 → lf < g.leaves.length ∧ Int.tmod (10 * hop + cl) (g.leaves.length : Int) = (lf : Int) := fun e => by
    have e1 : g.leafI f0 = (10 * hop + cl) % (g.leaves.length : Int) := by unfold Gt.leafI; rw [hhop, hcl]
    have m1 := Int.emod_nonneg (10 * hop + cl) (b := (g.leaves.length : Int)) (by omega)
    have m2 := Int.emod_lt_of_pos (10 * hop + cl) (b := (g.leaves.length : Int)) (by omega)
    have e2 : (lf : Int) = (10 * hop + cl) % (g.leaves.length : Int) := by rw [← hlf, ← e1]; unfold Gt.leafOf; rw [e1]; omega
    rw [Int.tmod_eq_emod_of_nonneg (by omega)]
    omega
  have Inn : Hid (g.inn s = if code ≠ 0 then (g, code) else if f0.sum ≠ so then (g, 10) else if hop < 0 then (g, 11) else if inB 1 2000 tk = false then (g, 12) else if g.draw < (srAt g.steers lf).prob then (g.drawn, 13) else if g.full lf = true then (g.drawn, 14) else (g.drawn.put lf s.size, 0)) := by
    show g.inn s = _
    rw [← hso, ← hhop, ← htk, ← hlf, ← hf0, ← hcode]
    rfl
  obtain ⟨FC, hFC⟩ : ∃ z : Option Addr → Nat → Array Value, z = fun a c => #[.int .i64 f0.to, .int .i64 f0.frm, .slice a f0.tags.length c, .int .i64 f0.src, .int .i64 f0.dst, .int .i64 f0.proto, .int .i64 f0.sport, .int .i64 f0.dport, .int .i64 f0.mark, .int .i64 f0.sum, .string f0.body] := ⟨_, rfl⟩
  have Hfc : Hid (∀ a c, (FC a c).size = 11 ∧ (FC a c).all (·.oneCell') = true ∧ (FC a c)[4]? = some (.int .i64 f0.dst) ∧ (FC a c)[9]? = some (.int .i64 f0.sum)) := fun a c => by rw [hFC]; exact ⟨rfl, by simp [Value.oneCell'], rfl, rfl⟩
  have hval : ∀ a c, f0.val a c = .agg (FC a c) := fun a c => by rw [hFC]; rfl
  have A1 : Hid (∀ W, Below lo w W → Calls Tryz.prog 129 #[.string s] W fun e w' => (∃ a c, e = .returned (.tuple #[.agg (FC a c), .int .i64 code]) ∧ IRow W.heap.size w' (.slice a f0.tags.length c) f0.tags) ∧ Below W.heap.size W w') := fun W q => by
    have z := implRead s hs W (hE.out W q)
    unfold RdPost at z
    rw [read_eq, hf0, hcode] at z
    refine z.mono ?_
    rintro e w' ⟨a, c, rfl, r, b⟩
    rw [hval]
    exact ⟨⟨a, c, rfl, r⟩, b⟩
  have A2 : Hid (code = 0 → ∀ W a c, IntsAt W a f0.tags → Calls Tryz.prog 130 #[.agg (FC a c)] W fun e w' => e = .returned (.int .i64 so) ∧ Below W.heap.size W w') := fun e W a c h => by
    have fo := (hrd e).1
    have z := implSumOf f0 a c W (by have := fo.2.2.1; omega) h
    have e2 : f0.sumOr = so := by unfold Fr.sumOr; rw [if_pos (Fr.ok_true.2 fo)]; exact hso
    rw [hval, e2] at z
    exact z
  have A3 : Hid (code = 0 → ∀ W, GtV W xg g → Calls Tryz.prog 131 #[.slice xg.a1 g.routes.length xg.c1, .int .i64 f0.dst] W fun e w' => e = .returned (.int .i64 hop) ∧ Below W.heap.size W w') := fun e W h => by
    have fo := (hrd e).1
    obtain ⟨a, c, e3, r1, r2, r3⟩ := h.routes
    cases e3
    have z := implHop xg.a1 xg.c1 g.routes f0.dst W s1 r2 r1
    have e2 : hopV g.routes f0.dst = hop := by unfold hopV; rw [if_pos ⟨k2, inB_true.2 (by have := fo.2.2.2.2.1; omega)⟩]; exact hhop
    rw [e2] at z
    exact z
  have A4 : Hid (code = 0 → ∀ W, Calls Tryz.prog 132 #[.agg #[.int .i64 g.ln.kind, .int .i64 g.ln.extra, .int .i64 g.ln.least], .int .i64 (s.size : Int)] W fun e w' => e = .returned (.int .i64 tk) ∧ Below W.heap.size W w') := fun e W => by
    have z := implOn g.ln (s.size : Int) W
    have e2 : g.ln.on (s.size : Int) = tk := by rw [on_ok k1 (inB_true.2 (by have := (hrd e).2; omega))]; exact htk
    rw [e2] at z
    exact z
  have A6 : Hid (code = 0 → ∀ W a c, GtV W xg g → IntsAt W a f0.tags → Calls Tryz.prog 134 #[.slice xg.a2 g.rules.length xg.c2, .agg (FC a c)] W fun e w' => e = .returned (.int .i64 cl) ∧ Below W.heap.size W w') := fun e W a c h ht => by
    have fo := (hrd e).1
    obtain ⟨a', c', e3, r1, r2, r3⟩ := h.rules
    cases e3
    have z := implClassOf xg.a2 xg.c2 g.rules f0 a c W s2 (by have := fo.2.2.1; omega) r3 r1 ht
    have e2 : classV g.rules f0 = cl := by unfold classV; rw [if_pos ⟨k3, Fr.ok_true.2 fo⟩]; exact hcl
    rw [hval, e2] at z
    exact z
  have hdr : 0 ≤ g.draw ∧ g.draw ≤ 1048575 := k12
  obtain ⟨hit, hhit⟩ : ∃ z, decide (g.draw < (srAt g.steers lf).prob) = z := ⟨_, rfl⟩
  have A7 : Hid (lf < g.leaves.length → ∀ W, Calls Tryz.prog 135 #[.agg #[.int .i64 (srAt g.steers lf).target, .int .i64 (srAt g.steers lf).old, .int .i64 (srAt g.steers lf).prob], .int .i64 g.draw] W fun e w' => e = .returned (.bool hit) ∧ Below W.heap.size W w') := fun e W => by
    have z := implHit (srAt g.steers lf) g.draw W
    have e2 : (srAt g.steers lf).hit g.draw = hit := by
      unfold Sr.hit
      rw [(Gt.leaf_iff.1 ((Gt.ok_iff.1 hok).2 lf e)).2.2.1, inB_true.2 hdr]
      simpa using hhit
    rw [e2] at z
    exact z
  obtain ⟨nd, hnd⟩ : ∃ z, (g.draw * 25173 + 13849) % 1048576 = z := ⟨_, rfl⟩
  have wd1 : IntKind.i64.wrap (g.draw * 25173) = g.draw * 25173 := by rw [IntKind.wrap_i64]; omega
  have wd2 : IntKind.i64.wrap (g.draw * 25173 + 13849) = g.draw * 25173 + 13849 := by rw [IntKind.wrap_i64]; omega
  have wd3 : Int.tmod (g.draw * 25173 + 13849) 1048576 = nd := by rw [Int.tmod_eq_emod_of_nonneg (by omega)]; exact hnd
  have wd4 : IntKind.i64.wrap nd = nd := by rw [IntKind.wrap_i64]; omega
  have Hd : Hid (g.drawn = { g with draw := nd }) := by
    show g.drawn = _
    unfold Gt.drawn
    rw [hnd]
  have hnx : 1 ≤ g.next ∧ g.next ≤ 1000000 := k11
  obtain ⟨tm, hte⟩ : ∃ z, (ndAt g.tree 0).pz.tm = z := ⟨_, rfl⟩
  have A5 : Hid (∀ W x5 (g5 : Gt), g5.tree = g.tree → NdsAt W x5.a3 g5.tree → Calls Tryz.prog 113 #[g5.val x5] W fun e w' => e = .returned (.int .i64 tm) ∧ Below W.heap.size W w') := fun W x5 g5 e h => by
    have q := implTimeOf g5 x5 W (by rw [e]; have := (tok_iff.1 k4).1; omega) (by rw [e]; exact s3) h
    rw [e, hte] at q
    exact q
  obtain ⟨f1, hf1⟩ : ∃ z, (!decide ((izSum g.rows.lists g.rows.lists.length : Int) = g.rows.most)) = z := ⟨_, rfl⟩
  obtain ⟨f2, hf2⟩ : ∃ z, (!decide ((fwAt g.fair.flows lf).sizes.length = 40)) = z := ⟨_, rfl⟩
  obtain ⟨rw', hrw'⟩ : ∃ z : Rw, g.rows.pushed (lf : Int) ⟨g.next, s.size, tm⟩ = z := ⟨_, rfl⟩
  obtain ⟨fs, hfs⟩ : ∃ z : Fs, g.fair.queued (lf : Int) tk = z := ⟨_, rfl⟩
  have put : code = 0 → lf < g.leaves.length → inB 1 2000 tk = true → g.rows.pushedB (lf : Int) ⟨g.next, s.size, tm⟩ = f1 ∧ g.fair.queuedB (lf : Int) tk = f2 ∧ (f1 = true → f2 = true → ({ g with draw := nd, rows := rw', fair := fs, next := g.next + 1 } : Gt) = g.drawn.put lf s.size) ∧ g.full lf = (decide (g.next = 1000000) || (!f1 || !f2)) := fun e0 e1 e2 => by
    have z := come_put (len := (s.size : Int)) hok e1 (by have := (hrd e0).2; omega) (by rw [htk]; rw [inB_true] at e2; exact e2)
    rw [hte, htk, hf1, hf2, hrw', hfs] at z
    refine ⟨z.1, z.2.1, fun u1 u2 => ?_, ?_⟩
    · rw [z.2.2.1 (by rw [z.1]; exact u1), z.2.2.2 (by rw [z.2.1]; exact u2), ← hte, ← htk, ← hnd]
      rfl
    · unfold Gt.full
      rw [← hf1, ← hf2]
      simp
  have rlen : rw'.lists.length = g.rows.lists.length ∧ rw'.most = g.rows.most := by
    rw [← hrw']
    unfold Rw.pushed
    rw [if_pos k6]
    split
    · exact ⟨List.length_set, rfl⟩
    · exact ⟨rfl, rfl⟩
  have flen : fs.flows.length = g.fair.flows.length ∧ fs.now = g.fair.now := by
    rw [← hfs]
    unfold Fs.queued
    rw [if_pos k9]
    split
    · exact ⟨List.length_set, rfl⟩
    · exact ⟨rfl, rfl⟩
  have A8 : Hid (code = 0 → lf < g.leaves.length → inB 1 2000 tk = true → ∀ W, GtV W xg g → Calls Tryz.prog 136 #[.agg #[.int .i64 g.rows.most, .slice xg.a5 g.rows.lists.length xg.c5], .int .i64 (lf : Int), .agg #[.int .i64 g.next, .int .i64 (s.size : Int), .int .i64 tm]] W fun e w' => (∃ p c, e = .returned (.tuple #[.agg #[.int .i64 g.rows.most, .slice p g.rows.lists.length c], .bool f1]) ∧ RwIn W.heap.size w'.heap.size w' (rw'.val p c) rw') ∧ Below W.heap.size W w') := fun e0 e1 e2 W h => by
    refine (implPushed g.rows _ (lf : Int) ⟨g.next, s.size, tm⟩ W s5 h.rows).mono ?_
    rw [(put e0 e1 e2).1, hrw']
    rintro e w' ⟨⟨v, rfl, r⟩, q⟩
    have r0 := r
    obtain ⟨p, c, e2, -⟩ := r
    subst e2
    refine ⟨⟨p, c, ?_, r0⟩, q⟩
    unfold Rw.val
    rw [rlen.1, rlen.2]
  have A9 : Hid (code = 0 → lf < g.leaves.length → inB 1 2000 tk = true → ∀ W, GtV W xg g → Calls Tryz.prog 137 #[.agg #[.int .i64 g.fair.now, .slice xg.a7 g.fair.flows.length xg.c7], .int .i64 (lf : Int), .int .i64 tk] W fun e w' => (∃ p c, e = .returned (.tuple #[.agg #[.int .i64 g.fair.now, .slice p g.fair.flows.length c], .bool f2]) ∧ FsIn W.heap.size w'.heap.size w' (fs.val p c) fs) ∧ Below W.heap.size W w') := fun e0 e1 e2 W h => by
    refine (implQueued g.fair _ (lf : Int) tk W s7 h.fair).mono ?_
    rw [(put e0 e1 e2).2.1, hfs]
    rintro e w' ⟨⟨v, rfl, r⟩, q⟩
    have r0 := r
    obtain ⟨p, c, e2, -⟩ := r
    subst e2
    refine ⟨⟨p, c, ?_, r0⟩, q⟩
    unfold Fs.val
    rw [flen.1, flen.2]
  have Put : Hid _ := put
  have Hlens : Hid (rw'.lists.length = g.rows.lists.length ∧ rw'.most = g.rows.most ∧ fs.flows.length = g.fair.flows.length ∧ fs.now = g.fair.now ∧ g.steers.length = g.leaves.length) := ⟨rlen.1, rlen.2, flen.1, flen.2, k8⟩
  have Hhit : Hid (decide (g.draw < (srAt g.steers lf).prob) = hit) := hhit
  have Hli : Hid _ := hli
  have Hrd : Hid (code = 0 → (s.size : Int) ≤ 1529 ∧ (23 : Int) ≤ s.size) := fun e => (hrd e).2
  have HP : Hid (∀ c g', g.inn s = (g', c) → c ≠ 0 → ∀ w', GoneW lo B g' w w' → Q (.panicked [{ v := gaveUp c, recovered := false }]) w') := fun c g' e hc w' h => by
    have z := h2.out
    rw [e] at z
    exact z hc w' h
  have HR : Hid (∀ g', g.inn s = (g', 0) → ∀ w', GoneW lo B g' w w' → Q (.returned (.int .i64 0)) w') := fun g' e w' h => by
    have z := h1.out
    rw [e] at z
    exact z rfl w' h
  clear h1 h2 put hhit hli hrd rlen flen hrw' hfs hf1 hf2 hte hnd hval hFC hcode hf0 hso hhop htk hcl hlf k1 k2 k3 k4 k5 k6 k7 k8 k9 k10 k11 k12 s1 s2 s3 s4 s5 s6 s7 hE
  have XG : Hid (∀ z, Below w.heap.size w z → Boxed z B (g.cells xg) 50 ∧ GtW z xg f g) := fun z q => ⟨hb.out.below hb.out.under q, hG.out.1.below q⟩
  have Hlw : Hid (lo ≤ w.heap.size ∧ B < w.heap.size) := ⟨by have := hG.out.2.2.2; have := hb.out.under; omega, hb.out.under⟩
  -- what a panic leaves, as long as nothing was put
  have G0 : Hid (∀ z, Below w.heap.size w z → GoneW lo B g w z) := fun z q => ⟨⟨xg, f, (XG.out z q).1, (XG.out z q).2, hG.out.2.1.wide (Nat.le_refl _) (by have := Hlw.out; have := q.size; omega), hG.out.2.2.1, fun j h3 _ => Gf.Off.of_in hG.out.2.1 (Nat.le_of_lt h3)⟩, q.mono Hlw.out.1, fun j _ hj => q.block j hj⟩
  clear hb hok hB
  go_enter Tryz.func63, Tryz.ntmps63
  go_wp2_with fail
  refine (A1.out w (Below.refl _ _)).mono ?_
  rintro e w1 ⟨⟨a, c, rfl, r⟩, q⟩
  have T1 : Hid (IntsAt w1 a f0.tags ∧ Below w.heap.size w w1) := ⟨r.ints, q⟩
  clear r q A1
  have hfc := Hfc.out a c
  have A2' : Hid _ := fun e W => A2.out e W a c
  have A6' : Hid _ := fun e W => A6.out e W a c
  clear A2 A6
  generalize FC a c = fc at hfc A2' A6' ⊢
  have Fc : Hid _ := hfc
  clear hfc Hfc
  clear FC
  have N : Hid (Boxed (w1.alloc (.cells #[.int .i64 0, .int .i64 0, .slice none 0 0, .int .i64 0, .int .i64 0, .int .i64 0, .int .i64 0, .int .i64 0, .int .i64 0, .int .i64 0, .string ⟨#[]⟩] 175)) w1.heap.size #[.int .i64 0, .int .i64 0, .slice none 0 0, .int .i64 0, .int .i64 0, .int .i64 0, .int .i64 0, .int .i64 0, .int .i64 0, .int .i64 0, .string ⟨#[]⟩] 175) := Boxed.new _ _ _
  have bN : Hid (Below w1.heap.size w1 ((w1.alloc (.cells #[.int .i64 0, .int .i64 0, .slice none 0 0, .int .i64 0, .int .i64 0, .int .i64 0, .int .i64 0, .int .i64 0, .int .i64 0, .int .i64 0, .string ⟨#[]⟩] 175)).setRow w1.heap.size fc)) := below_setRow ((Below.refl _ _).alloc (Nat.le_refl _) _) (Nat.le_refl _) _
  have hN : Hid (Boxed ((w1.alloc (.cells #[.int .i64 0, .int .i64 0, .slice none 0 0, .int .i64 0, .int .i64 0, .int .i64 0, .int .i64 0, .int .i64 0, .int .i64 0, .int .i64 0, .string ⟨#[]⟩] 175)).setRow w1.heap.size fc) w1.heap.size fc 175) := setRow_heap _ _ _ _ _ _ N.out
  go_upto_region 2 with (refine wpList_store_row rfl 175 (.tmp 5) (.tmp 18) rfl w1.heap.size fc rfl rfl _ _ N.out (by rw [Fc.out.1]; kernel_rfl) (by rw [Fc.out.1]; rfl) Fc.out.2.1 ?_)
  try simp only [Act.put]
  have Z2 : Hid (Below w.heap.size w ((w1.alloc (.cells #[.int .i64 0, .int .i64 0, .slice none 0 0, .int .i64 0, .int .i64 0, .int .i64 0, .int .i64 0, .int .i64 0, .int .i64 0, .int .i64 0, .string ⟨#[]⟩] 175)).setRow w1.heap.size fc) ∧ IntsAt ((w1.alloc (.cells #[.int .i64 0, .int .i64 0, .slice none 0 0, .int .i64 0, .int .i64 0, .int .i64 0, .int .i64 0, .int .i64 0, .int .i64 0, .int .i64 0, .string ⟨#[]⟩] 175)).setRow w1.heap.size fc) a f0.tags ∧ B < w1.heap.size) := ⟨T1.out.2.trans (bN.out.mono T1.out.2.size), T1.out.1.below bN.out, Nat.lt_of_lt_of_le Hlw.out.2 T1.out.2.size⟩
  clear N bN T1
  generalize (w1.alloc (.cells #[.int .i64 0, .int .i64 0, .slice none 0 0, .int .i64 0, .int .i64 0, .int .i64 0, .int .i64 0, .int .i64 0, .int .i64 0, .int .i64 0, .string ⟨#[]⟩] 175)).setRow w1.heap.size fc = w2 at hN Z2 ⊢
  generalize w1.heap.size = F at hN Z2 ⊢
  by_cases hc : code = 0
  rotate_left
  · have hcb : (code == 0) = false := by simp [hc]
    have CP : Hid (∀ w, Calls Tryz.prog 107 #[.bool false, .int .i64 (code)] w fun e w' => e = .panicked [{ v := gaveUp (code), recovered := false }] ∧ w' = w) := fun w => (implMust false (code) w).mono fun e w' h => ⟨by rw [h.1, if_neg (by decide)], h.2⟩
    go_wp2_with fail
    refine (CP.out _).mono ?_
    rintro e wq ⟨rfl, hwq⟩
    have hwq2 := hwq.symm
    subst hwq2
    have R0 := HP.out (code) g (by rw [Inn.out, if_pos hc]) (by first | omega | decide) _ (G0.out _ Z2.out.1)
    go_wp2
    first | exact ⟨rfl, R0⟩ | (trace_state; done)
  subst hc
  have A2 : Hid _ := A2'.out rfl
  have A3' : Hid _ := A3.out rfl
  have A4' : Hid _ := A4.out rfl
  have A6 : Hid _ := A6'.out rfl
  have A8' : Hid _ := A8.out rfl
  have A9' : Hid _ := A9.out rfl
  have Put' : Hid _ := Put.out rfl
  have Hr : Hid _ := Hrd.out rfl
  clear A2' A3 A4 A6' A8 A9 Put Hrd
  have CM : Hid (∀ w, Calls Tryz.prog 107 #[.bool true, .int .i64 (0)] w fun e w' => e = .returned (.tuple #[]) ∧ w' = w) := fun w => (implMust true (0) w).mono fun e w' h => ⟨by rw [h.1, if_pos rfl], h.2⟩
  go_wp2_with fail
  refine (CM.out _).mono ?_
  rintro e wq ⟨rfl, hwq⟩
  have hwq2 := hwq.symm
  subst hwq2
  clear CM
  have Z3 : Hid (Below w.heap.size w w2 ∧ IntsAt w2 a f0.tags ∧ B < F ∧ Boxed w2 F fc 175) := ⟨Z2.out.1, Z2.out.2.1, Z2.out.2.2, hN.out⟩
  clear Z2 hN
  have RY : Hid (∀ z, Below w2.heap.size w2 z → Boxed z B (g.cells xg) 50 ∧ GtV z xg g ∧ Boxed z F fc 175 ∧ IntsAt z a f0.tags) := fun z q => by
    have q2 := Z3.out.1.trans (q.mono Z3.out.1.size)
    exact ⟨(XG.out z q2).1, (XG.out z q2).2.at, Z3.out.2.2.2.below Z3.out.2.2.2.under q, Z3.out.2.1.below q⟩
  by_cases hsum0 : f0.sum ≠ so
  · have hsum : (f0.sum == so) = false := by simpa using hsum0
    have CP : Hid (∀ w, Calls Tryz.prog 107 #[.bool false, .int .i64 10] w fun e w' => e = .panicked [{ v := gaveUp 10, recovered := false }] ∧ w' = w) := fun w => (implMust false 10 w).mono fun e w' h => ⟨by rw [h.1, if_neg (by decide)], h.2⟩
    go_upto_region 3 with fail
    refine region_lists (G := Unit) (by kernel_rfl) (by kernel_rfl) (by kernel_rfl) (fun i => 99) (fun (L : Nat → Bool) (_ : Unit) (z : World) => L 5 = false ∧ Below w2.heap.size w2 z) (fun i (_ : Unit) z (_ : Unit) z' => True) (fun i y x u => ([fun _ _ u => u = .pointer (some ⟨F, 9, none⟩), fun _ _ u => u = .int .i64 f0.sum, fun _ _ u => u = .agg fc, fun _ _ u => u = .int .i64 so, fun _ _ u => u = .bool false, fun _ _ u => True] : List (Unit → World → Value → Prop)).getD i (fun _ _ _ => True) y x u) ?hR () ?h0 ?step ?last
    case hR =>
      intro i j y y' x x' u hi hj hne hu h1 h2 hp hr
      have hi' : i < 6 := hi
      have hj' : j < 6 := hj
      have hcases : j = 0 ∨ j = 1 ∨ j = 2 ∨ j = 3 ∨ j = 4 ∨ j = 5 := by omega
      rcases hcases with rfl | rfl | rfl | rfl | rfl | rfl
      · exact hp
      · exact hp
      · exact hp
      · exact hp
      · exact hp
      · exact hp
    case h0 => exact ⟨rfl, (Below.refl _ _).drew⟩
    case step =>
      intro i o hi ho L a' y x hLi hwt hre hkp hI hp
      have s5 : a'.tmps[5]?.getD undef = .pointer (some ⟨F, 0, none⟩) := by have h2 : a'.tmps.getD 5 undef = .pointer (some ⟨F, 0, none⟩) := hkp.slot 5 (by kernel_rfl); simpa using h2
      have hi' : i < 6 := hi
      have hcases : i = 0 ∨ i = 1 ∨ i = 2 ∨ i = 3 ∨ i = 4 ∨ i = 5 := by omega
      rcases hcases with rfl | rfl | rfl | rfl | rfl | rfl
      · cases ho
        refine ⟨wanted_none rfl, Oper.wp_mono (K := fun a'' w'' => a'' = a'.put (some 24) (.pointer (some ⟨F, 9, none⟩)) ∧ w'' = x) ?_ ?_⟩
        · rintro _ _ ⟨rfl, rfl⟩
          exact ⟨_, y, rfl, trivial, ⟨by simpa using hI.1, hI.2⟩, fun u hu => hu (fun h => by cases h)⟩
        · unfold Oper.wp
          simp [go_sem, s5]
      · cases ho
        obtain ⟨fbx, fgv, ffr, fti⟩ := RY.out x hI.2
        have c9 := ffr.cell 9 Fc.out.2.2.2
        have q0 : a'.tmps[24]?.getD undef = .pointer (some ⟨F, 9, none⟩) := by have h2 : a'.tmps.getD 24 undef = .pointer (some ⟨F, 9, none⟩) := hp 0 (of_decide_eq_true (by kernel_rfl)) (.inr (by decide)); simpa using h2
        refine ⟨wanted_none rfl, Oper.wp_mono (K := fun a'' w'' => a'' = a'.put (some 25) (.int .i64 f0.sum) ∧ w'' = x) ?_ ?_⟩
        · rintro _ _ ⟨rfl, rfl⟩
          exact ⟨_, y, rfl, trivial, ⟨by simpa using hI.1, hI.2⟩, fun u hu => hu (fun h => by cases h)⟩
        · unfold Oper.wp
          simp [go_sem, q0, c9]
      · cases ho
        obtain ⟨fbx, fgv, ffr, fti⟩ := RY.out x hI.2
        exact ⟨wanted_none rfl, wp_load_row 175 (.tmp 5) rfl F (by simpa [Act.eval] using s5) _ _ _ _ ffr Tryz.underlying175 rfl (by rw [Fc.out.1]; kernel_rfl) ⟨_, y, rfl, trivial, ⟨by simpa using hI.1, hI.2⟩, fun u hu => hu (fun h => by cases h)⟩⟩
      · cases ho
        obtain ⟨fbx, fgv, ffr, fti⟩ := RY.out x hI.2
        have q2 : a'.tmps[26]?.getD undef = .agg fc := by have h2 : a'.tmps.getD 26 undef = .agg fc := hp 2 (of_decide_eq_true (by kernel_rfl)) (.inr (by decide)); simpa using h2
        refine ⟨wanted_none rfl, op_callR (f := 130) (args := #[.agg fc]) (by simp [execOp, resolve, Deferred.ofValue, invoke, Act.eval, q2]) (A2.out x fti) ?_⟩
        rintro e x1 ⟨rfl, q⟩
        exact ⟨_, rfl, _, y, rfl, trivial, ⟨by simpa using hI.1, hI.2.trans (q.mono hI.2.size)⟩, fun u hu => hu (fun h => by cases h)⟩
      · cases ho
        have q1 : a'.tmps[25]?.getD undef = .int .i64 f0.sum := by have h2 : a'.tmps.getD 25 undef = .int .i64 f0.sum := hp 1 (of_decide_eq_true (by kernel_rfl)) (.inr (by decide)); simpa using h2
        have q3 : a'.tmps[27]?.getD undef = .int .i64 so := by have h2 : a'.tmps.getD 27 undef = .int .i64 so := hp 3 (of_decide_eq_true (by kernel_rfl)) (.inr (by decide)); simpa using h2
        refine ⟨wanted_none rfl, Oper.wp_mono (K := fun a'' w'' => a'' = a'.put (some 28) (.bool false) ∧ w'' = x) ?_ ?_⟩
        · rintro _ _ ⟨rfl, rfl⟩
          exact ⟨_, y, rfl, trivial, ⟨by simpa using hI.1, hI.2⟩, fun u hu => hu (fun h => by cases h)⟩
        · unfold Oper.wp
          simp [go_sem, q1, q3, hsum]
      · cases ho
        have q4 : a'.tmps[28]?.getD undef = .bool false := by have h2 : a'.tmps.getD 28 undef = .bool false := hp 4 (of_decide_eq_true (by kernel_rfl)) (.inr (by decide)); simpa using h2
        refine ⟨wanted_none rfl, op_callP (f := 107) (args := #[.bool false, .int .i64 10]) (by simp [execOp, resolve, Deferred.ofValue, invoke, Act.eval, q4]) (CP.out x) ?_⟩
        rintro e x1 ⟨rfl, hx1⟩
        have hx2 := hx1.symm
        subst hx2
        have R0 := HP.out 10 g (by rw [Inn.out, if_neg (fun h => h rfl), if_pos hsum0]) (by decide) _ (G0.out x (Z3.out.1.trans (hI.2.mono Z3.out.1.size)))
        refine ⟨_, rfl, ?_⟩
        first | exact ⟨hkp.defers, R0⟩ | exact (show bodyPost _ _ _ (Exit.panic _) a' x from ⟨hkp.defers, R0⟩) | simpa [Exit.then, Exit.inBlock, bodyPost, go_sem] using R0 | (trace_state; done)
    case last =>
    intro L a' y x hall hkp hI hp
    exact absurd (hI.1) (by rw [hall 5 (by decide)]; decide)
  have hsum1 : f0.sum = so := Classical.byContradiction hsum0
  have hsum : (f0.sum == so) = true := by simpa using hsum1
  clear hsum0
  have CM : Hid (∀ w, Calls Tryz.prog 107 #[.bool true, .int .i64 10] w fun e w' => e = .returned (.tuple #[]) ∧ w' = w) := fun w => (implMust true 10 w).mono fun e w' h => ⟨by rw [h.1, if_pos rfl], h.2⟩
  go_upto_region 3 with fail
  refine region_lists (G := Unit) (by kernel_rfl) (by kernel_rfl) (by kernel_rfl) (fun i => 99) (fun (_ : Nat → Bool) (_ : Unit) (z : World) => Below w2.heap.size w2 z) (fun i (_ : Unit) z (_ : Unit) z' => True) (fun i y x u => ([fun _ _ u => u = .pointer (some ⟨F, 9, none⟩), fun _ _ u => u = .int .i64 f0.sum, fun _ _ u => u = .agg fc, fun _ _ u => u = .int .i64 so, fun _ _ u => u = .bool true, fun _ _ u => True] : List (Unit → World → Value → Prop)).getD i (fun _ _ _ => True) y x u) ?hR () ?h0 ?step ?last
  case hR =>
    intro i j y y' x x' u hi hj hne hu h1 h2 hp hr
    have hi' : i < 6 := hi
    have hj' : j < 6 := hj
    have hcases : j = 0 ∨ j = 1 ∨ j = 2 ∨ j = 3 ∨ j = 4 ∨ j = 5 := by omega
    rcases hcases with rfl | rfl | rfl | rfl | rfl | rfl
    · exact hp
    · exact hp
    · exact hp
    · exact hp
    · exact hp
    · exact hp
  case h0 => exact (Below.refl _ _).drew
  case step =>
    intro i o hi ho L a' y x hLi hwt hre hkp hI hp
    have s5 : a'.tmps[5]?.getD undef = .pointer (some ⟨F, 0, none⟩) := by have h2 : a'.tmps.getD 5 undef = .pointer (some ⟨F, 0, none⟩) := hkp.slot 5 (by kernel_rfl); simpa using h2
    have hi' : i < 6 := hi
    have hcases : i = 0 ∨ i = 1 ∨ i = 2 ∨ i = 3 ∨ i = 4 ∨ i = 5 := by omega
    rcases hcases with rfl | rfl | rfl | rfl | rfl | rfl
    · cases ho
      refine ⟨wanted_none rfl, Oper.wp_mono (K := fun a'' w'' => a'' = a'.put (some 24) (.pointer (some ⟨F, 9, none⟩)) ∧ w'' = x) ?_ ?_⟩
      · rintro _ _ ⟨rfl, rfl⟩
        exact ⟨_, y, rfl, trivial, hI, fun u hu => hu (fun h => by cases h)⟩
      · unfold Oper.wp
        simp [go_sem, s5]
    · cases ho
      obtain ⟨fbx, fgv, ffr, fti⟩ := RY.out x hI
      have c9 := ffr.cell 9 Fc.out.2.2.2
      have q0 : a'.tmps[24]?.getD undef = .pointer (some ⟨F, 9, none⟩) := by have h2 : a'.tmps.getD 24 undef = .pointer (some ⟨F, 9, none⟩) := hp 0 (of_decide_eq_true (by kernel_rfl)) (.inr (by decide)); simpa using h2
      refine ⟨wanted_none rfl, Oper.wp_mono (K := fun a'' w'' => a'' = a'.put (some 25) (.int .i64 f0.sum) ∧ w'' = x) ?_ ?_⟩
      · rintro _ _ ⟨rfl, rfl⟩
        exact ⟨_, y, rfl, trivial, hI, fun u hu => hu (fun h => by cases h)⟩
      · unfold Oper.wp
        simp [go_sem, q0, c9]
    · cases ho
      obtain ⟨fbx, fgv, ffr, fti⟩ := RY.out x hI
      exact ⟨wanted_none rfl, wp_load_row 175 (.tmp 5) rfl F (by simpa [Act.eval] using s5) _ _ _ _ ffr Tryz.underlying175 rfl (by rw [Fc.out.1]; kernel_rfl) ⟨_, y, rfl, trivial, hI, fun u hu => hu (fun h => by cases h)⟩⟩
    · cases ho
      obtain ⟨fbx, fgv, ffr, fti⟩ := RY.out x hI
      have q2 : a'.tmps[26]?.getD undef = .agg fc := by have h2 : a'.tmps.getD 26 undef = .agg fc := hp 2 (of_decide_eq_true (by kernel_rfl)) (.inr (by decide)); simpa using h2
      refine ⟨wanted_none rfl, op_callR (f := 130) (args := #[.agg fc]) (by simp [execOp, resolve, Deferred.ofValue, invoke, Act.eval, q2]) (A2.out x fti) ?_⟩
      rintro e x1 ⟨rfl, q⟩
      exact ⟨_, rfl, _, y, rfl, trivial, hI.trans (q.mono hI.size), fun u hu => hu (fun h => by cases h)⟩
    · cases ho
      have q1 : a'.tmps[25]?.getD undef = .int .i64 f0.sum := by have h2 : a'.tmps.getD 25 undef = .int .i64 f0.sum := hp 1 (of_decide_eq_true (by kernel_rfl)) (.inr (by decide)); simpa using h2
      have q3 : a'.tmps[27]?.getD undef = .int .i64 so := by have h2 : a'.tmps.getD 27 undef = .int .i64 so := hp 3 (of_decide_eq_true (by kernel_rfl)) (.inr (by decide)); simpa using h2
      refine ⟨wanted_none rfl, Oper.wp_mono (K := fun a'' w'' => a'' = a'.put (some 28) (.bool true) ∧ w'' = x) ?_ ?_⟩
      · rintro _ _ ⟨rfl, rfl⟩
        exact ⟨_, y, rfl, trivial, hI, fun u hu => hu (fun h => by cases h)⟩
      · unfold Oper.wp
        simp [go_sem, q1, q3, hsum]
    · cases ho
      have q4 : a'.tmps[28]?.getD undef = .bool true := by have h2 : a'.tmps.getD 28 undef = .bool true := hp 4 (of_decide_eq_true (by kernel_rfl)) (.inr (by decide)); simpa using h2
      refine ⟨wanted_none rfl, op_callR (f := 107) (args := #[.bool true, .int .i64 10]) (by simp [execOp, resolve, Deferred.ofValue, invoke, Act.eval, q4]) (CM.out x) ?_⟩
      rintro e x1 ⟨rfl, hx1⟩
      have hx2 := hx1.symm
      subst hx2
      exact ⟨_, rfl, _, (), rfl, trivial, hI, fun _ _ => trivial⟩
  case last =>
  intro L a' y x hall hkp hI hp
  have ha := hkp.pick [true, true, true, true, true, true, true, true, true, true, true, true, true, true, true, true, true, true, true, true, true, true, true, true, false, false, false, false, false, false, true, true, true, true, true, true, true, true, true, true, true, true, true, true, true, true, true, true, true, true, true, true, true, true, true, true, true, true, true, true, true, true, true, true, true, true, true, true, true, true, true, true, true, true, true, true, true, true, true, true, true, true, true, true, true, true, true, true, true, true, true, true, true, true, true, true, true, true, true, true, true, true, true, true, true, true, true, true, true, true, true, true, true, true, true, true, true, true, true, true, true, true, true, true, true, true, true, true, true, true, true, true, true, true, true, true, true, true, true, true, true, true, true, true, true, true, true] (by kernel_rfl)
  simp only [pickS] at ha
  generalize a'.tmps.getD 24 undef = y24 at ha
  generalize a'.tmps.getD 25 undef = y25 at ha
  generalize a'.tmps.getD 26 undef = y26 at ha
  generalize a'.tmps.getD 27 undef = y27 at ha
  generalize a'.tmps.getD 28 undef = y28 at ha
  generalize a'.tmps.getD 29 undef = y29 at ha
  have Z4 : Hid (Below w.heap.size w x ∧ IntsAt x a f0.tags ∧ B < F ∧ Boxed x F fc 175) := ⟨Z3.out.1.trans (hI.mono Z3.out.1.size), Z3.out.2.1.below hI, Z3.out.2.2.1, Z3.out.2.2.2.below Z3.out.2.2.2.under hI⟩
  clear hp hkp hI hall  RY CM hsum A2 Z3
  rw [ha]
  clear ha
  obtain ⟨w3, hw_⟩ : ∃ z, z = x := ⟨_, rfl⟩
  rw [← hw_] at Z4 ⊢
  clear hw_ x
  have Z3 : Hid _ := Z4
  clear Z4
  have RY : Hid (∀ z, Below w3.heap.size w3 z → Boxed z B (g.cells xg) 50 ∧ GtV z xg g ∧ Boxed z F fc 175 ∧ IntsAt z a f0.tags) := fun z q => by
    have q2 := Z3.out.1.trans (q.mono Z3.out.1.size)
    exact ⟨(XG.out z q2).1, (XG.out z q2).2.at, Z3.out.2.2.2.below Z3.out.2.2.2.under q, Z3.out.2.1.below q⟩
  go_upto_region 4 with fail
  refine region_lists (G := Unit) (by kernel_rfl) (by kernel_rfl) (by kernel_rfl) (fun i => 99) (fun (_ : Nat → Bool) (_ : Unit) (z : World) => Below w3.heap.size w3 z) (fun i (_ : Unit) z (_ : Unit) z' => True) (fun i y x u => ([fun _ _ u => u = .pointer (some ⟨B, 0, none⟩), fun _ _ u => u = .pointer (some ⟨B, 0, none⟩), fun _ _ u => u = .pointer (some ⟨B, 3, none⟩), fun _ _ u => u = .slice xg.a1 g.routes.length xg.c1, fun _ _ u => u = .pointer (some ⟨F, 4, none⟩), fun _ _ u => u = .int .i64 f0.dst, fun _ _ u => u = .int .i64 hop, fun _ _ u => u = .int .i64 hop] : List (Unit → World → Value → Prop)).getD i (fun _ _ _ => True) y x u) ?hR () ?h0 ?step ?last
  case hR =>
    intro i j y y' x x' u hi hj hne hu h1 h2 hp hr
    have hi' : i < 8 := hi
    have hj' : j < 8 := hj
    have hcases : j = 0 ∨ j = 1 ∨ j = 2 ∨ j = 3 ∨ j = 4 ∨ j = 5 ∨ j = 6 ∨ j = 7 := by omega
    rcases hcases with rfl | rfl | rfl | rfl | rfl | rfl | rfl | rfl
    · exact hp
    · exact hp
    · exact hp
    · exact hp
    · exact hp
    · exact hp
    · exact hp
    · exact hp
  case h0 => exact (Below.refl _ _).drew
  case step =>
    intro i o hi ho L a' y x hLi hwt hre hkp hI hp
    have s0 : a'.tmps[0]?.getD undef = .pointer (some ⟨B, 0, none⟩) := by have h2 : a'.tmps.getD 0 undef = .pointer (some ⟨B, 0, none⟩) := hkp.slot 0 (by kernel_rfl); simpa using h2
    have s5 : a'.tmps[5]?.getD undef = .pointer (some ⟨F, 0, none⟩) := by have h2 : a'.tmps.getD 5 undef = .pointer (some ⟨F, 0, none⟩) := hkp.slot 5 (by kernel_rfl); simpa using h2
    have hi' : i < 8 := hi
    have hcases : i = 0 ∨ i = 1 ∨ i = 2 ∨ i = 3 ∨ i = 4 ∨ i = 5 ∨ i = 6 ∨ i = 7 := by omega
    rcases hcases with rfl | rfl | rfl | rfl | rfl | rfl | rfl | rfl
    · cases ho
      refine ⟨wanted_none rfl, Oper.wp_mono (K := fun a'' w'' => a'' = a'.put (some 30) (.pointer (some ⟨B, 0, none⟩)) ∧ w'' = x) ?_ ?_⟩
      · rintro _ _ ⟨rfl, rfl⟩
        exact ⟨_, y, rfl, trivial, hI, fun u hu => hu (fun h => by cases h)⟩
      · unfold Oper.wp
        simp [go_sem, s0]
    · cases ho
      have q0 : a'.tmps[30]?.getD undef = .pointer (some ⟨B, 0, none⟩) := by have h2 : a'.tmps.getD 30 undef = .pointer (some ⟨B, 0, none⟩) := hp 0 (of_decide_eq_true (by kernel_rfl)) (.inr (by decide)); simpa using h2
      refine ⟨wanted_none rfl, Oper.wp_mono (K := fun a'' w'' => a'' = a'.put (some 31) (.pointer (some ⟨B, 0, none⟩)) ∧ w'' = x) ?_ ?_⟩
      · rintro _ _ ⟨rfl, rfl⟩
        exact ⟨_, y, rfl, trivial, hI, fun u hu => hu (fun h => by cases h)⟩
      · unfold Oper.wp
        simp [go_sem, q0]
    · cases ho
      have q1 : a'.tmps[31]?.getD undef = .pointer (some ⟨B, 0, none⟩) := by have h2 : a'.tmps.getD 31 undef = .pointer (some ⟨B, 0, none⟩) := hp 1 (of_decide_eq_true (by kernel_rfl)) (.inr (by decide)); simpa using h2
      refine ⟨wanted_none rfl, Oper.wp_mono (K := fun a'' w'' => a'' = a'.put (some 32) (.pointer (some ⟨B, 3, none⟩)) ∧ w'' = x) ?_ ?_⟩
      · rintro _ _ ⟨rfl, rfl⟩
        exact ⟨_, y, rfl, trivial, hI, fun u hu => hu (fun h => by cases h)⟩
      · unfold Oper.wp
        simp [go_sem, q1]
    · cases ho
      obtain ⟨fbx, fgv, ffr, fti⟩ := RY.out x hI
      have c3 : x.cell? ⟨B, 3, none⟩ = some (.slice xg.a1 g.routes.length xg.c1) := fbx.cell 3 rfl
      have q2 : a'.tmps[32]?.getD undef = .pointer (some ⟨B, 3, none⟩) := by have h2 : a'.tmps.getD 32 undef = .pointer (some ⟨B, 3, none⟩) := hp 2 (of_decide_eq_true (by kernel_rfl)) (.inr (by decide)); simpa using h2
      refine ⟨wanted_none rfl, Oper.wp_mono (K := fun a'' w'' => a'' = a'.put (some 33) (.slice xg.a1 g.routes.length xg.c1) ∧ w'' = x) ?_ ?_⟩
      · rintro _ _ ⟨rfl, rfl⟩
        exact ⟨_, y, rfl, trivial, hI, fun u hu => hu (fun h => by cases h)⟩
      · unfold Oper.wp
        simp [go_sem, q2, c3]
    · cases ho
      refine ⟨wanted_none rfl, Oper.wp_mono (K := fun a'' w'' => a'' = a'.put (some 34) (.pointer (some ⟨F, 4, none⟩)) ∧ w'' = x) ?_ ?_⟩
      · rintro _ _ ⟨rfl, rfl⟩
        exact ⟨_, y, rfl, trivial, hI, fun u hu => hu (fun h => by cases h)⟩
      · unfold Oper.wp
        simp [go_sem, s5]
    · cases ho
      obtain ⟨fbx, fgv, ffr, fti⟩ := RY.out x hI
      have c4 := ffr.cell 4 Fc.out.2.2.1
      have q4 : a'.tmps[34]?.getD undef = .pointer (some ⟨F, 4, none⟩) := by have h2 : a'.tmps.getD 34 undef = .pointer (some ⟨F, 4, none⟩) := hp 4 (of_decide_eq_true (by kernel_rfl)) (.inr (by decide)); simpa using h2
      refine ⟨wanted_none rfl, Oper.wp_mono (K := fun a'' w'' => a'' = a'.put (some 35) (.int .i64 f0.dst) ∧ w'' = x) ?_ ?_⟩
      · rintro _ _ ⟨rfl, rfl⟩
        exact ⟨_, y, rfl, trivial, hI, fun u hu => hu (fun h => by cases h)⟩
      · unfold Oper.wp
        simp [go_sem, q4, c4]
    · cases ho
      obtain ⟨fbx, fgv, ffr, fti⟩ := RY.out x hI
      have q3 : a'.tmps[33]?.getD undef = .slice xg.a1 g.routes.length xg.c1 := by have h2 : a'.tmps.getD 33 undef = .slice xg.a1 g.routes.length xg.c1 := hp 3 (of_decide_eq_true (by kernel_rfl)) (.inr (by decide)); simpa using h2
      have q5 : a'.tmps[35]?.getD undef = .int .i64 f0.dst := by have h2 : a'.tmps.getD 35 undef = .int .i64 f0.dst := hp 5 (of_decide_eq_true (by kernel_rfl)) (.inr (by decide)); simpa using h2
      refine ⟨wanted_none rfl, op_callR (f := 131) (args := #[.slice xg.a1 g.routes.length xg.c1, .int .i64 f0.dst]) (by simp [execOp, resolve, Deferred.ofValue, invoke, Act.eval, q3, q5]) (A3'.out x fgv) ?_⟩
      rintro e x1 ⟨rfl, q⟩
      exact ⟨_, rfl, _, y, rfl, trivial, hI.trans (q.mono hI.size), fun u hu => hu (fun h => by cases h)⟩
    · cases ho
      have e1 : a'.tmps.getD 36 undef = .int .i64 hop := hp 6 (of_decide_eq_true (by kernel_rfl)) (.inr (by decide))
      exact ⟨wanted_none rfl, op_assignZ 36 rfl ⟨_, y, rfl, trivial, hI, fun u hu => (hu (fun h => by cases h)).trans e1⟩⟩
  case last =>
  intro L a' y x hall hkp hI hp
  have e7 : a'.tmps.getD 7 undef = .int .i64 hop := hp 7 (by decide) (by decide)
  have ha := hkp.pick [true, true, true, true, true, true, true, false, true, true, true, true, true, true, true, true, true, true, true, true, true, true, true, true, true, true, true, true, true, true, false, false, false, false, false, false, false, true, true, true, true, true, true, true, true, true, true, true, true, true, true, true, true, true, true, true, true, true, true, true, true, true, true, true, true, true, true, true, true, true, true, true, true, true, true, true, true, true, true, true, true, true, true, true, true, true, true, true, true, true, true, true, true, true, true, true, true, true, true, true, true, true, true, true, true, true, true, true, true, true, true, true, true, true, true, true, true, true, true, true, true, true, true, true, true, true, true, true, true, true, true, true, true, true, true, true, true, true, true, true, true, true, true, true, true, true, true] (by kernel_rfl)
  simp only [pickS] at ha
  rw [e7] at ha
  generalize a'.tmps.getD 30 undef = y30 at ha
  generalize a'.tmps.getD 31 undef = y31 at ha
  generalize a'.tmps.getD 32 undef = y32 at ha
  generalize a'.tmps.getD 33 undef = y33 at ha
  generalize a'.tmps.getD 34 undef = y34 at ha
  generalize a'.tmps.getD 35 undef = y35 at ha
  generalize a'.tmps.getD 36 undef = y36 at ha
  have Z4 : Hid (Below w.heap.size w x ∧ IntsAt x a f0.tags ∧ B < F ∧ Boxed x F fc 175) := ⟨Z3.out.1.trans (hI.mono Z3.out.1.size), Z3.out.2.1.below hI, Z3.out.2.2.1, Z3.out.2.2.2.below Z3.out.2.2.2.under hI⟩
  clear hp hkp hI hall e7 RY A3' Z3
  rw [ha]
  clear ha
  obtain ⟨w4, hw_⟩ : ∃ z, z = x := ⟨_, rfl⟩
  rw [← hw_] at Z4 ⊢
  clear hw_ x
  have Z3 : Hid _ := Z4
  clear Z4
  by_cases hh : hop = -1
  · have hhb : (hop != -1) = false := by simp [hh]
    have CP : Hid (∀ w, Calls Tryz.prog 107 #[.bool false, .int .i64 (11)] w fun e w' => e = .panicked [{ v := gaveUp (11), recovered := false }] ∧ w' = w) := fun w => (implMust false (11) w).mono fun e w' h => ⟨by rw [h.1, if_neg (by decide)], h.2⟩
    go_wp2_with fail
    refine (CP.out _).mono ?_
    rintro e wq ⟨rfl, hwq⟩
    have hwq2 := hwq.symm
    subst hwq2
    have R0 := HP.out (11) g (by rw [Inn.out, if_neg (fun h => h rfl), if_neg (fun h => h hsum1), if_pos (by omega)]) (by first | omega | decide) _ (G0.out _ Z3.out.1)
    go_wp2
    first | exact ⟨rfl, R0⟩ | (trace_state; done)
  have hhb : (hop != -1) = true := by simp [hh]
  have hh0 : ¬ hop < 0 := by omega
  obtain ⟨hli, hlm⟩ := Hli.out hh
  have Hli2 : Hid (lf < g.leaves.length) := hli
  clear Hli
  have CM : Hid (∀ w, Calls Tryz.prog 107 #[.bool true, .int .i64 (11)] w fun e w' => e = .returned (.tuple #[]) ∧ w' = w) := fun w => (implMust true (11) w).mono fun e w' h => ⟨by rw [h.1, if_pos rfl], h.2⟩
  go_wp2_with fail
  refine (CM.out _).mono ?_
  rintro e wq ⟨rfl, hwq⟩
  have hwq2 := hwq.symm
  subst hwq2
  clear CM
  have c0 : w4.cell? ⟨B, 0, none⟩ = some (.int .i64 g.ln.kind) := (XG.out w4 Z3.out.1).1.cell 0 rfl
  have c1 : w4.cell? ⟨B, 1, none⟩ = some (.int .i64 g.ln.extra) := (XG.out w4 Z3.out.1).1.cell 1 rfl
  have c2 : w4.cell? ⟨B, 2, none⟩ = some (.int .i64 g.ln.least) := (XG.out w4 Z3.out.1).1.cell 2 rfl
  go_wp2_with fail
  refine (A4'.out _).mono ?_
  rintro e w5 ⟨rfl, q⟩
  have Z4 : Hid (Below w.heap.size w w5 ∧ IntsAt w5 a f0.tags ∧ B < F ∧ Boxed w5 F fc 175) := ⟨Z3.out.1.trans (q.mono Z3.out.1.size), Z3.out.2.1.below q, Z3.out.2.2.1, Z3.out.2.2.2.below Z3.out.2.2.2.under q⟩
  clear q c0 c1 c2 Z3 A4'
  have Z3 : Hid _ := Z4
  clear Z4
  go_wp2_with fail
  refine (implFromOne 2000 tk w5.heap.size w5 rfl).mono ?_
  rintro e w6 ⟨rfl, hw6⟩
  have q : Below w5.heap.size w5 w6 := by rw [hw6]; exact (Below.refl _ _).alloc (Nat.le_refl _) _
  have Z4 : Hid (Below w.heap.size w w6 ∧ IntsAt w6 a f0.tags ∧ B < F ∧ Boxed w6 F fc 175) := ⟨Z3.out.1.trans (q.mono Z3.out.1.size), Z3.out.2.1.below q, Z3.out.2.2.1, Z3.out.2.2.2.below Z3.out.2.2.2.under q⟩
  clear q Z3 hw6
  have Z3 : Hid _ := Z4
  clear Z4
  cases htb : inB 1 2000 tk
  · have CP : Hid (∀ w, Calls Tryz.prog 107 #[.bool false, .int .i64 (12)] w fun e w' => e = .panicked [{ v := gaveUp (12), recovered := false }] ∧ w' = w) := fun w => (implMust false (12) w).mono fun e w' h => ⟨by rw [h.1, if_neg (by decide)], h.2⟩
    go_wp2_with fail
    refine (CP.out _).mono ?_
    rintro e wq ⟨rfl, hwq⟩
    have hwq2 := hwq.symm
    subst hwq2
    have R0 := HP.out (12) g (by rw [Inn.out, if_neg (fun h => h rfl), if_neg (fun h => h hsum1), if_neg (show ¬ hop < 0 by omega), if_pos htb]) (by first | omega | decide) _ (G0.out _ Z3.out.1)
    go_wp2
    first | exact ⟨rfl, R0⟩ | (trace_state; done)
  have htb1 : Hid (¬ inB 1 2000 tk = false) := by show ¬ inB 1 2000 tk = false; rw [htb]; decide
  have A8 : Hid _ := A8'.out hli htb
  have A9 : Hid _ := A9'.out hli htb
  have Put : Hid _ := Put'.out hli htb
  have A7' : Hid _ := A7.out hli
  clear A8' A9' Put' A7
  have CM : Hid (∀ w, Calls Tryz.prog 107 #[.bool true, .int .i64 (12)] w fun e w' => e = .returned (.tuple #[]) ∧ w' = w) := fun w => (implMust true (12) w).mono fun e w' h => ⟨by rw [h.1, if_pos rfl], h.2⟩
  go_wp2_with fail
  refine (CM.out _).mono ?_
  rintro e wq ⟨rfl, hwq⟩
  have hwq2 := hwq.symm
  subst hwq2
  clear CM
  have RY : Hid (∀ z, Below w6.heap.size w6 z → Boxed z B (g.cells xg) 50 ∧ GtV z xg g ∧ Boxed z F fc 175 ∧ IntsAt z a f0.tags) := fun z q => by
    have q2 := Z3.out.1.trans (q.mono Z3.out.1.size)
    exact ⟨(XG.out z q2).1, (XG.out z q2).2.at, Z3.out.2.2.2.below Z3.out.2.2.2.under q, Z3.out.2.1.below q⟩
  have kw1 : IntKind.i64.wrap (10 * hop) = 10 * hop := by rw [IntKind.wrap_i64]; omega
  have kw2 : IntKind.i64.wrap (10 * hop + cl) = 10 * hop + cl := by rw [IntKind.wrap_i64]; omega
  obtain ⟨nl, hnl_⟩ : ∃ z, g.leaves.length = z := ⟨_, rfl⟩
  rw [hnl_] at hlm
  have Hnl : Hid (g.leaves.length = nl) := hnl_
  have hn0 : ¬ nl = 0 := by omega
  clear hnl_
  go_upto_region 8 with fail
  refine region_lists (G := Unit) (by kernel_rfl) (by kernel_rfl) (by kernel_rfl) (fun i => 99) (fun (_ : Nat → Bool) (_ : Unit) (z : World) => Below w6.heap.size w6 z) (fun i (_ : Unit) z (_ : Unit) z' => True) (fun i y x u => ([fun _ _ u => u = .int .i64 hop, fun _ _ u => u = .int .i64 (10 * hop), fun _ _ u => u = .pointer (some ⟨B, 0, none⟩), fun _ _ u => u = .pointer (some ⟨B, 0, none⟩), fun _ _ u => u = .pointer (some ⟨B, 4, none⟩), fun _ _ u => u = .slice xg.a2 g.rules.length xg.c2, fun _ _ u => u = .agg fc, fun _ _ u => u = .int .i64 cl, fun _ _ u => u = .int .i64 (10 * hop + cl), fun _ _ u => u = .pointer (some ⟨B, 0, none⟩), fun _ _ u => u = .pointer (some ⟨B, 0, none⟩), fun _ _ u => u = .pointer (some ⟨B, 6, none⟩), fun _ _ u => u = .slice xg.a4 nl xg.c4, fun _ _ u => u = .int .i64 (nl : Int), fun _ _ u => u = .int .i64 (lf : Int), fun _ _ u => u = .int .i64 (lf : Int)] : List (Unit → World → Value → Prop)).getD i (fun _ _ _ => True) y x u) ?hR () ?h0 ?step ?last
  case hR =>
    intro i j y y' x x' u hi hj hne hu h1 h2 hp hr
    have hi' : i < 16 := hi
    have hj' : j < 16 := hj
    have hcases : j = 0 ∨ j = 1 ∨ j = 2 ∨ j = 3 ∨ j = 4 ∨ j = 5 ∨ j = 6 ∨ j = 7 ∨ j = 8 ∨ j = 9 ∨ j = 10 ∨ j = 11 ∨ j = 12 ∨ j = 13 ∨ j = 14 ∨ j = 15 := by omega
    rcases hcases with rfl | rfl | rfl | rfl | rfl | rfl | rfl | rfl | rfl | rfl | rfl | rfl | rfl | rfl | rfl | rfl
    · exact hp
    · exact hp
    · exact hp
    · exact hp
    · exact hp
    · exact hp
    · exact hp
    · exact hp
    · exact hp
    · exact hp
    · exact hp
    · exact hp
    · exact hp
    · exact hp
    · exact hp
    · exact hp
  case h0 => exact (Below.refl _ _).drew
  case step =>
    intro i o hi ho L a' y x hLi hwt hre hkp hI hp
    have s0 : a'.tmps[0]?.getD undef = .pointer (some ⟨B, 0, none⟩) := by have h2 : a'.tmps.getD 0 undef = .pointer (some ⟨B, 0, none⟩) := hkp.slot 0 (by kernel_rfl); simpa using h2
    have s5 : a'.tmps[5]?.getD undef = .pointer (some ⟨F, 0, none⟩) := by have h2 : a'.tmps.getD 5 undef = .pointer (some ⟨F, 0, none⟩) := hkp.slot 5 (by kernel_rfl); simpa using h2
    have s7 : a'.tmps[7]?.getD undef = .int .i64 hop := by have h2 : a'.tmps.getD 7 undef = .int .i64 hop := hkp.slot 7 (by kernel_rfl); simpa using h2
    have hi' : i < 16 := hi
    have hcases : i = 0 ∨ i = 1 ∨ i = 2 ∨ i = 3 ∨ i = 4 ∨ i = 5 ∨ i = 6 ∨ i = 7 ∨ i = 8 ∨ i = 9 ∨ i = 10 ∨ i = 11 ∨ i = 12 ∨ i = 13 ∨ i = 14 ∨ i = 15 := by omega
    rcases hcases with rfl | rfl | rfl | rfl | rfl | rfl | rfl | rfl | rfl | rfl | rfl | rfl | rfl | rfl | rfl | rfl
    · cases ho
      refine ⟨wanted_none rfl, Oper.wp_mono (K := fun a'' w'' => a'' = a'.put (some 51) (.int .i64 hop) ∧ w'' = x) ?_ ?_⟩
      · rintro _ _ ⟨rfl, rfl⟩
        exact ⟨_, y, rfl, trivial, hI, fun u hu => hu (fun h => by cases h)⟩
      · unfold Oper.wp
        simp [go_sem, s7]
    · cases ho
      have q0 : a'.tmps[51]?.getD undef = .int .i64 hop := by have h2 : a'.tmps.getD 51 undef = .int .i64 hop := hp 0 (of_decide_eq_true (by kernel_rfl)) (.inr (by decide)); simpa using h2
      refine ⟨wanted_none rfl, Oper.wp_mono (K := fun a'' w'' => a'' = a'.put (some 52) (.int .i64 (10 * hop)) ∧ w'' = x) ?_ ?_⟩
      · rintro _ _ ⟨rfl, rfl⟩
        exact ⟨_, y, rfl, trivial, hI, fun u hu => hu (fun h => by cases h)⟩
      · unfold Oper.wp
        simp [go_sem, q0, kw1]
    · cases ho
      refine ⟨wanted_none rfl, Oper.wp_mono (K := fun a'' w'' => a'' = a'.put (some 53) (.pointer (some ⟨B, 0, none⟩)) ∧ w'' = x) ?_ ?_⟩
      · rintro _ _ ⟨rfl, rfl⟩
        exact ⟨_, y, rfl, trivial, hI, fun u hu => hu (fun h => by cases h)⟩
      · unfold Oper.wp
        simp [go_sem, s0]
    · cases ho
      have q2 : a'.tmps[53]?.getD undef = .pointer (some ⟨B, 0, none⟩) := by have h2 : a'.tmps.getD 53 undef = .pointer (some ⟨B, 0, none⟩) := hp 2 (of_decide_eq_true (by kernel_rfl)) (.inr (by decide)); simpa using h2
      refine ⟨wanted_none rfl, Oper.wp_mono (K := fun a'' w'' => a'' = a'.put (some 54) (.pointer (some ⟨B, 0, none⟩)) ∧ w'' = x) ?_ ?_⟩
      · rintro _ _ ⟨rfl, rfl⟩
        exact ⟨_, y, rfl, trivial, hI, fun u hu => hu (fun h => by cases h)⟩
      · unfold Oper.wp
        simp [go_sem, q2]
    · cases ho
      have q3 : a'.tmps[54]?.getD undef = .pointer (some ⟨B, 0, none⟩) := by have h2 : a'.tmps.getD 54 undef = .pointer (some ⟨B, 0, none⟩) := hp 3 (of_decide_eq_true (by kernel_rfl)) (.inr (by decide)); simpa using h2
      refine ⟨wanted_none rfl, Oper.wp_mono (K := fun a'' w'' => a'' = a'.put (some 55) (.pointer (some ⟨B, 4, none⟩)) ∧ w'' = x) ?_ ?_⟩
      · rintro _ _ ⟨rfl, rfl⟩
        exact ⟨_, y, rfl, trivial, hI, fun u hu => hu (fun h => by cases h)⟩
      · unfold Oper.wp
        simp [go_sem, q3]
    · cases ho
      obtain ⟨fbx, fgv, ffr, fti⟩ := RY.out x hI
      have c4 : x.cell? ⟨B, 4, none⟩ = some (.slice xg.a2 g.rules.length xg.c2) := fbx.cell 4 rfl
      have q4 : a'.tmps[55]?.getD undef = .pointer (some ⟨B, 4, none⟩) := by have h2 : a'.tmps.getD 55 undef = .pointer (some ⟨B, 4, none⟩) := hp 4 (of_decide_eq_true (by kernel_rfl)) (.inr (by decide)); simpa using h2
      refine ⟨wanted_none rfl, Oper.wp_mono (K := fun a'' w'' => a'' = a'.put (some 56) (.slice xg.a2 g.rules.length xg.c2) ∧ w'' = x) ?_ ?_⟩
      · rintro _ _ ⟨rfl, rfl⟩
        exact ⟨_, y, rfl, trivial, hI, fun u hu => hu (fun h => by cases h)⟩
      · unfold Oper.wp
        simp [go_sem, q4, c4]
    · cases ho
      obtain ⟨fbx, fgv, ffr, fti⟩ := RY.out x hI
      exact ⟨wanted_none rfl, wp_load_row 175 (.tmp 5) rfl F (by simpa [Act.eval] using s5) _ _ _ _ ffr Tryz.underlying175 rfl (by rw [Fc.out.1]; kernel_rfl) ⟨_, y, rfl, trivial, hI, fun u hu => hu (fun h => by cases h)⟩⟩
    · cases ho
      obtain ⟨fbx, fgv, ffr, fti⟩ := RY.out x hI
      have q5 : a'.tmps[56]?.getD undef = .slice xg.a2 g.rules.length xg.c2 := by have h2 : a'.tmps.getD 56 undef = .slice xg.a2 g.rules.length xg.c2 := hp 5 (of_decide_eq_true (by kernel_rfl)) (.inr (by decide)); simpa using h2
      have q6 : a'.tmps[57]?.getD undef = .agg fc := by have h2 : a'.tmps.getD 57 undef = .agg fc := hp 6 (of_decide_eq_true (by kernel_rfl)) (.inr (by decide)); simpa using h2
      refine ⟨wanted_none rfl, op_callR (f := 134) (args := #[.slice xg.a2 g.rules.length xg.c2, .agg fc]) (by simp [execOp, resolve, Deferred.ofValue, invoke, Act.eval, q5, q6]) (A6.out x fgv fti) ?_⟩
      rintro e x1 ⟨rfl, q⟩
      exact ⟨_, rfl, _, y, rfl, trivial, hI.trans (q.mono hI.size), fun u hu => hu (fun h => by cases h)⟩
    · cases ho
      have q1 : a'.tmps[52]?.getD undef = .int .i64 (10 * hop) := by have h2 : a'.tmps.getD 52 undef = .int .i64 (10 * hop) := hp 1 (of_decide_eq_true (by kernel_rfl)) (.inr (by decide)); simpa using h2
      have q7 : a'.tmps[58]?.getD undef = .int .i64 cl := by have h2 : a'.tmps.getD 58 undef = .int .i64 cl := hp 7 (of_decide_eq_true (by kernel_rfl)) (.inr (by decide)); simpa using h2
      refine ⟨wanted_none rfl, Oper.wp_mono (K := fun a'' w'' => a'' = a'.put (some 59) (.int .i64 (10 * hop + cl)) ∧ w'' = x) ?_ ?_⟩
      · rintro _ _ ⟨rfl, rfl⟩
        exact ⟨_, y, rfl, trivial, hI, fun u hu => hu (fun h => by cases h)⟩
      · unfold Oper.wp
        simp [go_sem, q1, q7, kw2]
    · cases ho
      refine ⟨wanted_none rfl, Oper.wp_mono (K := fun a'' w'' => a'' = a'.put (some 60) (.pointer (some ⟨B, 0, none⟩)) ∧ w'' = x) ?_ ?_⟩
      · rintro _ _ ⟨rfl, rfl⟩
        exact ⟨_, y, rfl, trivial, hI, fun u hu => hu (fun h => by cases h)⟩
      · unfold Oper.wp
        simp [go_sem, s0]
    · cases ho
      have q9 : a'.tmps[60]?.getD undef = .pointer (some ⟨B, 0, none⟩) := by have h2 : a'.tmps.getD 60 undef = .pointer (some ⟨B, 0, none⟩) := hp 9 (of_decide_eq_true (by kernel_rfl)) (.inr (by decide)); simpa using h2
      refine ⟨wanted_none rfl, Oper.wp_mono (K := fun a'' w'' => a'' = a'.put (some 61) (.pointer (some ⟨B, 0, none⟩)) ∧ w'' = x) ?_ ?_⟩
      · rintro _ _ ⟨rfl, rfl⟩
        exact ⟨_, y, rfl, trivial, hI, fun u hu => hu (fun h => by cases h)⟩
      · unfold Oper.wp
        simp [go_sem, q9]
    · cases ho
      have q10 : a'.tmps[61]?.getD undef = .pointer (some ⟨B, 0, none⟩) := by have h2 : a'.tmps.getD 61 undef = .pointer (some ⟨B, 0, none⟩) := hp 10 (of_decide_eq_true (by kernel_rfl)) (.inr (by decide)); simpa using h2
      refine ⟨wanted_none rfl, Oper.wp_mono (K := fun a'' w'' => a'' = a'.put (some 62) (.pointer (some ⟨B, 6, none⟩)) ∧ w'' = x) ?_ ?_⟩
      · rintro _ _ ⟨rfl, rfl⟩
        exact ⟨_, y, rfl, trivial, hI, fun u hu => hu (fun h => by cases h)⟩
      · unfold Oper.wp
        simp [go_sem, q10]
    · cases ho
      obtain ⟨fbx, fgv, ffr, fti⟩ := RY.out x hI
      have c6 : x.cell? ⟨B, 6, none⟩ = some (.slice xg.a4 nl xg.c4) := by rw [← Hnl.out]; exact fbx.cell 6 rfl
      have q11 : a'.tmps[62]?.getD undef = .pointer (some ⟨B, 6, none⟩) := by have h2 : a'.tmps.getD 62 undef = .pointer (some ⟨B, 6, none⟩) := hp 11 (of_decide_eq_true (by kernel_rfl)) (.inr (by decide)); simpa using h2
      refine ⟨wanted_none rfl, Oper.wp_mono (K := fun a'' w'' => a'' = a'.put (some 63) (.slice xg.a4 nl xg.c4) ∧ w'' = x) ?_ ?_⟩
      · rintro _ _ ⟨rfl, rfl⟩
        exact ⟨_, y, rfl, trivial, hI, fun u hu => hu (fun h => by cases h)⟩
      · unfold Oper.wp
        simp [go_sem, q11, c6]
    · cases ho
      have q12 : a'.tmps[63]?.getD undef = .slice xg.a4 nl xg.c4 := by have h2 : a'.tmps.getD 63 undef = .slice xg.a4 nl xg.c4 := hp 12 (of_decide_eq_true (by kernel_rfl)) (.inr (by decide)); simpa using h2
      refine ⟨wanted_none rfl, Oper.wp_mono (K := fun a'' w'' => a'' = a'.put (some 64) (.int .i64 (nl : Int)) ∧ w'' = x) ?_ ?_⟩
      · rintro _ _ ⟨rfl, rfl⟩
        exact ⟨_, y, rfl, trivial, hI, fun u hu => hu (fun h => by cases h)⟩
      · unfold Oper.wp
        simp [go_sem, q12]
    · cases ho
      have q8 : a'.tmps[59]?.getD undef = .int .i64 (10 * hop + cl) := by have h2 : a'.tmps.getD 59 undef = .int .i64 (10 * hop + cl) := hp 8 (of_decide_eq_true (by kernel_rfl)) (.inr (by decide)); simpa using h2
      have q13 : a'.tmps[64]?.getD undef = .int .i64 (nl : Int) := by have h2 : a'.tmps.getD 64 undef = .int .i64 (nl : Int) := hp 13 (of_decide_eq_true (by kernel_rfl)) (.inr (by decide)); simpa using h2
      refine ⟨wanted_none rfl, Oper.wp_mono (K := fun a'' w'' => a'' = a'.put (some 65) (.int .i64 (lf : Int)) ∧ w'' = x) ?_ ?_⟩
      · rintro _ _ ⟨rfl, rfl⟩
        exact ⟨_, y, rfl, trivial, hI, fun u hu => hu (fun h => by cases h)⟩
      · unfold Oper.wp
        simp [go_sem, q8, q13, hlm, hn0]
    · cases ho
      have e1 : a'.tmps.getD 65 undef = .int .i64 (lf : Int) := hp 14 (of_decide_eq_true (by kernel_rfl)) (.inr (by decide))
      exact ⟨wanted_none rfl, op_assignZ 65 rfl ⟨_, y, rfl, trivial, hI, fun u hu => (hu (fun h => by cases h)).trans e1⟩⟩
  case last =>
  intro L a' y x hall hkp hI hp
  have e9 : a'.tmps.getD 9 undef = .int .i64 (lf : Int) := hp 15 (by decide) (by decide)
  have ha := hkp.pick [true, true, true, true, true, true, true, true, true, false, true, true, true, true, true, true, true, true, true, true, true, true, true, true, true, true, true, true, true, true, true, true, true, true, true, true, true, true, true, true, true, true, true, true, true, true, true, true, true, true, true, false, false, false, false, false, false, false, false, false, false, false, false, false, false, false, true, true, true, true, true, true, true, true, true, true, true, true, true, true, true, true, true, true, true, true, true, true, true, true, true, true, true, true, true, true, true, true, true, true, true, true, true, true, true, true, true, true, true, true, true, true, true, true, true, true, true, true, true, true, true, true, true, true, true, true, true, true, true, true, true, true, true, true, true, true, true, true, true, true, true, true, true, true, true, true, true] (by kernel_rfl)
  simp only [pickS] at ha
  rw [e9] at ha
  generalize a'.tmps.getD 51 undef = y51 at ha
  generalize a'.tmps.getD 52 undef = y52 at ha
  generalize a'.tmps.getD 53 undef = y53 at ha
  generalize a'.tmps.getD 54 undef = y54 at ha
  generalize a'.tmps.getD 55 undef = y55 at ha
  generalize a'.tmps.getD 56 undef = y56 at ha
  generalize a'.tmps.getD 57 undef = y57 at ha
  generalize a'.tmps.getD 58 undef = y58 at ha
  generalize a'.tmps.getD 59 undef = y59 at ha
  generalize a'.tmps.getD 60 undef = y60 at ha
  generalize a'.tmps.getD 61 undef = y61 at ha
  generalize a'.tmps.getD 62 undef = y62 at ha
  generalize a'.tmps.getD 63 undef = y63 at ha
  generalize a'.tmps.getD 64 undef = y64 at ha
  generalize a'.tmps.getD 65 undef = y65 at ha
  have Z4 : Hid (Below w.heap.size w x ∧ IntsAt x a f0.tags ∧ B < F ∧ Boxed x F fc 175) := ⟨Z3.out.1.trans (hI.mono Z3.out.1.size), Z3.out.2.1.below hI, Z3.out.2.2.1, Z3.out.2.2.2.below Z3.out.2.2.2.under hI⟩
  clear hp hkp hI hall e9 RY A6 Z3 kw1 kw2 hn0 hlm Hnl
  rw [ha]
  clear ha
  obtain ⟨w8, hw_⟩ : ∃ z, z = x := ⟨_, rfl⟩
  rw [← hw_] at Z4 ⊢
  clear hw_ x
  have Z3 : Hid _ := Z4
  clear Z4
  obtain ⟨sk, off, ea6, -, -, -, -⟩ := (XG.out w8 Z3.out.1).2.steerSpot (k := lf) (by rw [Hlens.out.2.2.2.2]; exact hli)
  have Ea6 : Hid (xg.a6 = some ⟨sk, off, none⟩) := ea6
  obtain ⟨ns, hns⟩ : ∃ z, g.steers.length = z := ⟨_, rfl⟩
  have Hns : Hid (g.steers.length = ns) := hns
  have hls : (lf : Int) < (ns : Int) := by have := Hlens.out.2.2.2.2; omega
  clear hns ea6
  have RY : Hid (∀ z, Below w8.heap.size w8 z → Boxed z B (g.cells xg) 50 ∧ z.cell? ⟨B, 9, none⟩ = some (.slice (some ⟨sk, off, none⟩) ns xg.c6) ∧ (z.cell? ⟨sk, off + lf * 3, none⟩ = some (.int .i64 (srAt g.steers lf).target) ∧ z.cell? ⟨sk, off + lf * 3 + 1, none⟩ = some (.int .i64 (srAt g.steers lf).old) ∧ z.cell? ⟨sk, off + lf * 3 + 2, none⟩ = some (.int .i64 (srAt g.steers lf).prob))) := fun z q => by
    have q2 := Z3.out.1.trans (q.mono Z3.out.1.size)
    obtain ⟨b, gw⟩ := XG.out z q2
    obtain ⟨sk', off', ea, -, -, cz, -⟩ := gw.steerSpot (k := lf) (by rw [Hlens.out.2.2.2.2]; exact Hli2.out)
    rw [Ea6.out] at ea
    cases ea
    refine ⟨b, ?_, cz⟩
    rw [← Ea6.out, ← Hns.out]
    exact b.cell 9 rfl
  go_upto_region 9 with fail
  refine region_lists (G := Unit) (by kernel_rfl) (by kernel_rfl) (by kernel_rfl) (fun i => 99) (fun (_ : Nat → Bool) (_ : Unit) (z : World) => Below w8.heap.size w8 z) (fun i (_ : Unit) z (_ : Unit) z' => True) (fun i y x u => ([fun _ _ u => u = .pointer (some ⟨B, 0, none⟩), fun _ _ u => u = .pointer (some ⟨B, 0, none⟩), fun _ _ u => u = .pointer (some ⟨B, 9, none⟩), fun _ _ u => u = .slice (some ⟨sk, off, none⟩) ns xg.c6, fun _ _ u => u = .int .i64 (lf : Int), fun _ _ u => u = .pointer (some ⟨sk, off + lf * 3, none⟩), fun _ _ u => u = .agg #[.int .i64 (srAt g.steers lf).target, .int .i64 (srAt g.steers lf).old, .int .i64 (srAt g.steers lf).prob], fun _ _ u => u = .pointer (some ⟨B, 0, none⟩), fun _ _ u => u = .pointer (some ⟨B, 0, none⟩), fun _ _ u => u = .pointer (some ⟨B, 13, none⟩), fun _ _ u => u = .int .i64 g.draw, fun _ _ u => u = .bool hit, fun _ _ u => u = .bool hit] : List (Unit → World → Value → Prop)).getD i (fun _ _ _ => True) y x u) ?hR () ?h0 ?step ?last
  case hR =>
    intro i j y y' x x' u hi hj hne hu h1 h2 hp hr
    have hi' : i < 13 := hi
    have hj' : j < 13 := hj
    have hcases : j = 0 ∨ j = 1 ∨ j = 2 ∨ j = 3 ∨ j = 4 ∨ j = 5 ∨ j = 6 ∨ j = 7 ∨ j = 8 ∨ j = 9 ∨ j = 10 ∨ j = 11 ∨ j = 12 := by omega
    rcases hcases with rfl | rfl | rfl | rfl | rfl | rfl | rfl | rfl | rfl | rfl | rfl | rfl | rfl
    · exact hp
    · exact hp
    · exact hp
    · exact hp
    · exact hp
    · exact hp
    · exact hp
    · exact hp
    · exact hp
    · exact hp
    · exact hp
    · exact hp
    · exact hp
  case h0 => exact (Below.refl _ _).drew
  case step =>
    intro i o hi ho L a' y x hLi hwt hre hkp hI hp
    have s0 : a'.tmps[0]?.getD undef = .pointer (some ⟨B, 0, none⟩) := by have h2 : a'.tmps.getD 0 undef = .pointer (some ⟨B, 0, none⟩) := hkp.slot 0 (by kernel_rfl); simpa using h2
    have s9 : a'.tmps[9]?.getD undef = .int .i64 (lf : Int) := by have h2 : a'.tmps.getD 9 undef = .int .i64 (lf : Int) := hkp.slot 9 (by kernel_rfl); simpa using h2
    have hi' : i < 13 := hi
    have hcases : i = 0 ∨ i = 1 ∨ i = 2 ∨ i = 3 ∨ i = 4 ∨ i = 5 ∨ i = 6 ∨ i = 7 ∨ i = 8 ∨ i = 9 ∨ i = 10 ∨ i = 11 ∨ i = 12 := by omega
    rcases hcases with rfl | rfl | rfl | rfl | rfl | rfl | rfl | rfl | rfl | rfl | rfl | rfl | rfl
    · cases ho
      refine ⟨wanted_none rfl, Oper.wp_mono (K := fun a'' w'' => a'' = a'.put (some 66) (.pointer (some ⟨B, 0, none⟩)) ∧ w'' = x) ?_ ?_⟩
      · rintro _ _ ⟨rfl, rfl⟩
        exact ⟨_, y, rfl, trivial, hI, fun u hu => hu (fun h => by cases h)⟩
      · unfold Oper.wp
        simp [go_sem, s0]
    · cases ho
      have q0 : a'.tmps[66]?.getD undef = .pointer (some ⟨B, 0, none⟩) := by have h2 : a'.tmps.getD 66 undef = .pointer (some ⟨B, 0, none⟩) := hp 0 (of_decide_eq_true (by kernel_rfl)) (.inr (by decide)); simpa using h2
      refine ⟨wanted_none rfl, Oper.wp_mono (K := fun a'' w'' => a'' = a'.put (some 67) (.pointer (some ⟨B, 0, none⟩)) ∧ w'' = x) ?_ ?_⟩
      · rintro _ _ ⟨rfl, rfl⟩
        exact ⟨_, y, rfl, trivial, hI, fun u hu => hu (fun h => by cases h)⟩
      · unfold Oper.wp
        simp [go_sem, q0]
    · cases ho
      have q1 : a'.tmps[67]?.getD undef = .pointer (some ⟨B, 0, none⟩) := by have h2 : a'.tmps.getD 67 undef = .pointer (some ⟨B, 0, none⟩) := hp 1 (of_decide_eq_true (by kernel_rfl)) (.inr (by decide)); simpa using h2
      refine ⟨wanted_none rfl, Oper.wp_mono (K := fun a'' w'' => a'' = a'.put (some 68) (.pointer (some ⟨B, 9, none⟩)) ∧ w'' = x) ?_ ?_⟩
      · rintro _ _ ⟨rfl, rfl⟩
        exact ⟨_, y, rfl, trivial, hI, fun u hu => hu (fun h => by cases h)⟩
      · unfold Oper.wp
        simp [go_sem, q1]
    · cases ho
      obtain ⟨fbx, f9, fs0, fs1, fs2⟩ := RY.out x hI
      have q2 : a'.tmps[68]?.getD undef = .pointer (some ⟨B, 9, none⟩) := by have h2 : a'.tmps.getD 68 undef = .pointer (some ⟨B, 9, none⟩) := hp 2 (of_decide_eq_true (by kernel_rfl)) (.inr (by decide)); simpa using h2
      refine ⟨wanted_none rfl, Oper.wp_mono (K := fun a'' w'' => a'' = a'.put (some 69) (.slice (some ⟨sk, off, none⟩) ns xg.c6) ∧ w'' = x) ?_ ?_⟩
      · rintro _ _ ⟨rfl, rfl⟩
        exact ⟨_, y, rfl, trivial, hI, fun u hu => hu (fun h => by cases h)⟩
      · unfold Oper.wp
        simp [go_sem, q2, f9]
    · cases ho
      refine ⟨wanted_none rfl, Oper.wp_mono (K := fun a'' w'' => a'' = a'.put (some 70) (.int .i64 (lf : Int)) ∧ w'' = x) ?_ ?_⟩
      · rintro _ _ ⟨rfl, rfl⟩
        exact ⟨_, y, rfl, trivial, hI, fun u hu => hu (fun h => by cases h)⟩
      · unfold Oper.wp
        simp [go_sem, s9]
    · cases ho
      have q3 : a'.tmps[69]?.getD undef = .slice (some ⟨sk, off, none⟩) ns xg.c6 := by have h2 : a'.tmps.getD 69 undef = .slice (some ⟨sk, off, none⟩) ns xg.c6 := hp 3 (of_decide_eq_true (by kernel_rfl)) (.inr (by decide)); simpa using h2
      have q4 : a'.tmps[70]?.getD undef = .int .i64 (lf : Int) := by have h2 : a'.tmps.getD 70 undef = .int .i64 (lf : Int) := hp 4 (of_decide_eq_true (by kernel_rfl)) (.inr (by decide)); simpa using h2
      refine ⟨wanted_none rfl, Oper.wp_mono (K := fun a'' w'' => a'' = a'.put (some 71) (.pointer (some ⟨sk, off + lf * 3, none⟩)) ∧ w'' = x) ?_ ?_⟩
      · rintro _ _ ⟨rfl, rfl⟩
        exact ⟨_, y, rfl, trivial, hI, fun u hu => hu (fun h => by cases h)⟩
      · unfold Oper.wp
        simp [go_sem, q3, q4, hls]
    · cases ho
      obtain ⟨fbx, f9, fs0, fs1, fs2⟩ := RY.out x hI
      have q5 : a'.tmps[71]?.getD undef = .pointer (some ⟨sk, off + lf * 3, none⟩) := by have h2 : a'.tmps.getD 71 undef = .pointer (some ⟨sk, off + lf * 3, none⟩) := hp 5 (of_decide_eq_true (by kernel_rfl)) (.inr (by decide)); simpa using h2
      refine ⟨wanted_none rfl, Oper.wp_mono (K := fun a'' w'' => a'' = a'.put (some 72) (.agg #[.int .i64 (srAt g.steers lf).target, .int .i64 (srAt g.steers lf).old, .int .i64 (srAt g.steers lf).prob]) ∧ w'' = x) ?_ ?_⟩
      · rintro _ _ ⟨rfl, rfl⟩
        exact ⟨_, y, rfl, trivial, hI, fun u hu => hu (fun h => by cases h)⟩
      · unfold Oper.wp
        simp [go_sem, q5, fs0, fs1, fs2]
    · cases ho
      refine ⟨wanted_none rfl, Oper.wp_mono (K := fun a'' w'' => a'' = a'.put (some 73) (.pointer (some ⟨B, 0, none⟩)) ∧ w'' = x) ?_ ?_⟩
      · rintro _ _ ⟨rfl, rfl⟩
        exact ⟨_, y, rfl, trivial, hI, fun u hu => hu (fun h => by cases h)⟩
      · unfold Oper.wp
        simp [go_sem, s0]
    · cases ho
      have q7 : a'.tmps[73]?.getD undef = .pointer (some ⟨B, 0, none⟩) := by have h2 : a'.tmps.getD 73 undef = .pointer (some ⟨B, 0, none⟩) := hp 7 (of_decide_eq_true (by kernel_rfl)) (.inr (by decide)); simpa using h2
      refine ⟨wanted_none rfl, Oper.wp_mono (K := fun a'' w'' => a'' = a'.put (some 74) (.pointer (some ⟨B, 0, none⟩)) ∧ w'' = x) ?_ ?_⟩
      · rintro _ _ ⟨rfl, rfl⟩
        exact ⟨_, y, rfl, trivial, hI, fun u hu => hu (fun h => by cases h)⟩
      · unfold Oper.wp
        simp [go_sem, q7]
    · cases ho
      have q8 : a'.tmps[74]?.getD undef = .pointer (some ⟨B, 0, none⟩) := by have h2 : a'.tmps.getD 74 undef = .pointer (some ⟨B, 0, none⟩) := hp 8 (of_decide_eq_true (by kernel_rfl)) (.inr (by decide)); simpa using h2
      refine ⟨wanted_none rfl, Oper.wp_mono (K := fun a'' w'' => a'' = a'.put (some 75) (.pointer (some ⟨B, 13, none⟩)) ∧ w'' = x) ?_ ?_⟩
      · rintro _ _ ⟨rfl, rfl⟩
        exact ⟨_, y, rfl, trivial, hI, fun u hu => hu (fun h => by cases h)⟩
      · unfold Oper.wp
        simp [go_sem, q8]
    · cases ho
      obtain ⟨fbx, f9, fs0, fs1, fs2⟩ := RY.out x hI
      have c13 : x.cell? ⟨B, 13, none⟩ = some (.int .i64 g.draw) := fbx.cell 13 rfl
      have q9 : a'.tmps[75]?.getD undef = .pointer (some ⟨B, 13, none⟩) := by have h2 : a'.tmps.getD 75 undef = .pointer (some ⟨B, 13, none⟩) := hp 9 (of_decide_eq_true (by kernel_rfl)) (.inr (by decide)); simpa using h2
      refine ⟨wanted_none rfl, Oper.wp_mono (K := fun a'' w'' => a'' = a'.put (some 76) (.int .i64 g.draw) ∧ w'' = x) ?_ ?_⟩
      · rintro _ _ ⟨rfl, rfl⟩
        exact ⟨_, y, rfl, trivial, hI, fun u hu => hu (fun h => by cases h)⟩
      · unfold Oper.wp
        simp [go_sem, q9, c13]
    · cases ho
      obtain ⟨fbx, f9, fs0, fs1, fs2⟩ := RY.out x hI
      have q6 : a'.tmps[72]?.getD undef = .agg #[.int .i64 (srAt g.steers lf).target, .int .i64 (srAt g.steers lf).old, .int .i64 (srAt g.steers lf).prob] := by have h2 : a'.tmps.getD 72 undef = .agg #[.int .i64 (srAt g.steers lf).target, .int .i64 (srAt g.steers lf).old, .int .i64 (srAt g.steers lf).prob] := hp 6 (of_decide_eq_true (by kernel_rfl)) (.inr (by decide)); simpa using h2
      have q10 : a'.tmps[76]?.getD undef = .int .i64 g.draw := by have h2 : a'.tmps.getD 76 undef = .int .i64 g.draw := hp 10 (of_decide_eq_true (by kernel_rfl)) (.inr (by decide)); simpa using h2
      refine ⟨wanted_none rfl, op_callR (f := 135) (args := #[.agg #[.int .i64 (srAt g.steers lf).target, .int .i64 (srAt g.steers lf).old, .int .i64 (srAt g.steers lf).prob], .int .i64 g.draw]) (by simp [execOp, resolve, Deferred.ofValue, invoke, Act.eval, q6, q10]) (A7'.out x) ?_⟩
      rintro e x1 ⟨rfl, q⟩
      exact ⟨_, rfl, _, y, rfl, trivial, hI.trans (q.mono hI.size), fun u hu => hu (fun h => by cases h)⟩
    · cases ho
      have e1 : a'.tmps.getD 77 undef = .bool hit := hp 11 (of_decide_eq_true (by kernel_rfl)) (.inr (by decide))
      exact ⟨wanted_none rfl, op_assignZ 77 rfl ⟨_, y, rfl, trivial, hI, fun u hu => (hu (fun h => by cases h)).trans e1⟩⟩
  case last =>
  intro L a' y x hall hkp hI hp
  have e10 : a'.tmps.getD 10 undef = .bool hit := hp 12 (by decide) (by decide)
  have ha := hkp.pick [true, true, true, true, true, true, true, true, true, true, false, true, true, true, true, true, true, true, true, true, true, true, true, true, true, true, true, true, true, true, true, true, true, true, true, true, true, true, true, true, true, true, true, true, true, true, true, true, true, true, true, true, true, true, true, true, true, true, true, true, true, true, true, true, true, true, false, false, false, false, false, false, false, false, false, false, false, false, true, true, true, true, true, true, true, true, true, true, true, true, true, true, true, true, true, true, true, true, true, true, true, true, true, true, true, true, true, true, true, true, true, true, true, true, true, true, true, true, true, true, true, true, true, true, true, true, true, true, true, true, true, true, true, true, true, true, true, true, true, true, true, true, true, true, true, true, true] (by kernel_rfl)
  simp only [pickS] at ha
  rw [e10] at ha
  generalize a'.tmps.getD 66 undef = y66 at ha
  generalize a'.tmps.getD 67 undef = y67 at ha
  generalize a'.tmps.getD 68 undef = y68 at ha
  generalize a'.tmps.getD 69 undef = y69 at ha
  generalize a'.tmps.getD 70 undef = y70 at ha
  generalize a'.tmps.getD 71 undef = y71 at ha
  generalize a'.tmps.getD 72 undef = y72 at ha
  generalize a'.tmps.getD 73 undef = y73 at ha
  generalize a'.tmps.getD 74 undef = y74 at ha
  generalize a'.tmps.getD 75 undef = y75 at ha
  generalize a'.tmps.getD 76 undef = y76 at ha
  generalize a'.tmps.getD 77 undef = y77 at ha
  have Z4 : Hid (Below w.heap.size w x ∧ IntsAt x a f0.tags ∧ B < F ∧ Boxed x F fc 175) := ⟨Z3.out.1.trans (hI.mono Z3.out.1.size), Z3.out.2.1.below hI, Z3.out.2.2.1, Z3.out.2.2.2.below Z3.out.2.2.2.under hI⟩
  clear hp hkp hI hall e10 RY A7' Z3 hls Hns Ea6
  rw [ha]
  clear ha
  obtain ⟨w9, hw_⟩ : ∃ z, z = x := ⟨_, rfl⟩
  rw [← hw_] at Z4 ⊢
  clear hw_ x
  have Z3 : Hid _ := Z4
  clear Z4
  have c13 : w9.cell? ⟨B, 13, none⟩ = some (.int .i64 g.draw) := (XG.out w9 Z3.out.1).1.cell 13 rfl
  have i13 := (XG.out w9 Z3.out.1).1.ice 13
  have D10 : Hid (Boxed (w9.setCell ⟨B, 13, none⟩ (.int .i64 nd)) B (({ g with draw := nd } : Gt).cells xg) 50 ∧ GtW (w9.setCell ⟨B, 13, none⟩ (.int .i64 nd)) xg f { g with draw := nd } ∧ Below lo w (w9.setCell ⟨B, 13, none⟩ (.int .i64 nd)) ∧ (∀ j, B < j → j < w.heap.size → (w9.setCell ⟨B, 13, none⟩ (.int .i64 nd)).heap[j]? = w.heap[j]?) ∧ w.heap.size ≤ (w9.setCell ⟨B, 13, none⟩ (.int .i64 nd)).heap.size) := by
    obtain ⟨b, gw⟩ := XG.out w9 Z3.out.1
    have hs9 : (w9.setCell ⟨B, 13, none⟩ (.int .i64 nd)).heap.size = w9.heap.size := by simp [World.setCell]
    have g2 : GtW (w9.setCell ⟨B, 13, none⟩ (.int .i64 nd)) xg f g := gw.off (Gf.Off.of_in hG.out.2.1 (Nat.le_refl _)) hG.out.2.1 (by have := Hlw.out.2; have := Z3.out.1.size; omega) (Nat.le_of_eq hs9.symm) fun k hk _ => Below.heap_setCell _ _ _ _ hk
    have hz := Z3.out.1.size
    exact ⟨b.put 13 _, ⟨g2.routes, g2.rules, g2.tree, g2.leaves, g2.rows, g2.steers, g2.fair⟩, (Z3.out.1.mono Hlw.out.1).setCell hG.out.2.2.2 _, fun j h3 h4 => (Below.heap_setCell _ _ _ _ (by show j ≠ B; omega)).trans (Z3.out.1.block j h4), by omega⟩
  go_upto_region 11 with fail
  try simp only [Act.put]
  clear c13 i13 Z3 G0
  generalize w9.setCell ⟨B, 13, none⟩ (.int .i64 nd) = wd at D10 ⊢
  have G1 : Hid (∀ z, Below wd.heap.size wd z → GoneW lo B g.drawn w z) := fun z q => by
    have d := D10.out
    rw [Hd.out]
    have hz := q.size
    have hB := Hlw.out
    exact ⟨⟨xg, f, d.1.below d.1.under q, d.2.1.below q, hG.out.2.1.wide (Nat.le_refl _) (by omega), hG.out.2.2.1, fun j h3 _ => Gf.Off.of_in hG.out.2.1 (Nat.le_of_lt h3)⟩, d.2.2.1.trans (q.mono (by omega)), fun j h3 h4 => (q.block j (by omega)).trans (d.2.2.2.1 j h3 h4)⟩
  cases hit
  rotate_left
  · have hlt : g.draw < (srAt g.steers lf).prob := of_decide_eq_true Hhit.out
    have CP : Hid (∀ w, Calls Tryz.prog 107 #[.bool false, .int .i64 (13)] w fun e w' => e = .panicked [{ v := gaveUp (13), recovered := false }] ∧ w' = w) := fun w => (implMust false (13) w).mono fun e w' h => ⟨by rw [h.1, if_neg (by decide)], h.2⟩
    go_wp2_with fail
    refine (CP.out _).mono ?_
    rintro e wq ⟨rfl, hwq⟩
    have hwq2 := hwq.symm
    subst hwq2
    have R0 := HP.out (13) g.drawn (by rw [Inn.out, if_neg (fun h => h rfl), if_neg (fun h => h hsum1), if_neg (show ¬ hop < 0 by omega), if_neg htb1.out, if_pos hlt]) (by first | omega | decide) _ (G1.out _ (Below.refl _ _))
    go_wp2
    first | exact ⟨rfl, R0⟩ | (trace_state; done)
  have hnl0 : Hid (¬ g.draw < (srAt g.steers lf).prob) := of_decide_eq_false Hhit.out
  clear Hhit
  have CM : Hid (∀ w, Calls Tryz.prog 107 #[.bool true, .int .i64 (13)] w fun e w' => e = .returned (.tuple #[]) ∧ w' = w) := fun w => (implMust true (13) w).mono fun e w' h => ⟨by rw [h.1, if_pos rfl], h.2⟩
  go_wp2_with fail
  refine (CM.out _).mono ?_
  rintro e wq ⟨rfl, hwq⟩
  have hwq2 := hwq.symm
  subst hwq2
  clear CM
  have c12 : wd.cell? ⟨B, 12, none⟩ = some (.int .i64 g.next) := D10.out.1.cell 12 rfl
  by_cases hnx2 : g.next < 1000000
  rotate_left
  · have hnd : decide (g.next < 1000000) = false := decide_eq_false hnx2
    have hfull : g.full lf = true := by rw [Put.out.2.2.2, decide_eq_true (show g.next = 1000000 by omega)]; rfl
    have CP : Hid (∀ w, Calls Tryz.prog 107 #[.bool false, .int .i64 (14)] w fun e w' => e = .panicked [{ v := gaveUp (14), recovered := false }] ∧ w' = w) := fun w => (implMust false (14) w).mono fun e w' h => ⟨by rw [h.1, if_neg (by decide)], h.2⟩
    go_wp2_with fail
    refine (CP.out _).mono ?_
    rintro e wq ⟨rfl, hwq⟩
    have hwq2 := hwq.symm
    subst hwq2
    have R0 := HP.out (14) g.drawn (by rw [Inn.out, if_neg (fun h => h rfl), if_neg (fun h => h hsum1), if_neg (show ¬ hop < 0 by omega), if_neg htb1.out, if_neg (show ¬ g.draw < (srAt g.steers lf).prob by have := hnl0.out; omega), if_pos hfull]) (by first | omega | decide) _ (G1.out _ (Below.refl _ _))
    go_wp2
    first | exact ⟨rfl, R0⟩ | (trace_state; done)
  have hnd : decide (g.next < 1000000) = true := decide_eq_true hnx2
  have hnx3 : Hid (decide (g.next = 1000000) = false) := by show decide (g.next = 1000000) = false; simp; omega
  have CM : Hid (∀ w, Calls Tryz.prog 107 #[.bool true, .int .i64 (14)] w fun e w' => e = .returned (.tuple #[]) ∧ w' = w) := fun w => (implMust true (14) w).mono fun e w' h => ⟨by rw [h.1, if_pos rfl], h.2⟩
  go_wp2_with fail
  refine (CM.out _).mono ?_
  rintro e wq ⟨rfl, hwq⟩
  have hwq2 := hwq.symm
  subst hwq2
  clear CM
  clear c12
  obtain ⟨S, hS⟩ : ∃ z, z = wd.heap.size := ⟨_, rfl⟩
  have HS : Hid (S = wd.heap.size) := hS
  clear hS
  have RY : Hid (∀ z, Below wd.heap.size wd z → Boxed z B (({ g with draw := nd } : Gt).cells xg) 50 ∧ GtV z xg g ∧ NdsAt z xg.a3 g.tree) := fun z q => by
    have d := D10.out
    have gw := d.2.1.below q
    have gv : GtV z xg { g with draw := nd } := gw.at
    exact ⟨d.1.below d.1.under q, ⟨gv.routes, gv.rules, gv.tree, gv.leaves, gv.rows, gv.steers, gv.fair⟩, gv.tree.spot'⟩
  go_upto_region 13 with fail
  refine region_lists (G := PuY) (by kernel_rfl) (by kernel_rfl) (by kernel_rfl) (fun i => 99) (fun (L : Nat → Bool) (y : PuY) (z : World) => PuI wd S #[.int .i64 g.rows.most, .slice y.p g.rows.lists.length y.c] 44 (L 16) (L 20) (L 21) y z) (fun i (y : PuY) z (y' : PuY) z' => (i ≠ 16 → y'.p = y.p ∧ y'.c = y.c ∧ y'.b = y.b ∧ y'.t = y.t ∧ ∀ j, y.b ≤ j → j < y.t → z'.heap[j]? = z.heap[j]?) ∧ (i ≠ 20 → y'.m = y.m) ∧ z.heap.size ≤ z'.heap.size) (fun i y x u => ([fun _ _ u => u = .pointer (some ⟨B, 0, none⟩), fun _ _ u => u = .pointer (some ⟨B, 0, none⟩), fun _ _ u => u = .pointer (some ⟨B, 7, none⟩), fun _ _ u => u = .agg #[.int .i64 g.rows.most, .slice xg.a5 g.rows.lists.length xg.c5], fun _ _ u => u = .int .i64 (lf : Int), fun _ _ u => u = .pointer (some ⟨B, 0, none⟩), fun _ _ u => u = .pointer (some ⟨B, 0, none⟩), fun _ _ u => u = .pointer (some ⟨B, 12, none⟩), fun _ _ u => u = .int .i64 g.next, fun _ _ u => u = .string s, fun _ _ u => u = .int .i64 (s.size : Int), fun _ _ u => u = .pointer (some ⟨B, 0, none⟩), fun _ _ u => u = .pointer (some ⟨B, 0, none⟩), fun _ _ u => u = .agg (({ g with draw := nd } : Gt).cells xg), fun _ _ u => u = .int .i64 tm, fun _ _ u => u = .agg #[.int .i64 g.next, .int .i64 (s.size : Int), .int .i64 tm], fun y x u => u = .tuple #[.agg #[.int .i64 g.rows.most, .slice y.p g.rows.lists.length y.c], .bool f1] ∧ RwIn y.b y.t x (rw'.val y.p y.c) rw', fun y _ u => u = .tuple #[.agg #[.int .i64 g.rows.most, .slice y.p g.rows.lists.length y.c], .bool f1], fun y _ u => u = .agg #[.int .i64 g.rows.most, .slice y.p g.rows.lists.length y.c], fun y _ u => u = .bool f1, fun y _ u => u = .pointer (some ⟨y.m, 0, none⟩), fun _ _ _ => True, fun y _ u => u = .bool f1] : List (PuY → World → Value → Prop)).getD i (fun _ _ _ => True) y x u) ?hR ⟨none, 0, 0, S, S⟩ ?h0 ?step ?last
  case hR =>
    intro i j y y' x x' u hi hj hne hu h1 h2 hp hr
    have hi' : i < 23 := hi
    have hj' : j < 23 := hj
    have hcases : j = 0 ∨ j = 1 ∨ j = 2 ∨ j = 3 ∨ j = 4 ∨ j = 5 ∨ j = 6 ∨ j = 7 ∨ j = 8 ∨ j = 9 ∨ j = 10 ∨ j = 11 ∨ j = 12 ∨ j = 13 ∨ j = 14 ∨ j = 15 ∨ j = 16 ∨ j = 17 ∨ j = 18 ∨ j = 19 ∨ j = 20 ∨ j = 21 ∨ j = 22 := by omega
    rcases hcases with rfl | rfl | rfl | rfl | rfl | rfl | rfl | rfl | rfl | rfl | rfl | rfl | rfl | rfl | rfl | rfl | rfl | rfl | rfl | rfl | rfl | rfl | rfl
    · exact hp
    · exact hp
    · exact hp
    · exact hp
    · exact hp
    · exact hp
    · exact hp
    · exact hp
    · exact hp
    · exact hp
    · exact hp
    · exact hp
    · exact hp
    · exact hp
    · exact hp
    · exact hp
    · obtain ⟨e1, e2⟩ := hp
      obtain ⟨r1, r2, r3, r4, r5⟩ := hr.1 hne
      show u = .tuple #[.agg #[.int .i64 g.rows.most, .slice y'.p g.rows.lists.length y'.c], .bool f1] ∧ RwIn y'.b y'.t x' (rw'.val y'.p y'.c) rw'
      rw [r1, r2, r3, r4]
      exact ⟨e1, e2.keep hr.2.2 r5⟩
    · have z : u = .tuple #[.agg #[.int .i64 g.rows.most, .slice y.p g.rows.lists.length y.c], .bool f1] := hp
      obtain ⟨r1, r2, r3, r4, r5⟩ := hr.1 (by rintro rfl; exact absurd h1 (by decide +kernel))
      show u = .tuple #[.agg #[.int .i64 g.rows.most, .slice y'.p g.rows.lists.length y'.c], .bool f1]
      rw [r1, r2]
      exact z
    · have z : u = .agg #[.int .i64 g.rows.most, .slice y.p g.rows.lists.length y.c] := hp
      obtain ⟨r1, r2, r3, r4, r5⟩ := hr.1 (by rintro rfl; exact absurd h1 (by decide +kernel))
      show u = .agg #[.int .i64 g.rows.most, .slice y'.p g.rows.lists.length y'.c]
      rw [r1, r2]
      exact z
    · exact hp
    · have z : u = .pointer (some ⟨y.m, 0, none⟩) := hp
      have r1 := hr.2.1 hne
      show u = .pointer (some ⟨y'.m, 0, none⟩)
      rw [r1]
      exact z
    · exact hp
    · exact hp
  case h0 => exact PuI.start wd HS.out _ _ _ _
  case step =>
    intro i o hi ho L a' y x hLi hwt hre hkp hI hp
    have s0 : a'.tmps[0]?.getD undef = .pointer (some ⟨B, 0, none⟩) := by have h2 : a'.tmps.getD 0 undef = .pointer (some ⟨B, 0, none⟩) := hkp.slot 0 (by kernel_rfl); simpa using h2
    have s1 : a'.tmps[1]?.getD undef = .string s := by have h2 : a'.tmps.getD 1 undef = .string s := hkp.slot 1 (by kernel_rfl); simpa using h2
    have s9 : a'.tmps[9]?.getD undef = .int .i64 (lf : Int) := by have h2 : a'.tmps.getD 9 undef = .int .i64 (lf : Int) := hkp.slot 9 (by kernel_rfl); simpa using h2
    have hi' : i < 23 := hi
    have hcases : i = 0 ∨ i = 1 ∨ i = 2 ∨ i = 3 ∨ i = 4 ∨ i = 5 ∨ i = 6 ∨ i = 7 ∨ i = 8 ∨ i = 9 ∨ i = 10 ∨ i = 11 ∨ i = 12 ∨ i = 13 ∨ i = 14 ∨ i = 15 ∨ i = 16 ∨ i = 17 ∨ i = 18 ∨ i = 19 ∨ i = 20 ∨ i = 21 ∨ i = 22 := by omega
    rcases hcases with rfl | rfl | rfl | rfl | rfl | rfl | rfl | rfl | rfl | rfl | rfl | rfl | rfl | rfl | rfl | rfl | rfl | rfl | rfl | rfl | rfl | rfl | rfl
    · cases ho
      refine ⟨wanted_none rfl, Oper.wp_mono (K := fun a'' w'' => a'' = a'.put (some 98) (.pointer (some ⟨B, 0, none⟩)) ∧ w'' = x) ?_ ?_⟩
      · rintro _ _ ⟨rfl, rfl⟩
        exact ⟨_, y, rfl, ⟨fun _ => ⟨rfl, rfl, rfl, rfl, fun _ _ _ => rfl⟩, fun _ => rfl, Nat.le_refl _⟩, by simpa using hI, fun u hu => hu (fun h => by cases h)⟩
      · unfold Oper.wp
        simp [go_sem, s0]
    · cases ho
      have q0 : a'.tmps[98]?.getD undef = .pointer (some ⟨B, 0, none⟩) := by have h2 : a'.tmps.getD 98 undef = .pointer (some ⟨B, 0, none⟩) := hp 0 (of_decide_eq_true (by kernel_rfl)) (.inr (by decide)); simpa using h2
      refine ⟨wanted_none rfl, Oper.wp_mono (K := fun a'' w'' => a'' = a'.put (some 99) (.pointer (some ⟨B, 0, none⟩)) ∧ w'' = x) ?_ ?_⟩
      · rintro _ _ ⟨rfl, rfl⟩
        exact ⟨_, y, rfl, ⟨fun _ => ⟨rfl, rfl, rfl, rfl, fun _ _ _ => rfl⟩, fun _ => rfl, Nat.le_refl _⟩, by simpa using hI, fun u hu => hu (fun h => by cases h)⟩
      · unfold Oper.wp
        simp [go_sem, q0]
    · cases ho
      have q1 : a'.tmps[99]?.getD undef = .pointer (some ⟨B, 0, none⟩) := by have h2 : a'.tmps.getD 99 undef = .pointer (some ⟨B, 0, none⟩) := hp 1 (of_decide_eq_true (by kernel_rfl)) (.inr (by decide)); simpa using h2
      refine ⟨wanted_none rfl, Oper.wp_mono (K := fun a'' w'' => a'' = a'.put (some 100) (.pointer (some ⟨B, 7, none⟩)) ∧ w'' = x) ?_ ?_⟩
      · rintro _ _ ⟨rfl, rfl⟩
        exact ⟨_, y, rfl, ⟨fun _ => ⟨rfl, rfl, rfl, rfl, fun _ _ _ => rfl⟩, fun _ => rfl, Nat.le_refl _⟩, by simpa using hI, fun u hu => hu (fun h => by cases h)⟩
      · unfold Oper.wp
        simp [go_sem, q1]
    · cases ho
      obtain ⟨fbx, fgv, fnd⟩ := RY.out x hI.bel
      have c7 : x.cell? ⟨B, 7, none⟩ = some (.int .i64 g.rows.most) := fbx.cell 7 rfl
      have c8 : x.cell? ⟨B, 8, none⟩ = some (.slice xg.a5 g.rows.lists.length xg.c5) := fbx.cell 8 rfl
      have q2 : a'.tmps[100]?.getD undef = .pointer (some ⟨B, 7, none⟩) := by have h2 : a'.tmps.getD 100 undef = .pointer (some ⟨B, 7, none⟩) := hp 2 (of_decide_eq_true (by kernel_rfl)) (.inr (by decide)); simpa using h2
      refine ⟨wanted_none rfl, Oper.wp_mono (K := fun a'' w'' => a'' = a'.put (some 101) (.agg #[.int .i64 g.rows.most, .slice xg.a5 g.rows.lists.length xg.c5]) ∧ w'' = x) ?_ ?_⟩
      · rintro _ _ ⟨rfl, rfl⟩
        exact ⟨_, y, rfl, ⟨fun _ => ⟨rfl, rfl, rfl, rfl, fun _ _ _ => rfl⟩, fun _ => rfl, Nat.le_refl _⟩, by simpa using hI, fun u hu => hu (fun h => by cases h)⟩
      · unfold Oper.wp
        simp [go_sem, q2, c7, c8]
    · cases ho
      refine ⟨wanted_none rfl, Oper.wp_mono (K := fun a'' w'' => a'' = a'.put (some 102) (.int .i64 (lf : Int)) ∧ w'' = x) ?_ ?_⟩
      · rintro _ _ ⟨rfl, rfl⟩
        exact ⟨_, y, rfl, ⟨fun _ => ⟨rfl, rfl, rfl, rfl, fun _ _ _ => rfl⟩, fun _ => rfl, Nat.le_refl _⟩, by simpa using hI, fun u hu => hu (fun h => by cases h)⟩
      · unfold Oper.wp
        simp [go_sem, s9]
    · cases ho
      refine ⟨wanted_none rfl, Oper.wp_mono (K := fun a'' w'' => a'' = a'.put (some 103) (.pointer (some ⟨B, 0, none⟩)) ∧ w'' = x) ?_ ?_⟩
      · rintro _ _ ⟨rfl, rfl⟩
        exact ⟨_, y, rfl, ⟨fun _ => ⟨rfl, rfl, rfl, rfl, fun _ _ _ => rfl⟩, fun _ => rfl, Nat.le_refl _⟩, by simpa using hI, fun u hu => hu (fun h => by cases h)⟩
      · unfold Oper.wp
        simp [go_sem, s0]
    · cases ho
      have q5 : a'.tmps[103]?.getD undef = .pointer (some ⟨B, 0, none⟩) := by have h2 : a'.tmps.getD 103 undef = .pointer (some ⟨B, 0, none⟩) := hp 5 (of_decide_eq_true (by kernel_rfl)) (.inr (by decide)); simpa using h2
      refine ⟨wanted_none rfl, Oper.wp_mono (K := fun a'' w'' => a'' = a'.put (some 104) (.pointer (some ⟨B, 0, none⟩)) ∧ w'' = x) ?_ ?_⟩
      · rintro _ _ ⟨rfl, rfl⟩
        exact ⟨_, y, rfl, ⟨fun _ => ⟨rfl, rfl, rfl, rfl, fun _ _ _ => rfl⟩, fun _ => rfl, Nat.le_refl _⟩, by simpa using hI, fun u hu => hu (fun h => by cases h)⟩
      · unfold Oper.wp
        simp [go_sem, q5]
    · cases ho
      have q6 : a'.tmps[104]?.getD undef = .pointer (some ⟨B, 0, none⟩) := by have h2 : a'.tmps.getD 104 undef = .pointer (some ⟨B, 0, none⟩) := hp 6 (of_decide_eq_true (by kernel_rfl)) (.inr (by decide)); simpa using h2
      refine ⟨wanted_none rfl, Oper.wp_mono (K := fun a'' w'' => a'' = a'.put (some 105) (.pointer (some ⟨B, 12, none⟩)) ∧ w'' = x) ?_ ?_⟩
      · rintro _ _ ⟨rfl, rfl⟩
        exact ⟨_, y, rfl, ⟨fun _ => ⟨rfl, rfl, rfl, rfl, fun _ _ _ => rfl⟩, fun _ => rfl, Nat.le_refl _⟩, by simpa using hI, fun u hu => hu (fun h => by cases h)⟩
      · unfold Oper.wp
        simp [go_sem, q6]
    · cases ho
      obtain ⟨fbx, fgv, fnd⟩ := RY.out x hI.bel
      have c12 : x.cell? ⟨B, 12, none⟩ = some (.int .i64 g.next) := fbx.cell 12 rfl
      have q7 : a'.tmps[105]?.getD undef = .pointer (some ⟨B, 12, none⟩) := by have h2 : a'.tmps.getD 105 undef = .pointer (some ⟨B, 12, none⟩) := hp 7 (of_decide_eq_true (by kernel_rfl)) (.inr (by decide)); simpa using h2
      refine ⟨wanted_none rfl, Oper.wp_mono (K := fun a'' w'' => a'' = a'.put (some 106) (.int .i64 g.next) ∧ w'' = x) ?_ ?_⟩
      · rintro _ _ ⟨rfl, rfl⟩
        exact ⟨_, y, rfl, ⟨fun _ => ⟨rfl, rfl, rfl, rfl, fun _ _ _ => rfl⟩, fun _ => rfl, Nat.le_refl _⟩, by simpa using hI, fun u hu => hu (fun h => by cases h)⟩
      · unfold Oper.wp
        simp [go_sem, q7, c12]
    · cases ho
      refine ⟨wanted_none rfl, Oper.wp_mono (K := fun a'' w'' => a'' = a'.put (some 107) (.string s) ∧ w'' = x) ?_ ?_⟩
      · rintro _ _ ⟨rfl, rfl⟩
        exact ⟨_, y, rfl, ⟨fun _ => ⟨rfl, rfl, rfl, rfl, fun _ _ _ => rfl⟩, fun _ => rfl, Nat.le_refl _⟩, by simpa using hI, fun u hu => hu (fun h => by cases h)⟩
      · unfold Oper.wp
        simp [go_sem, s1]
    · cases ho
      have q9 : a'.tmps[107]?.getD undef = .string s := by have h2 : a'.tmps.getD 107 undef = .string s := hp 9 (of_decide_eq_true (by kernel_rfl)) (.inr (by decide)); simpa using h2
      refine ⟨wanted_none rfl, Oper.wp_mono (K := fun a'' w'' => a'' = a'.put (some 108) (.int .i64 (s.size : Int)) ∧ w'' = x) ?_ ?_⟩
      · rintro _ _ ⟨rfl, rfl⟩
        exact ⟨_, y, rfl, ⟨fun _ => ⟨rfl, rfl, rfl, rfl, fun _ _ _ => rfl⟩, fun _ => rfl, Nat.le_refl _⟩, by simpa using hI, fun u hu => hu (fun h => by cases h)⟩
      · unfold Oper.wp
        simp [go_sem, q9]
    · cases ho
      refine ⟨wanted_none rfl, Oper.wp_mono (K := fun a'' w'' => a'' = a'.put (some 109) (.pointer (some ⟨B, 0, none⟩)) ∧ w'' = x) ?_ ?_⟩
      · rintro _ _ ⟨rfl, rfl⟩
        exact ⟨_, y, rfl, ⟨fun _ => ⟨rfl, rfl, rfl, rfl, fun _ _ _ => rfl⟩, fun _ => rfl, Nat.le_refl _⟩, by simpa using hI, fun u hu => hu (fun h => by cases h)⟩
      · unfold Oper.wp
        simp [go_sem, s0]
    · cases ho
      have q11 : a'.tmps[109]?.getD undef = .pointer (some ⟨B, 0, none⟩) := by have h2 : a'.tmps.getD 109 undef = .pointer (some ⟨B, 0, none⟩) := hp 11 (of_decide_eq_true (by kernel_rfl)) (.inr (by decide)); simpa using h2
      refine ⟨wanted_none rfl, Oper.wp_mono (K := fun a'' w'' => a'' = a'.put (some 110) (.pointer (some ⟨B, 0, none⟩)) ∧ w'' = x) ?_ ?_⟩
      · rintro _ _ ⟨rfl, rfl⟩
        exact ⟨_, y, rfl, ⟨fun _ => ⟨rfl, rfl, rfl, rfl, fun _ _ _ => rfl⟩, fun _ => rfl, Nat.le_refl _⟩, by simpa using hI, fun u hu => hu (fun h => by cases h)⟩
      · unfold Oper.wp
        simp [go_sem, q11]
    · cases ho
      obtain ⟨fbx, fgv, fnd⟩ := RY.out x hI.bel
      have q12 : a'.tmps[110]?.getD undef = .pointer (some ⟨B, 0, none⟩) := by have h2 : a'.tmps.getD 110 undef = .pointer (some ⟨B, 0, none⟩) := hp 12 (of_decide_eq_true (by kernel_rfl)) (.inr (by decide)); simpa using h2
      exact ⟨wanted_none rfl, wp_load_row 50 (.tmp 110) rfl B (by simpa [Act.eval] using q12) _ _ _ _ fbx Tryz.underlying50 rfl (by rw [Gt.cells_size]; kernel_rfl) ⟨_, y, rfl, ⟨fun _ => ⟨rfl, rfl, rfl, rfl, fun _ _ _ => rfl⟩, fun _ => rfl, Nat.le_refl _⟩, by simpa using hI, fun u hu => hu (fun h => by cases h)⟩⟩
    · cases ho
      obtain ⟨fbx, fgv, fnd⟩ := RY.out x hI.bel
      have q13 : a'.tmps[111]?.getD undef = .agg (({ g with draw := nd } : Gt).cells xg) := by have h2 : a'.tmps.getD 111 undef = .agg (({ g with draw := nd } : Gt).cells xg) := hp 13 (of_decide_eq_true (by kernel_rfl)) (.inr (by decide)); simpa using h2
      refine ⟨wanted_none rfl, op_callR (f := 113) (args := #[.agg (({ g with draw := nd } : Gt).cells xg)]) (by simp [execOp, resolve, Deferred.ofValue, invoke, Act.eval, q13]) (A5.out x xg { g with draw := nd } rfl fnd) ?_⟩
      rintro e x1 ⟨rfl, q⟩
      exact ⟨_, rfl, _, y, rfl, ⟨fun _ => ⟨rfl, rfl, rfl, rfl, fun j _ h4 => q.block j (Nat.lt_of_lt_of_le h4 hI.tx)⟩, fun _ => rfl, q.size⟩, by simpa using hI.below q, fun u hu => hu (fun h => by cases h)⟩
    · cases ho
      have q8 : a'.tmps[106]?.getD undef = .int .i64 g.next := by have h2 : a'.tmps.getD 106 undef = .int .i64 g.next := hp 8 (of_decide_eq_true (by kernel_rfl)) (.inr (by decide)); simpa using h2
      have q10 : a'.tmps[108]?.getD undef = .int .i64 (s.size : Int) := by have h2 : a'.tmps.getD 108 undef = .int .i64 (s.size : Int) := hp 10 (of_decide_eq_true (by kernel_rfl)) (.inr (by decide)); simpa using h2
      have q14 : a'.tmps[112]?.getD undef = .int .i64 tm := by have h2 : a'.tmps.getD 112 undef = .int .i64 tm := hp 14 (of_decide_eq_true (by kernel_rfl)) (.inr (by decide)); simpa using h2
      refine ⟨wanted_none rfl, Oper.wp_mono (K := fun a'' w'' => a'' = a'.put (some 113) (.agg #[.int .i64 g.next, .int .i64 (s.size : Int), .int .i64 tm]) ∧ w'' = x) ?_ ?_⟩
      · rintro _ _ ⟨rfl, rfl⟩
        exact ⟨_, y, rfl, ⟨fun _ => ⟨rfl, rfl, rfl, rfl, fun _ _ _ => rfl⟩, fun _ => rfl, Nat.le_refl _⟩, by simpa using hI, fun u hu => hu (fun h => by cases h)⟩
      · unfold Oper.wp
        simp [go_sem, q8, q10, q14]
    · cases ho
      obtain ⟨fbx, fgv, fnd⟩ := RY.out x hI.bel
      have q3 : a'.tmps[101]?.getD undef = .agg #[.int .i64 g.rows.most, .slice xg.a5 g.rows.lists.length xg.c5] := by have h2 : a'.tmps.getD 101 undef = .agg #[.int .i64 g.rows.most, .slice xg.a5 g.rows.lists.length xg.c5] := hp 3 (of_decide_eq_true (by kernel_rfl)) (.inr (by decide)); simpa using h2
      have q4 : a'.tmps[102]?.getD undef = .int .i64 (lf : Int) := by have h2 : a'.tmps.getD 102 undef = .int .i64 (lf : Int) := hp 4 (of_decide_eq_true (by kernel_rfl)) (.inr (by decide)); simpa using h2
      have q15 : a'.tmps[113]?.getD undef = .agg #[.int .i64 g.next, .int .i64 (s.size : Int), .int .i64 tm] := by have h2 : a'.tmps.getD 113 undef = .agg #[.int .i64 g.next, .int .i64 (s.size : Int), .int .i64 tm] := hp 15 (of_decide_eq_true (by kernel_rfl)) (.inr (by decide)); simpa using h2
      have n16 : L 16 = false := hLi
      have n21 : L 21 = false := hre 21 (by decide +kernel)
      rw [n16, n21] at hI
      refine ⟨wanted_none rfl, op_callR (f := 136) (args := #[.agg #[.int .i64 g.rows.most, .slice xg.a5 g.rows.lists.length xg.c5], .int .i64 (lf : Int), .agg #[.int .i64 g.next, .int .i64 (s.size : Int), .int .i64 tm]]) (by simp [execOp, resolve, Deferred.ofValue, invoke, Act.eval, q3, q4, q15]) (A8.out x fgv) ?_⟩
      rintro e x1 ⟨⟨p, c, rfl, hr2⟩, q⟩
      exact ⟨_, rfl, _, ⟨p, c, y.m, x.heap.size, x1.heap.size⟩, rfl, ⟨fun h => absurd rfl h, fun _ => rfl, q.size⟩, by simpa [n21] using hI.push q _, fun u hu => ⟨hu (fun h => by cases h), hr2⟩⟩
    · cases ho
      have e16 : a'.tmps.getD 114 undef = .tuple #[.agg #[.int .i64 g.rows.most, .slice y.p g.rows.lists.length y.c], .bool f1] := (hp 16 (of_decide_eq_true (by kernel_rfl)) (.inr (by decide))).1
      exact ⟨wanted_none rfl, op_moveY 114 rfl ⟨_, y, rfl, ⟨fun _ => ⟨rfl, rfl, rfl, rfl, fun _ _ _ => rfl⟩, fun _ => rfl, Nat.le_refl _⟩, by simpa using hI, fun u hu => (hu (fun h => by cases h)).trans e16⟩⟩
    · cases ho
      have e17 : a'.tmps.getD 97 undef = .tuple #[.agg #[.int .i64 g.rows.most, .slice y.p g.rows.lists.length y.c], .bool f1] := hp 17 (of_decide_eq_true (by kernel_rfl)) (.inr (by decide))
      have q17 : a'.tmps[97]?.getD undef = .tuple #[.agg #[.int .i64 g.rows.most, .slice y.p g.rows.lists.length y.c], .bool f1] := by simpa using e17
      exact ⟨wanted_none rfl, op_valY (v := .agg #[.int .i64 g.rows.most, .slice y.p g.rows.lists.length y.c]) (w' := x) (by simp [go_sem, q17]) ⟨_, y, rfl, ⟨fun _ => ⟨rfl, rfl, rfl, rfl, fun _ _ _ => rfl⟩, fun _ => rfl, Nat.le_refl _⟩, by simpa using hI, fun u hu => hu (fun h => by cases h)⟩⟩
    · cases ho
      have e17 : a'.tmps.getD 97 undef = .tuple #[.agg #[.int .i64 g.rows.most, .slice y.p g.rows.lists.length y.c], .bool f1] := hp 17 (of_decide_eq_true (by kernel_rfl)) (.inr (by decide))
      have q17 : a'.tmps[97]?.getD undef = .tuple #[.agg #[.int .i64 g.rows.most, .slice y.p g.rows.lists.length y.c], .bool f1] := by simpa using e17
      exact ⟨wanted_none rfl, op_valY (v := .bool f1) (w' := x) (by simp [go_sem, q17]) ⟨_, y, rfl, ⟨fun _ => ⟨rfl, rfl, rfl, rfl, fun _ _ _ => rfl⟩, fun _ => rfl, Nat.le_refl _⟩, by simpa using hI, fun u hu => hu (fun h => by cases h)⟩⟩
    · cases ho
      have n20 : L 20 = false := hLi
      have n21 : L 21 = false := hre 21 (by decide +kernel)
      rw [n20, n21] at hI
      have q : Below x.heap.size x (x.alloc (.cells #[.int .i64 0, .slice none 0 0] 44)) := (Below.refl _ _).alloc (Nat.le_refl _) _
      refine ⟨wanted_none rfl, op_valY (v := .pointer (some ⟨x.heap.size, 0, none⟩)) (w' := x.alloc (.cells #[.int .i64 0, .slice none 0 0] 44)) (by simp [go_sem]) ?_⟩
      exact ⟨_, ⟨y.p, y.c, x.heap.size, y.b, y.t⟩, rfl, ⟨fun _ => ⟨rfl, rfl, rfl, rfl, fun j _ h4 => q.block j (Nat.lt_of_lt_of_le h4 hI.tx)⟩, fun h => absurd rfl h, q.size⟩, by simpa [n21] using hI.box, fun u hu => hu (fun h => by cases h)⟩
    · cases ho
      have l20 : L 20 = true := hwt 20 (of_decide_eq_true (by kernel_rfl))
      have n21 : L 21 = false := hLi
      rw [l20, n21] at hI
      have e18 : a'.tmps.getD 115 undef = .agg #[.int .i64 g.rows.most, .slice y.p g.rows.lists.length y.c] := hp 18 (of_decide_eq_true (by kernel_rfl)) (.inr (by decide))
      have e20 : a'.tmps.getD 11 undef = .pointer (some ⟨y.m, 0, none⟩) := hp 20 (of_decide_eq_true (by kernel_rfl)) (.inr (by decide))
      refine ⟨wanted_none rfl, wp_store_row 44 (.tmp 11) (.tmp 115) rfl y.m #[.int .i64 g.rows.most, .slice y.p g.rows.lists.length y.c] (by simpa [Act.eval] using e20) (by simpa [Act.eval] using e18) _ _ (hI.zero rfl rfl) (by kernel_rfl) rfl (by simp [Value.oneCell']) ?_⟩
      exact ⟨undef, y, rfl, ⟨fun _ => ⟨rfl, rfl, rfl, rfl, fun j h3 h4 => setRow_other _ _ _ _ (by have := (hI.far rfl); omega)⟩, fun _ => rfl, Nat.le_of_eq (size_setRow _ _ _).symm⟩, by simpa [l20] using hI.store, fun _ _ => trivial⟩
    · cases ho
      have e1 : a'.tmps.getD 116 undef = .bool f1 := hp 19 (of_decide_eq_true (by kernel_rfl)) (.inr (by decide))
      exact ⟨wanted_none rfl, op_assignZ 116 rfl ⟨_, y, rfl, ⟨fun _ => ⟨rfl, rfl, rfl, rfl, fun _ _ _ => rfl⟩, fun _ => rfl, Nat.le_refl _⟩, by simpa using hI, fun u hu => (hu (fun h => by cases h)).trans e1⟩⟩
  case last =>
  intro L a' y x hall hkp hI hp
  obtain ⟨p5, c5, m5, b5, t5⟩ := y
  have e11 : a'.tmps.getD 11 undef = .pointer (some ⟨m5, 0, none⟩) := hp 20 (by decide) (by decide)
  have e12 : a'.tmps.getD 12 undef = .bool f1 := hp 22 (by decide) (by decide)
  have r16 : RwIn b5 t5 x (rw'.val p5 c5) rw' := (hp 16 (by decide) (by decide)).2
  rw [hall 16 (by decide), hall 20 (by decide), hall 21 (by decide)] at hI
  have ha := hkp.pick [true, true, true, true, true, true, true, true, true, true, true, false, false, true, true, true, true, true, true, true, true, true, true, true, true, true, true, true, true, true, true, true, true, true, true, true, true, true, true, true, true, true, true, true, true, true, true, true, true, true, true, true, true, true, true, true, true, true, true, true, true, true, true, true, true, true, true, true, true, true, true, true, true, true, true, true, true, true, true, true, true, true, true, true, true, true, true, true, true, true, true, true, true, true, true, true, true, false, false, false, false, false, false, false, false, false, false, false, false, false, false, false, false, false, false, false, false, true, true, true, true, true, true, true, true, true, true, true, true, true, true, true, true, true, true, true, true, true, true, true, true, true, true, true, true, true, true] (by kernel_rfl)
  simp only [pickS] at ha
  rw [e11, e12] at ha
  generalize a'.tmps.getD 97 undef = y97 at ha
  generalize a'.tmps.getD 98 undef = y98 at ha
  generalize a'.tmps.getD 99 undef = y99 at ha
  generalize a'.tmps.getD 100 undef = y100 at ha
  generalize a'.tmps.getD 101 undef = y101 at ha
  generalize a'.tmps.getD 102 undef = y102 at ha
  generalize a'.tmps.getD 103 undef = y103 at ha
  generalize a'.tmps.getD 104 undef = y104 at ha
  generalize a'.tmps.getD 105 undef = y105 at ha
  generalize a'.tmps.getD 106 undef = y106 at ha
  generalize a'.tmps.getD 107 undef = y107 at ha
  generalize a'.tmps.getD 108 undef = y108 at ha
  generalize a'.tmps.getD 109 undef = y109 at ha
  generalize a'.tmps.getD 110 undef = y110 at ha
  generalize a'.tmps.getD 111 undef = y111 at ha
  generalize a'.tmps.getD 112 undef = y112 at ha
  generalize a'.tmps.getD 113 undef = y113 at ha
  generalize a'.tmps.getD 114 undef = y114 at ha
  generalize a'.tmps.getD 115 undef = y115 at ha
  generalize a'.tmps.getD 116 undef = y116 at ha
  have PU : Hid (PuI wd S #[.int .i64 g.rows.most, .slice p5 g.rows.lists.length c5] 44 true true true ⟨p5, c5, m5, b5, t5⟩ x ∧ RwIn b5 t5 x (rw'.val p5 c5) rw') := ⟨hI, r16⟩
  clear hp hkp hI hall r16 e11 e12 RY
  rw [ha]
  clear ha
  obtain ⟨w13, hw_⟩ : ∃ z, z = x := ⟨_, rfl⟩
  rw [← hw_] at PU ⊢
  clear hw_ x
  have iS : f.In lo S := hG.out.2.1.wide (Nat.le_refl _) (by have := Hlw.out; have := D10.out.2.2.2.2; have := HS.out; omega)
  have hSw : Hid (w.heap.size ≤ S ∧ B < S ∧ lo ≤ S) := by have := Hlw.out; have := D10.out.2.2.2.2; have := HS.out; exact ⟨by omega, by omega, by omega⟩
  have pb : Below wd.heap.size wd w13 := PU.out.1.bel
  have sb : S ≤ b5 ∧ b5 ≤ t5 ∧ t5 ≤ w13.heap.size := ⟨PU.out.1.sb, PU.out.1.bt, PU.out.1.tx⟩
  have M13 : Hid (GtW w13 { xg with a5 := p5, c5 := c5 } { f with b5 := b5, t5 := t5 } { { g with draw := nd } with rows := rw' } ∧ ({ f with b5 := b5, t5 := t5 } : Gf).In lo w13.heap.size ∧ ({ f with b5 := b5, t5 := t5 } : Gf).Apart ∧ ∀ j, B ≤ j → j < w.heap.size → ({ f with b5 := b5, t5 := t5 } : Gf).Off j) :=
    ⟨(D10.out.2.1.below pb).rep5 PU.out.2, (iS.rep5 sb.1 (by have := hSw.out; omega) sb.2.1).wide (Nat.le_refl _) sb.2.2, hG.out.2.2.1.rep5 iS sb.1, fun j h3 h4 => (Gf.Off.of_in hG.out.2.1 h3).rep5 (by have := hSw.out; omega)⟩
  have Z13 : Hid (Boxed w13 B (({ g with draw := nd } : Gt).cells xg) 50 ∧ GtV w13 xg g ∧ Boxed w13 m5 #[.int .i64 g.rows.most, .slice p5 g.rows.lists.length c5] 44 ∧ Below lo w w13 ∧ (∀ j, B < j → j < w.heap.size → w13.heap[j]? = w.heap[j]?) ∧ S ≤ m5 ∧ S ≤ w13.heap.size ∧ Below wd.heap.size wd w13) := by
    have d := D10.out
    have gv : GtV w13 xg { g with draw := nd } := (d.2.1.below pb).at
    have hs := hSw.out
    have h4 : S = wd.heap.size := HS.out
    exact ⟨d.1.below d.1.under pb, ⟨gv.routes, gv.rules, gv.tree, gv.leaves, gv.rows, gv.steers, gv.fair⟩, PU.out.1.full rfl, d.2.2.1.trans (pb.mono (by omega)), fun j h5 h6 => (pb.block j (by omega)).trans (d.2.2.2.1 j h5 h6), (PU.out.1.mS rfl).1, by rw [h4]; exact pb.size, pb⟩
  clear PU pb sb iS
  obtain ⟨f5, hf5⟩ : ∃ z : Gf, z = { f with b5 := b5, t5 := t5 } := ⟨_, rfl⟩
  rw [← hf5] at M13
  clear hf5
  have c10 : w13.cell? ⟨B, 10, none⟩ = some (.int .i64 g.fair.now) := Z13.out.1.cell 10 rfl
  have c11 : w13.cell? ⟨B, 11, none⟩ = some (.slice xg.a7 g.fair.flows.length xg.c7) := Z13.out.1.cell 11 rfl
  go_wp2_with fail
  refine (A9.out _ Z13.out.2.1).mono ?_
  rintro e w14 ⟨⟨p7, c7, rfl, r⟩, q⟩
  have M14 : Hid (GtW w14 { { xg with a5 := p5, c5 := c5 } with a7 := p7, c7 := c7 } { f5 with b7 := w13.heap.size, t7 := w14.heap.size } { { { g with draw := nd } with rows := rw' } with fair := fs } ∧ ({ f5 with b7 := w13.heap.size, t7 := w14.heap.size } : Gf).In lo w14.heap.size ∧ ({ f5 with b7 := w13.heap.size, t7 := w14.heap.size } : Gf).Apart ∧ ∀ j, B ≤ j → j < w.heap.size → ({ f5 with b7 := w13.heap.size, t7 := w14.heap.size } : Gf).Off j) :=
    ⟨(M13.out.1.below q).rep7 r, M13.out.2.1.rep7 (Nat.le_refl _) (by have := hSw.out; have := Z13.out.2.2.2.2.2.2.1; omega) q.size, M13.out.2.2.1.rep7 M13.out.2.1 (Nat.le_refl _), fun j h3 h4 => (M13.out.2.2.2 j h3 h4).rep7 (by have := hSw.out; have := Z13.out.2.2.2.2.2.2.1; omega)⟩
  have Z14 : Hid (Boxed w14 B (({ g with draw := nd } : Gt).cells xg) 50 ∧ Boxed w14 m5 #[.int .i64 g.rows.most, .slice p5 g.rows.lists.length c5] 44 ∧ Below lo w w14 ∧ (∀ j, B < j → j < w.heap.size → w14.heap[j]? = w.heap[j]?) ∧ S ≤ m5 ∧ S ≤ w14.heap.size ∧ Below wd.heap.size wd w14) := by
    have z := Z13.out
    have hs := hSw.out
    exact ⟨z.1.below z.1.under q, z.2.2.1.below z.2.2.1.under q, z.2.2.2.1.trans (q.mono (by omega)), fun j h5 h6 => (q.block j (by omega)).trans (z.2.2.2.2.1 j h5 h6), z.2.2.2.2.2.1, Nat.le_trans z.2.2.2.2.2.2.1 q.size, z.2.2.2.2.2.2.2.trans (q.mono (by have := HS.out; omega))⟩
  clear q r c10 c11 M13 Z13 A9
  obtain ⟨f7, hf7⟩ : ∃ z : Gf, z = { f5 with b7 := w13.heap.size, t7 := w14.heap.size } := ⟨_, rfl⟩
  rw [← hf7] at M14
  clear hf7
  have N : Hid (Boxed (w14.alloc (.cells #[.int .i64 0, .slice none 0 0] 48)) w14.heap.size #[.int .i64 0, .slice none 0 0] 48) := Boxed.new _ _ _
  have bN : Hid (Below w14.heap.size w14 ((w14.alloc (.cells #[.int .i64 0, .slice none 0 0] 48)).setRow w14.heap.size #[.int .i64 g.fair.now, .slice p7 g.fair.flows.length c7])) := below_setRow ((Below.refl _ _).alloc (Nat.le_refl _) _) (Nat.le_refl _) _
  have hN : Hid (Boxed ((w14.alloc (.cells #[.int .i64 0, .slice none 0 0] 48)).setRow w14.heap.size #[.int .i64 g.fair.now, .slice p7 g.fair.flows.length c7]) w14.heap.size #[.int .i64 g.fair.now, .slice p7 g.fair.flows.length c7] 48) := setRow_heap _ _ _ _ _ _ N.out
  go_upto_region 15 with (refine wpList_store_row rfl 48 (.tmp 13) (.tmp 125) rfl w14.heap.size #[.int .i64 g.fair.now, .slice p7 g.fair.flows.length c7] rfl rfl _ _ N.out (by kernel_rfl) rfl (by simp [Value.oneCell']) ?_)
  try simp only [Act.put]
  have M15 : Hid (GtW ((w14.alloc (.cells #[.int .i64 0, .slice none 0 0] 48)).setRow w14.heap.size #[.int .i64 g.fair.now, .slice p7 g.fair.flows.length c7]) { { xg with a5 := p5, c5 := c5 } with a7 := p7, c7 := c7 } f7 { { { g with draw := nd } with rows := rw' } with fair := fs } ∧ f7.In lo w14.heap.size ∧ f7.Apart ∧ ∀ j, B ≤ j → j < w.heap.size → f7.Off j) := ⟨M14.out.1.below bN.out, M14.out.2⟩
  have Z15 : Hid (Boxed ((w14.alloc (.cells #[.int .i64 0, .slice none 0 0] 48)).setRow w14.heap.size #[.int .i64 g.fair.now, .slice p7 g.fair.flows.length c7]) B (({ g with draw := nd } : Gt).cells xg) 50 ∧ Boxed ((w14.alloc (.cells #[.int .i64 0, .slice none 0 0] 48)).setRow w14.heap.size #[.int .i64 g.fair.now, .slice p7 g.fair.flows.length c7]) m5 #[.int .i64 g.rows.most, .slice p5 g.rows.lists.length c5] 44 ∧ Below lo w ((w14.alloc (.cells #[.int .i64 0, .slice none 0 0] 48)).setRow w14.heap.size #[.int .i64 g.fair.now, .slice p7 g.fair.flows.length c7]) ∧ (∀ j, B < j → j < w.heap.size → ((w14.alloc (.cells #[.int .i64 0, .slice none 0 0] 48)).setRow w14.heap.size #[.int .i64 g.fair.now, .slice p7 g.fair.flows.length c7]).heap[j]? = w.heap[j]?) ∧ S ≤ m5 ∧ S ≤ w14.heap.size ∧ Below wd.heap.size wd ((w14.alloc (.cells #[.int .i64 0, .slice none 0 0] 48)).setRow w14.heap.size #[.int .i64 g.fair.now, .slice p7 g.fair.flows.length c7])) := by
    have z := Z14.out
    have hs := hSw.out
    exact ⟨z.1.below z.1.under bN.out, z.2.1.below z.2.1.under bN.out, z.2.2.1.trans (bN.out.mono (by omega)), fun j h5 h6 => (bN.out.block j (by omega)).trans (z.2.2.2.1 j h5 h6), z.2.2.2.2.1, z.2.2.2.2.2.1, z.2.2.2.2.2.2.trans (bN.out.mono (by have := HS.out; omega))⟩
  clear N bN M14 Z14
  generalize (w14.alloc (.cells #[.int .i64 0, .slice none 0 0] 48)).setRow w14.heap.size #[.int .i64 g.fair.now, .slice p7 g.fair.flows.length c7] = w15 at hN M15 Z15 ⊢
  generalize w14.heap.size = F7 at hN M15 Z15 ⊢
  have hfl := Put.out.2.2.2
  rw [hnx3.out, Bool.false_or] at hfl
  have Hfl : Hid _ := hfl
  have Hput : Hid _ := Put.out.2.2.1
  clear hfl Put
  cases f1
  · have hfull : g.full lf = true := by rw [Hfl.out]; rfl
    have CP : Hid (∀ w, Calls Tryz.prog 107 #[.bool false, .int .i64 (14)] w fun e w' => e = .panicked [{ v := gaveUp (14), recovered := false }] ∧ w' = w) := fun w => (implMust false (14) w).mono fun e w' h => ⟨by rw [h.1, if_neg (by decide)], h.2⟩
    go_wp2_with fail
    refine (CP.out _).mono ?_
    rintro e wq ⟨rfl, hwq⟩
    have hwq2 := hwq.symm
    subst hwq2
    have R0 := HP.out (14) g.drawn (by rw [Inn.out, if_neg (fun h => h rfl), if_neg (fun h => h hsum1), if_neg (show ¬ hop < 0 by omega), if_neg htb1.out, if_neg (show ¬ g.draw < (srAt g.steers lf).prob by have := hnl0.out; omega), if_pos hfull]) (by first | omega | decide) _ (G1.out _ Z15.out.2.2.2.2.2.2)
    go_wp2
    first | exact ⟨rfl, R0⟩ | (trace_state; done)
  cases f2
  · have hfull : g.full lf = true := by rw [Hfl.out]; rfl
    have CP : Hid (∀ w, Calls Tryz.prog 107 #[.bool false, .int .i64 (14)] w fun e w' => e = .panicked [{ v := gaveUp (14), recovered := false }] ∧ w' = w) := fun w => (implMust false (14) w).mono fun e w' h => ⟨by rw [h.1, if_neg (by decide)], h.2⟩
    go_wp2_with fail
    refine (CP.out _).mono ?_
    rintro e wq ⟨rfl, hwq⟩
    have hwq2 := hwq.symm
    subst hwq2
    have R0 := HP.out (14) g.drawn (by rw [Inn.out, if_neg (fun h => h rfl), if_neg (fun h => h hsum1), if_neg (show ¬ hop < 0 by omega), if_neg htb1.out, if_neg (show ¬ g.draw < (srAt g.steers lf).prob by have := hnl0.out; omega), if_pos hfull]) (by first | omega | decide) _ (G1.out _ Z15.out.2.2.2.2.2.2)
    go_wp2
    first | exact ⟨rfl, R0⟩ | (trace_state; done)
  have hfull : ¬ g.full lf = true := by rw [Hfl.out]; decide
  have Hin : Hid (g.inn s = (g.drawn.put lf s.size, 0)) := by
    show _ = _
    rw [Inn.out, if_neg (fun h => h rfl), if_neg (fun h => h hsum1), if_neg (show ¬ hop < 0 by omega), if_neg htb1.out, if_neg (show ¬ g.draw < (srAt g.steers lf).prob by have := hnl0.out; omega), if_neg hfull]
  have Hput' : Hid _ := Hput.out rfl rfl
  clear Hput Hfl Inn
  have CM : Hid (∀ w, Calls Tryz.prog 107 #[.bool true, .int .i64 (14)] w fun e w' => e = .returned (.tuple #[]) ∧ w' = w) := fun w => (implMust true (14) w).mono fun e w' h => ⟨by rw [h.1, if_pos rfl], h.2⟩
  go_wp2_with fail
  refine (CM.out _).mono ?_
  rintro e wq ⟨rfl, hwq⟩
  have hwq2 := hwq.symm
  subst hwq2
  clear CM
  have BX : Hid (Boxed w15 B ((({ g with draw := nd } : Gt).mix2 fs rw' false false).cells (xg.mix2 p7 c7 p5 c5 false false)) 50) := Z15.out.1
  go_upto_region 16 with fail
  refine region_lists (G := Unit) (by kernel_rfl) (by kernel_rfl) (by kernel_rfl) (fun i => 99) (fun (L : Nat → Bool) (_ : Unit) (z : World) => Boxed z B ((({ g with draw := nd } : Gt).mix2 fs rw' (L 9) (L 6)).cells (xg.mix2 p7 c7 p5 c5 (L 9) (L 6))) 50 ∧ Span B (B + 1) w15 z) (fun i (_ : Unit) z (_ : Unit) z' => True) (fun i y x u => ([fun _ _ u => u = .pointer (some ⟨B, 0, none⟩), fun _ _ u => u = .pointer (some ⟨B, 0, none⟩), fun _ _ u => u = .agg #[.int .i64 g.rows.most, .slice p5 g.rows.lists.length c5], fun _ _ u => u = .agg #[.int .i64 g.fair.now, .slice p7 g.fair.flows.length c7], fun _ _ u => u = .pointer (some ⟨B, 0, none⟩), fun _ _ u => u = .pointer (some ⟨B, 7, none⟩), fun _ _ _ => True, fun _ _ u => u = .pointer (some ⟨B, 0, none⟩), fun _ _ u => u = .pointer (some ⟨B, 10, none⟩), fun _ _ _ => True] : List (Unit → World → Value → Prop)).getD i (fun _ _ _ => True) y x u) ?hR () ?h0 ?step ?last
  case hR =>
    intro i j y y' x x' u hi hj hne hu h1 h2 hp hr
    have hi' : i < 10 := hi
    have hj' : j < 10 := hj
    have hcases : j = 0 ∨ j = 1 ∨ j = 2 ∨ j = 3 ∨ j = 4 ∨ j = 5 ∨ j = 6 ∨ j = 7 ∨ j = 8 ∨ j = 9 := by omega
    rcases hcases with rfl | rfl | rfl | rfl | rfl | rfl | rfl | rfl | rfl | rfl
    · exact hp
    · exact hp
    · exact hp
    · exact hp
    · exact hp
    · exact hp
    · exact hp
    · exact hp
    · exact hp
    · exact hp
  case h0 => exact ⟨BX.out, Span.of_below (Below.refl _ _).drew⟩
  case step =>
    intro i o hi ho L a' y x hLi hwt hre hkp hI hp
    have s0 : a'.tmps[0]?.getD undef = .pointer (some ⟨B, 0, none⟩) := by have h2 : a'.tmps.getD 0 undef = .pointer (some ⟨B, 0, none⟩) := hkp.slot 0 (by kernel_rfl); simpa using h2
    have s11 : a'.tmps[11]?.getD undef = .pointer (some ⟨m5, 0, none⟩) := by have h2 : a'.tmps.getD 11 undef = .pointer (some ⟨m5, 0, none⟩) := hkp.slot 11 (by kernel_rfl); simpa using h2
    have s13 : a'.tmps[13]?.getD undef = .pointer (some ⟨F7, 0, none⟩) := by have h2 : a'.tmps.getD 13 undef = .pointer (some ⟨F7, 0, none⟩) := hkp.slot 13 (by kernel_rfl); simpa using h2
    have hi' : i < 10 := hi
    have hcases : i = 0 ∨ i = 1 ∨ i = 2 ∨ i = 3 ∨ i = 4 ∨ i = 5 ∨ i = 6 ∨ i = 7 ∨ i = 8 ∨ i = 9 := by omega
    rcases hcases with rfl | rfl | rfl | rfl | rfl | rfl | rfl | rfl | rfl | rfl
    · cases ho
      refine ⟨wanted_none rfl, Oper.wp_mono (K := fun a'' w'' => a'' = a'.put (some 132) (.pointer (some ⟨B, 0, none⟩)) ∧ w'' = x) ?_ ?_⟩
      · rintro _ _ ⟨rfl, rfl⟩
        exact ⟨_, y, rfl, trivial, ⟨by simpa using hI.1, hI.2⟩, fun u hu => hu (fun h => by cases h)⟩
      · unfold Oper.wp
        simp [go_sem, s0]
    · cases ho
      refine ⟨wanted_none rfl, Oper.wp_mono (K := fun a'' w'' => a'' = a'.put (some 133) (.pointer (some ⟨B, 0, none⟩)) ∧ w'' = x) ?_ ?_⟩
      · rintro _ _ ⟨rfl, rfl⟩
        exact ⟨_, y, rfl, trivial, ⟨by simpa using hI.1, hI.2⟩, fun u hu => hu (fun h => by cases h)⟩
      · unfold Oper.wp
        simp [go_sem, s0]
    · cases ho
      have bf : Boxed x F7 #[.int .i64 g.fair.now, .slice p7 g.fair.flows.length c7] 48 := (hI.2.block F7 hN.out.under (by have := hSw.out; have := Z15.out.2.2.2.2.2.1; omega)).trans hN.out
      have br : Boxed x m5 #[.int .i64 g.rows.most, .slice p5 g.rows.lists.length c5] 44 := (hI.2.block m5 Z15.out.2.1.under (by have := hSw.out; have := Z15.out.2.2.2.2.1; omega)).trans Z15.out.2.1
      have r0 := br.cell 0 rfl
      have r1 := br.cell 1 rfl
      refine ⟨wanted_none rfl, Oper.wp_mono (K := fun a'' w'' => a'' = a'.put (some 134) (.agg #[.int .i64 g.rows.most, .slice p5 g.rows.lists.length c5]) ∧ w'' = x) ?_ ?_⟩
      · rintro _ _ ⟨rfl, rfl⟩
        exact ⟨_, y, rfl, trivial, ⟨by simpa using hI.1, hI.2⟩, fun u hu => hu (fun h => by cases h)⟩
      · unfold Oper.wp
        simp [go_sem, s11, r0, r1]
    · cases ho
      have bf : Boxed x F7 #[.int .i64 g.fair.now, .slice p7 g.fair.flows.length c7] 48 := (hI.2.block F7 hN.out.under (by have := hSw.out; have := Z15.out.2.2.2.2.2.1; omega)).trans hN.out
      have br : Boxed x m5 #[.int .i64 g.rows.most, .slice p5 g.rows.lists.length c5] 44 := (hI.2.block m5 Z15.out.2.1.under (by have := hSw.out; have := Z15.out.2.2.2.2.1; omega)).trans Z15.out.2.1
      have f0 := bf.cell 0 rfl
      have f1 := bf.cell 1 rfl
      refine ⟨wanted_none rfl, Oper.wp_mono (K := fun a'' w'' => a'' = a'.put (some 135) (.agg #[.int .i64 g.fair.now, .slice p7 g.fair.flows.length c7]) ∧ w'' = x) ?_ ?_⟩
      · rintro _ _ ⟨rfl, rfl⟩
        exact ⟨_, y, rfl, trivial, ⟨by simpa using hI.1, hI.2⟩, fun u hu => hu (fun h => by cases h)⟩
      · unfold Oper.wp
        simp [go_sem, s13, f0, f1]
    · cases ho
      have q0 : a'.tmps[132]?.getD undef = .pointer (some ⟨B, 0, none⟩) := by have h2 : a'.tmps.getD 132 undef = .pointer (some ⟨B, 0, none⟩) := hp 0 (of_decide_eq_true (by kernel_rfl)) (.inr (by decide)); simpa using h2
      refine ⟨wanted_none rfl, Oper.wp_mono (K := fun a'' w'' => a'' = a'.put (some 136) (.pointer (some ⟨B, 0, none⟩)) ∧ w'' = x) ?_ ?_⟩
      · rintro _ _ ⟨rfl, rfl⟩
        exact ⟨_, y, rfl, trivial, ⟨by simpa using hI.1, hI.2⟩, fun u hu => hu (fun h => by cases h)⟩
      · unfold Oper.wp
        simp [go_sem, q0]
    · cases ho
      have q4 : a'.tmps[136]?.getD undef = .pointer (some ⟨B, 0, none⟩) := by have h2 : a'.tmps.getD 136 undef = .pointer (some ⟨B, 0, none⟩) := hp 4 (of_decide_eq_true (by kernel_rfl)) (.inr (by decide)); simpa using h2
      refine ⟨wanted_none rfl, Oper.wp_mono (K := fun a'' w'' => a'' = a'.put (some 137) (.pointer (some ⟨B, 7, none⟩)) ∧ w'' = x) ?_ ?_⟩
      · rintro _ _ ⟨rfl, rfl⟩
        exact ⟨_, y, rfl, trivial, ⟨by simpa using hI.1, hI.2⟩, fun u hu => hu (fun h => by cases h)⟩
      · unfold Oper.wp
        simp [go_sem, q4]
    · cases ho
      have ce7 := hI.1.cell 7 rfl
      have ie7 := hI.1.ice 7
      have ce8 := hI.1.cell 8 rfl
      have ie8 := hI.1.ice 8
      have q2 : a'.tmps[134]?.getD undef = .agg #[.int .i64 g.rows.most, .slice p5 g.rows.lists.length c5] := by have h2 : a'.tmps.getD 134 undef = .agg #[.int .i64 g.rows.most, .slice p5 g.rows.lists.length c5] := hp 2 (of_decide_eq_true (by kernel_rfl)) (.inr (by decide)); simpa using h2
      have q5 : a'.tmps[137]?.getD undef = .pointer (some ⟨B, 7, none⟩) := by have h2 : a'.tmps.getD 137 undef = .pointer (some ⟨B, 7, none⟩) := hp 5 (of_decide_eq_true (by kernel_rfl)) (.inr (by decide)); simpa using h2
      have P : Boxed ((x.setCell ⟨B, 7, none⟩ (.int .i64 g.rows.most)).setCell ⟨B, 8, none⟩ (.slice p5 g.rows.lists.length c5)) B ((({ g with draw := nd } : Gt).mix2 fs rw' (L 9) true).cells (xg.mix2 p7 c7 p5 c5 (L 9) true)) 50 := by
        have p := ((hI.1.put 7 (.int .i64 g.rows.most)).put 8 (.slice p5 g.rows.lists.length c5))
        have hL : L 6 = false := hLi
        rw [hL] at p
        have e : ∀ la, (((({ g with draw := nd } : Gt).mix2 fs rw' la false).cells (xg.mix2 p7 c7 p5 c5 la false)).setIfInBounds 7 (.int .i64 g.rows.most)).setIfInBounds 8 (.slice p5 g.rows.lists.length c5) = ((({ g with draw := nd } : Gt).mix2 fs rw' la true).cells (xg.mix2 p7 c7 p5 c5 la true)) := by
          intro la
          cases la <;> (unfold Gt.cells Gt.mix2 Ga.mix2; simp [Hlens.out.1, Hlens.out.2.1])
        rw [e (L 9)] at p
        exact p
      have SP : Span B (B + 1) w15 ((x.setCell ⟨B, 7, none⟩ (.int .i64 g.rows.most)).setCell ⟨B, 8, none⟩ (.slice p5 g.rows.lists.length c5)) := hI.2.trans ⟨rfl, rfl, rfl, by simp [World.setCell], fun j _ hj => (Below.heap_setCell _ _ _ _ (by show j ≠ B; omega)).trans (Below.heap_setCell _ _ _ _ (by show j ≠ B; omega))⟩
      refine ⟨wanted_none rfl, Oper.wp_mono (K := fun a'' w'' => a'' = a'.put none undef ∧ w'' = ((x.setCell ⟨B, 7, none⟩ (.int .i64 g.rows.most)).setCell ⟨B, 8, none⟩ (.slice p5 g.rows.lists.length c5))) ?_ ?_⟩
      · rintro _ _ ⟨rfl, rfl⟩
        exact ⟨undef, (), rfl, trivial, ⟨P, SP⟩, fun _ _ => trivial⟩
      · unfold Oper.wp
        simp [go_sem, q2, q5, ce7, ie7, ce8, ie8]
    · cases ho
      have q1 : a'.tmps[133]?.getD undef = .pointer (some ⟨B, 0, none⟩) := by have h2 : a'.tmps.getD 133 undef = .pointer (some ⟨B, 0, none⟩) := hp 1 (of_decide_eq_true (by kernel_rfl)) (.inr (by decide)); simpa using h2
      refine ⟨wanted_none rfl, Oper.wp_mono (K := fun a'' w'' => a'' = a'.put (some 138) (.pointer (some ⟨B, 0, none⟩)) ∧ w'' = x) ?_ ?_⟩
      · rintro _ _ ⟨rfl, rfl⟩
        exact ⟨_, y, rfl, trivial, ⟨by simpa using hI.1, hI.2⟩, fun u hu => hu (fun h => by cases h)⟩
      · unfold Oper.wp
        simp [go_sem, q1]
    · cases ho
      have q7 : a'.tmps[138]?.getD undef = .pointer (some ⟨B, 0, none⟩) := by have h2 : a'.tmps.getD 138 undef = .pointer (some ⟨B, 0, none⟩) := hp 7 (of_decide_eq_true (by kernel_rfl)) (.inr (by decide)); simpa using h2
      refine ⟨wanted_none rfl, Oper.wp_mono (K := fun a'' w'' => a'' = a'.put (some 139) (.pointer (some ⟨B, 10, none⟩)) ∧ w'' = x) ?_ ?_⟩
      · rintro _ _ ⟨rfl, rfl⟩
        exact ⟨_, y, rfl, trivial, ⟨by simpa using hI.1, hI.2⟩, fun u hu => hu (fun h => by cases h)⟩
      · unfold Oper.wp
        simp [go_sem, q7]
    · cases ho
      have ce10 := hI.1.cell 10 rfl
      have ie10 := hI.1.ice 10
      have ce11 := hI.1.cell 11 rfl
      have ie11 := hI.1.ice 11
      have q3 : a'.tmps[135]?.getD undef = .agg #[.int .i64 g.fair.now, .slice p7 g.fair.flows.length c7] := by have h2 : a'.tmps.getD 135 undef = .agg #[.int .i64 g.fair.now, .slice p7 g.fair.flows.length c7] := hp 3 (of_decide_eq_true (by kernel_rfl)) (.inr (by decide)); simpa using h2
      have q8 : a'.tmps[139]?.getD undef = .pointer (some ⟨B, 10, none⟩) := by have h2 : a'.tmps.getD 139 undef = .pointer (some ⟨B, 10, none⟩) := hp 8 (of_decide_eq_true (by kernel_rfl)) (.inr (by decide)); simpa using h2
      have P : Boxed ((x.setCell ⟨B, 10, none⟩ (.int .i64 g.fair.now)).setCell ⟨B, 11, none⟩ (.slice p7 g.fair.flows.length c7)) B ((({ g with draw := nd } : Gt).mix2 fs rw' true (L 6)).cells (xg.mix2 p7 c7 p5 c5 true (L 6))) 50 := by
        have p := ((hI.1.put 10 (.int .i64 g.fair.now)).put 11 (.slice p7 g.fair.flows.length c7))
        have hL : L 9 = false := hLi
        rw [hL] at p
        have e : ∀ la, (((({ g with draw := nd } : Gt).mix2 fs rw' false la).cells (xg.mix2 p7 c7 p5 c5 false la)).setIfInBounds 10 (.int .i64 g.fair.now)).setIfInBounds 11 (.slice p7 g.fair.flows.length c7) = ((({ g with draw := nd } : Gt).mix2 fs rw' true la).cells (xg.mix2 p7 c7 p5 c5 true la)) := by
          intro la
          cases la <;> (unfold Gt.cells Gt.mix2 Ga.mix2; simp [Hlens.out.2.2.1, Hlens.out.2.2.2.1])
        rw [e (L 6)] at p
        exact p
      have SP : Span B (B + 1) w15 ((x.setCell ⟨B, 10, none⟩ (.int .i64 g.fair.now)).setCell ⟨B, 11, none⟩ (.slice p7 g.fair.flows.length c7)) := hI.2.trans ⟨rfl, rfl, rfl, by simp [World.setCell], fun j _ hj => (Below.heap_setCell _ _ _ _ (by show j ≠ B; omega)).trans (Below.heap_setCell _ _ _ _ (by show j ≠ B; omega))⟩
      refine ⟨wanted_none rfl, Oper.wp_mono (K := fun a'' w'' => a'' = a'.put none undef ∧ w'' = ((x.setCell ⟨B, 10, none⟩ (.int .i64 g.fair.now)).setCell ⟨B, 11, none⟩ (.slice p7 g.fair.flows.length c7))) ?_ ?_⟩
      · rintro _ _ ⟨rfl, rfl⟩
        exact ⟨undef, (), rfl, trivial, ⟨P, SP⟩, fun _ _ => trivial⟩
      · unfold Oper.wp
        simp [go_sem, q3, q8, ce10, ie10, ce11, ie11]
  case last =>
  intro L a' y x hall hkp hI hp
  rw [hall 6 (by decide), hall 9 (by decide)] at hI
  have ha := hkp.pick [true, true, true, true, true, true, true, true, true, true, true, true, true, true, true, true, true, true, true, true, true, true, true, true, true, true, true, true, true, true, true, true, true, true, true, true, true, true, true, true, true, true, true, true, true, true, true, true, true, true, true, true, true, true, true, true, true, true, true, true, true, true, true, true, true, true, true, true, true, true, true, true, true, true, true, true, true, true, true, true, true, true, true, true, true, true, true, true, true, true, true, true, true, true, true, true, true, true, true, true, true, true, true, true, true, true, true, true, true, true, true, true, true, true, true, true, true, true, true, true, true, true, true, true, true, true, true, true, true, true, true, true, false, false, false, false, false, false, false, false, true, true, true, true, true, true, true] (by kernel_rfl)
  simp only [pickS] at ha
  generalize a'.tmps.getD 132 undef = y132 at ha
  generalize a'.tmps.getD 133 undef = y133 at ha
  generalize a'.tmps.getD 134 undef = y134 at ha
  generalize a'.tmps.getD 135 undef = y135 at ha
  generalize a'.tmps.getD 136 undef = y136 at ha
  generalize a'.tmps.getD 137 undef = y137 at ha
  generalize a'.tmps.getD 138 undef = y138 at ha
  generalize a'.tmps.getD 139 undef = y139 at ha
  have B6 : Hid (Boxed x B (({ { { g with draw := nd } with rows := rw' } with fair := fs } : Gt).cells { { xg with a5 := p5, c5 := c5 } with a7 := p7, c7 := c7 }) 50) := hI.1
  have M6 : Hid (GtW x { { xg with a5 := p5, c5 := c5 } with a7 := p7, c7 := c7 } f7 { { { g with draw := nd } with rows := rw' } with fair := fs } ∧ f7.In lo F7 ∧ f7.Apart ∧ (∀ j, B ≤ j → j < w.heap.size → f7.Off j) ∧ F7 < w15.heap.size) := ⟨M15.out.1.off (M15.out.2.2.2 B (Nat.le_refl _) Hlw.out.2) M15.out.2.1 (Nat.le_of_lt hN.out.under) hI.2.size (fun j hj hl => hI.2.block j hl (by omega)), M15.out.2.1, M15.out.2.2.1, M15.out.2.2.2, hN.out.under⟩
  have Z6 : Hid (Below lo w x ∧ (∀ j, B < j → j < w.heap.size → x.heap[j]? = w.heap[j]?) ∧ F7 < x.heap.size) := by
    have z := Z15.out
    have hs := hSw.out
    have hw := Hlw.out
    have hlB := hG.out.2.2.2
    have q1 := z.2.2.1
    exact ⟨⟨hI.2.os.trans q1.os, hI.2.tape.trans q1.tape, hI.2.output.trans q1.output, Nat.le_trans q1.size hI.2.size, fun j hj => (hI.2.block j (by have := q1.size; omega) (by omega)).trans (q1.block j hj)⟩, fun j h3 h4 => (hI.2.block j (by have := q1.size; omega) (by omega)).trans (z.2.2.2.1 j h3 h4), Nat.lt_of_lt_of_le hN.out.under hI.2.size⟩
  clear hp hkp hI hall M15 Z15 BX hN
  rw [ha]
  clear ha
  obtain ⟨w16, hw_⟩ : ∃ z, z = x := ⟨_, rfl⟩
  rw [← hw_] at M6 Z6 B6 ⊢
  clear hw_ x
  have c12 : w16.cell? ⟨B, 12, none⟩ = some (.int .i64 g.next) := B6.out.cell 12 rfl
  have i12 := B6.out.ice 12
  have kn : IntKind.i64.wrap (g.next + 1) = g.next + 1 := by rw [IntKind.wrap_i64]; omega
  have R17 := HR.out (g.drawn.put lf s.size) Hin.out (w16.setCell ⟨B, 12, none⟩ (.int .i64 (g.next + 1))) (by
    rw [← Hput'.out]
    have hs6 : (w16.setCell ⟨B, 12, none⟩ (.int .i64 (g.next + 1))).heap.size = w16.heap.size := by simp [World.setCell]
    have m := M6.out
    have z := Z6.out
    have g2 := m.1.off (w' := w16.setCell ⟨B, 12, none⟩ (.int .i64 (g.next + 1))) (m.2.2.2.1 B (Nat.le_refl _) Hlw.out.2) m.2.1 (by omega) (Nat.le_of_eq hs6.symm) fun k hk _ => Below.heap_setCell _ _ _ _ hk
    exact ⟨⟨_, f7, B6.out.put 12 _, ⟨g2.routes, g2.rules, g2.tree, g2.leaves, g2.rows, g2.steers, g2.fair⟩, m.2.1.wide (Nat.le_refl _) (by omega), m.2.2.1, fun j h3 h4 => m.2.2.2.1 j (Nat.le_of_lt h3) h4⟩, z.1.setCell hG.out.2.2.2 _, fun j h3 h4 => (Below.heap_setCell _ _ _ _ (by show j ≠ B; omega)).trans (z.2.1 j h3 h4)⟩)
  have R18 : Hid _ := R17
  clear R17
  go_wp2_with fail
  exact R18.out
end Go.Proofs.YtgebghkcikmfaaaGreatDoor
