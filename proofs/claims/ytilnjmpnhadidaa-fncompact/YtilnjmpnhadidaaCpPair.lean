/-
  The walks of the program's Paired. By the verifier.
-/
import Derived.Test.YtilnjmpnhadidaaCpPairM
import Derived.Test.YtilnjmpnhadidaaCpGone
import Derived.Test.YtilnjmpnhadidaaCpTrim
import Derived.Test.YtilnjmpnhadidaaRtSearch
import Derived.Test.YtilnjmpnhadidaaRtInsert
import Derived.Deep.DeepCutAuto
import Derived.Laws.Tables
namespace Go.Proofs.Ytilnjmpnhadidaa
open Go.RowKit Go.Maps

theorem twinTells (b n : Nat) (g : Int → Int → Option Int) (w : World) (hm : HMap w b n g) :
    Tells w (fun k => k = b) 53 #[.map (some b)] #[] (fun r => r.ok = true) (twinB g) := by
  refine ⟨enters_of Try.func53 (by kernel_rfl) rfl, fun k hk => ?_, fun W r hr hW => ?_⟩
  · subst hk; exact hm.lt
  · exact implTwinB b n g r hr W (hm.kept (hW b rfl))

/-- What is known of each operation's value. -/
def gnPr (lo : Nat) (f j : Rt) (t : Int) : Nat → World → Value → Prop := fun i w v =>
  if i = 0 ∨ i = 2 then v = f.val else if i = 1 ∨ i = 3 then v = pv f.net f.bits else if i = 4 then v = pv t f.bits else if i = 5 then v = j.val else if i = 6 then v = pv j.net j.bits
  else if i = 7 then ∃ G, v = .slice (some ⟨G, 0, none⟩) 3 3 ∧ lo ≤ G ∧ Boxed w G #[.int .i64 f.net, .int .i64 f.bits, .int .i64 t, .int .i64 f.bits, .int .i64 j.net, .int .i64 j.bits] 67
  else ∃ B, v = .pointer (some ⟨B, 0, none⟩) ∧ lo ≤ B ∧ Boxed w B #[.slice none 0 0] 70
theorem gnPr_keep {lo : Nat} {f j : Rt} {t : Int} (i : Nat) (w w' : World) (v : Value) (h : gnPr lo f j t i w v) (k : Below w.heap.size w w') : gnPr lo f j t i w' v := by
  unfold gnPr at *
  by_cases h1 : i = 0 ∨ i = 2
  · rw [if_pos h1] at h ⊢; exact h
  rw [if_neg h1] at h ⊢
  by_cases h2 : i = 1 ∨ i = 3
  · rw [if_pos h2] at h ⊢; exact h
  rw [if_neg h2] at h ⊢
  by_cases h3 : i = 4
  · rw [if_pos h3] at h ⊢; exact h
  rw [if_neg h3] at h ⊢
  by_cases h4 : i = 5
  · rw [if_pos h4] at h ⊢; exact h
  rw [if_neg h4] at h ⊢
  by_cases h5 : i = 6
  · rw [if_pos h5] at h ⊢; exact h
  rw [if_neg h5] at h ⊢
  by_cases h6 : i = 7
  · rw [if_pos h6] at h ⊢
    obtain ⟨G, e, hl, hb⟩ := h
    exact ⟨G, e, hl, hb.below hb.under k⟩
  rw [if_neg h6] at h ⊢
  obtain ⟨G, e, hl, hb⟩ := h
  exact ⟨G, e, hl, hb.below hb.under k⟩
theorem op_callB {P : Program} {o : Oper} {a : Act} {w : World} {K : Act → World → Prop} {Q : Exit → Act → World → Prop} {f : FuncId} {args : Array Value} (hrun : (execOp a.eval o).run P w = .ok (.enter f args) w) {v : Value}
    (hc : Calls P f args w fun e w' => e = .returned v ∧ Below w.heap.size w w') (h : ∀ w', Below w.heap.size w w' → K (a.put o.dst v) w') : o.wp P a w K Q := by
  unfold Oper.wp
  rw [hrun, Oper.upon_enter]
  refine hc.mono fun e w' hh => ?_
  obtain ⟨rfl, hb⟩ := hh
  exact h w' hb

set_option maxHeartbeats 3200000 in
set_option maxRecDepth 100000 in
theorem implPairH (a : Option Addr) (cap : Nat) (l : List Rt) (b n : Nat) (g : Int → Int → Option Int) (w : World) (hl : Hid (rtsOk l = true)) (hn : a = none → cap = 0) (h : Hid (RtsAt w a l)) (hm : Hid (HMap w b n g)) :
    Calls Try.prog 30 #[.map (some b), .slice a l.length cap] w fun e w' => (∃ v', e = .returned v' ∧ RRow w.heap.size w' v' (pairL l)) ∧ (∃ n' g', HMap w' b n' g') ∧ w.grownBy w' (some b) := by
  have hf := fine_of hl.out
  have h64 := (ok_all hl.out).1
  have hmf : ∀ (fn : Fn) (first cap : Array Value) (w : World), (Instr.makeFunc fn first cap).run Try.prog w = .ok (.func fn first cap) w := fun _ _ _ _ => rfl
  have L := fun w h hm => implLay a cap l b n g w h64 hf.ok h hm
  have CL := fun w h => implCloneR a cap l w h hn (by omega)
  have IX : Hid (∀ w n, RtsAt w a l → HMap w b n (gOf l) → Calls Try.prog 52 #[.slice a l.length cap, .func (.func 53) #[.map (some b)] #[]] w fun e w' => e = .returned (.int .i64 (if pairN l < l.length then (pairN l : Int) else -1)) ∧ Below w.heap.size w w') :=
    fun w n h hm => implIndexF a cap l _ _ _ _ _ _ w h64 h hf.ok (twinTells b n (gOf l) w hm)
  have L' : Hid _ := L
  have CL' : Hid _ := CL
  clear L CL
  rcases pair_or hf with ⟨hlt, P⟩ | ⟨hlt, hP⟩
  · obtain ⟨N, hN⟩ : ∃ N, pairN l = N := ⟨_, rfl⟩
    rw [hN] at hlt P
    have Hmem := P.mem
    obtain ⟨f, hfe⟩ : ∃ f, rtAt l N = f := ⟨_, rfl⟩
    have HP : Hid (Paired l f) := by rw [← hfe]; exact P
    rw [hfe] at Hmem
    obtain ⟨p1, p2, p3, p4⟩ := ok_split (hf.ok f Hmem)
    simp only [hN] at IX
    have Hrt : Hid (rtAt l N = f) := hfe
    have HT := fun w => implTwin (net := f.net) (b := f.bits) (s := (32 - f.bits).toNat) (by omega) (by omega) p2.1 p2.2 p3 w
    have hpos := P.pos
    rw [hfe] at hpos
    clear P hN hfe
    obtain ⟨len, hlen⟩ : ∃ n, l.length = n := ⟨_, rfl⟩
    have Hlen : Hid (l.length = len) := hlen
    simp only [hlen] at IX L' CL' hlt h64 ⊢
    rw [if_pos hlt] at IX
    clear hlen
    go_enter Try.func30, Try.ntmps30
    go_wp2_with fail
    refine (L'.out _ h.out hm.out).mono ?_
    rintro e w1 ⟨rfl, m1, g1⟩
    have H1 : Hid (HMap w1 b len (gOf l) ∧ w.grownBy w1 (some b) ∧ RtsAt w1 a l) := ⟨m1, g1, h.out.off hm.out g1⟩
    clear m1 g1 L'
    go_wp2_with fail
    refine (IX.out _ _ H1.out.2.2 H1.out.1).mono ?_
    rintro e w2 ⟨rfl, b2⟩
    have H2 : Hid (HMap w2 b len (gOf l) ∧ w.grownBy w2 (some b) ∧ RtsAt w2 a l) := ⟨H1.out.1.kept (b2.block _ H1.out.1.lt), H1.out.2.1.trans (grown_below b2), H1.out.2.2.below b2⟩
    clear b2 H1 IX
    obtain ⟨b1, o1, ha1, hb1, -⟩ := H2.out.2.2 N (by rw [Hlen.out]; exact hlt)
    subst ha1
    obtain ⟨c0, c1, c2⟩ := cells_at H2.out.2.2 (k := N) (by rw [Hlen.out]; exact hlt)
    rw [Hrt.out] at c0 c1 c2
    have hlt' : (N : Int) < (len : Int) := by omega
    have hN0 : ¬ ((N : Int) < 0) := by omega
    obtain ⟨net, bits, hop⟩ := f
    simp only [] at c0 c1 c2 HT p1 p2 p3 p4 hpos
    go_wp2_with fail
    obtain ⟨B6, hB6⟩ : ∃ B, B = w2.heap.size := ⟨_, rfl⟩
    obtain ⟨W3, hW3⟩ : ∃ W, (w2.alloc (.cells #[.int .i64 net, .int .i64 bits, .int .i64 hop] 53)).alloc (.cells #[.int .i64 net, .int .i64 (bits - 1), .int .i64 hop] 53) = W := ⟨_, rfl⟩
    have H3 : Hid (Boxed W3 B6 #[.int .i64 net, .int .i64 bits, .int .i64 hop] 53 ∧ Boxed W3 (B6 + 1) #[.int .i64 net, .int .i64 (bits - 1), .int .i64 hop] 53 ∧ Below w2.heap.size w2 W3 ∧ W3.heap.size = B6 + 2) := by
      rw [← hW3, hB6]
      have e : (w2.alloc (.cells #[.int .i64 net, .int .i64 bits, .int .i64 hop] 53)).heap.size = w2.heap.size + 1 := by simp
      have x := Boxed.new (w2.alloc (.cells #[.int .i64 net, .int .i64 bits, .int .i64 hop] 53)) #[.int .i64 net, .int .i64 (bits - 1), .int .i64 hop] 53
      rw [e] at x
      exact ⟨(Boxed.new _ _ _).more _, x, ((Below.refl _ w2).alloc (Nat.le_refl _) _).alloc (by simp) _, by simp⟩
    rw [hW3, ← hB6]
    have HB6 : Hid (B6 = w2.heap.size) := hB6
    clear hW3 hB6
    obtain ⟨t, ht⟩ : ∃ t, twinV net (32 - bits).toNat = t := ⟨_, rfl⟩
    have Ht : Hid (twinV net (32 - bits).toNat = t) := ht
    rw [ht] at HT
    have HT' : Hid _ := HT
    have HPl := fun (r : Rt) w => implPlace r w
    have HPl' : Hid _ := HPl
    clear ht HT HPl c0 c1 c2
    go_cut [8] (fun s8 wc => Hid (∃ B G : Nat, s8 = .pointer (some ⟨B, 0, none⟩) ∧ W3.heap.size ≤ B ∧ W3.heap.size ≤ G ∧ Boxed wc B #[.slice (some ⟨G, 0, none⟩) 3 3] 70 ∧ Boxed wc G #[.int .i64 net, .int .i64 bits, .int .i64 t, .int .i64 bits, .int .i64 net, .int .i64 (bits - 1)] 67 ∧ Below W3.heap.size W3 wc))
    case first =>
      refine region_draws (by kernel_rfl) (by kernel_rfl) (by kernel_rfl) (by kernel_rfl) (fun w' => Below W3.heap.size W3 w') (fun x y => Below x.heap.size x y) (gnPr W3.heap.size ⟨net, bits, hop⟩ ⟨net, bits - 1, hop⟩ t) gnPr_keep ?h0 ?step ?last
      case h0 => exact (Below.refl _ _).drew
      case step =>
        intro i o hi ho a w4 hk hI hp
        have t6 : a.tmps.getD 6 undef = .pointer (some ⟨B6, 0, none⟩) := hk.slot 6 (by kernel_rfl)
        have t7 : a.tmps.getD 7 undef = .pointer (some ⟨B6 + 1, 0, none⟩) := hk.slot 7 (by kernel_rfl)
        have t6' : a.tmps[6]?.getD undef = .pointer (some ⟨B6, 0, none⟩) := by simpa using t6
        have t7' : a.tmps[7]?.getD undef = .pointer (some ⟨B6 + 1, 0, none⟩) := by simpa using t7
        have X6 := H3.out.1.below H3.out.1.under hI
        have X7 := H3.out.2.1.below H3.out.2.1.under hI
        have d0 : w4.cell? ⟨B6, 0, none⟩ = some (.int .i64 net) := X6.cell 0 rfl
        have d1 : w4.cell? ⟨B6, 1, none⟩ = some (.int .i64 bits) := X6.cell 1 rfl
        have d2 : w4.cell? ⟨B6, 2, none⟩ = some (.int .i64 hop) := X6.cell 2 rfl
        have e0 : w4.cell? ⟨B6 + 1, 0, none⟩ = some (.int .i64 net) := X7.cell 0 rfl
        have e1 : w4.cell? ⟨B6 + 1, 1, none⟩ = some (.int .i64 (bits - 1)) := X7.cell 1 rfl
        have e2 : w4.cell? ⟨B6 + 1, 2, none⟩ = some (.int .i64 hop) := X7.cell 2 rfl
        have hcases : i = 0 ∨ i = 1 ∨ i = 2 ∨ i = 3 ∨ i = 4 ∨ i = 5 ∨ i = 6 ∨ i = 7 ∨ i = 8 := by
          have : i + 1 < 10 := hi
          omega
        rcases hcases with rfl | rfl | rfl | rfl | rfl | rfl | rfl | rfl | rfl
        · cases ho
          refine ⟨rfl, ?_⟩
          unfold Oper.wp
          simp [go_sem, t6', d0, d1, d2]
          exact ⟨_, rfl, Below.refl _ _, hI, rfl⟩
        · cases ho
          have q : a.tmps[35]?.getD undef = .agg #[.int .i64 net, .int .i64 bits, .int .i64 hop] := by simpa [gnPr, Rt.val] using hp ⟨0, .data⟩ 35 (by simp) rfl rfl
          exact ⟨rfl, op_callB (by simp [execOp, resolve, Deferred.ofValue, invoke, Act.eval, q]; rfl) (HPl'.out ⟨net, bits, hop⟩ _) fun w' hb => ⟨_, rfl, hb, hI.trans (hb.mono hI.size), rfl⟩⟩
        · cases ho
          refine ⟨rfl, ?_⟩
          unfold Oper.wp
          simp [go_sem, t6', d0, d1, d2]
          exact ⟨_, rfl, Below.refl _ _, hI, rfl⟩
        · cases ho
          have q : a.tmps[37]?.getD undef = .agg #[.int .i64 net, .int .i64 bits, .int .i64 hop] := by simpa [gnPr, Rt.val] using hp ⟨2, .data⟩ 37 (by simp) rfl rfl
          exact ⟨rfl, op_callB (by simp [execOp, resolve, Deferred.ofValue, invoke, Act.eval, q]; rfl) (HPl'.out ⟨net, bits, hop⟩ _) fun w' hb => ⟨_, rfl, hb, hI.trans (hb.mono hI.size), rfl⟩⟩
        · cases ho
          have q : a.tmps[38]?.getD undef = .agg #[.int .i64 net, .int .i64 bits] := by simpa [gnPr, pv] using hp ⟨3, .data⟩ 38 (by simp) rfl rfl
          exact ⟨rfl, op_callB (by simp [execOp, resolve, Deferred.ofValue, invoke, Act.eval, q]; rfl) (HT'.out _) fun w' hb => ⟨_, rfl, hb, hI.trans (hb.mono hI.size), rfl⟩⟩
        · cases ho
          refine ⟨rfl, ?_⟩
          unfold Oper.wp
          simp [go_sem, t7', e0, e1, e2]
          exact ⟨_, rfl, Below.refl _ _, hI, rfl⟩
        · cases ho
          have q : a.tmps[40]?.getD undef = .agg #[.int .i64 net, .int .i64 (bits - 1), .int .i64 hop] := by simpa [gnPr, Rt.val] using hp ⟨5, .data⟩ 40 (by simp) rfl rfl
          exact ⟨rfl, op_callB (by simp [execOp, resolve, Deferred.ofValue, invoke, Act.eval, q]; rfl) (HPl'.out ⟨net, bits - 1, hop⟩ _) fun w' hb => ⟨_, rfl, hb, hI.trans (hb.mono hI.size), rfl⟩⟩
        · cases ho
          have q1 : a.tmps[36]?.getD undef = .agg #[.int .i64 net, .int .i64 bits] := by simpa [gnPr, pv] using hp ⟨1, .data⟩ 36 (by simp) rfl rfl
          have q2 : a.tmps[39]?.getD undef = .agg #[.int .i64 t, .int .i64 bits] := by simpa [gnPr, pv] using hp ⟨4, .data⟩ 39 (by simp) rfl rfl
          have q3 : a.tmps[41]?.getD undef = .agg #[.int .i64 net, .int .i64 (bits - 1)] := by simpa [gnPr, pv] using hp ⟨6, .data⟩ 41 (by simp) rfl rfl
          refine ⟨rfl, ?_⟩
          unfold Oper.wp
          simp [go_sem, q1, q2, q3]
          exact ⟨_, rfl, (Below.refl _ _).alloc (Nat.le_refl _) _, hI.alloc hI.size _, w4.heap.size, rfl, hI.size, Boxed.new _ _ _⟩
        · cases ho
          refine ⟨rfl, ?_⟩
          unfold Oper.wp
          simp [go_sem]
          exact ⟨_, rfl, (Below.refl _ _).alloc (Nat.le_refl _) _, hI.alloc hI.size _, w4.heap.size, rfl, hI.size, Boxed.new _ _ _⟩
      case last =>
        intro o ho a w4 hk hI hp
        cases ho
        obtain ⟨G, eG, hlG, hbG⟩ : ∃ G, a.tmps.getD 42 undef = .slice (some ⟨G, 0, none⟩) 3 3 ∧ W3.heap.size ≤ G ∧ Boxed w4 G #[.int .i64 net, .int .i64 bits, .int .i64 t, .int .i64 bits, .int .i64 net, .int .i64 (bits - 1)] 67 := hp 7 42 (by decide) rfl
        obtain ⟨B, eB, hlB, hbB⟩ : ∃ B, a.tmps.getD 8 undef = .pointer (some ⟨B, 0, none⟩) ∧ W3.heap.size ≤ B ∧ Boxed w4 B #[.slice none 0 0] 70 := hp 8 8 (by decide) rfl
        have cB : w4.cell? ⟨B, 0, none⟩ = some (.slice none 0 0) := hbB.cell 0 rfl
        have iB := hbB.ice 0
        have eG' : a.tmps[42]?.getD undef = .slice (some ⟨G, 0, none⟩) 3 3 := by simpa using eG
        have eB' : a.tmps[8]?.getD undef = .pointer (some ⟨B, 0, none⟩) := by simpa using eB
        refine ⟨rfl, ?_⟩
        unfold Oper.wp
        simp [go_sem, eG', eB', cB, iB]
        have ha : a = { tmps := #[.map (some b), .slice (some ⟨b1, o1, none⟩) len cap, undef, undef, .slice none 0 0, .int .i64 (N : Int), .pointer (some ⟨B6, 0, none⟩), .pointer (some ⟨B6 + 1, 0, none⟩), a.tmps.getD 8 undef, undef, undef, undef, .map (some b), .slice (some ⟨b1, o1, none⟩) len cap, .tuple #[], .slice (some ⟨b1, o1, none⟩) len cap, .map (some b), .func (.func 53) #[.map (some b)] #[], .int .i64 (N : Int), .int .i64 (N : Int), .bool (decide ((N : Int) < 0)), undef, undef, .slice (some ⟨b1, o1, none⟩) len cap, .int .i64 (N : Int), .pointer (some ⟨b1, o1 + N * 3, none⟩), .agg #[.int .i64 net, .int .i64 bits, .int .i64 hop], .pointer (some ⟨B6, 0, none⟩), .int .i64 net, .pointer (some ⟨B6, 1, none⟩), .int .i64 bits, .int .i64 (bits - 1), .pointer (some ⟨B6, 2, none⟩), .int .i64 hop, .agg #[.int .i64 net, .int .i64 (bits - 1), .int .i64 hop], a.tmps.getD 35 undef, a.tmps.getD 36 undef, a.tmps.getD 37 undef, a.tmps.getD 38 undef, a.tmps.getD 39 undef, a.tmps.getD 40 undef, a.tmps.getD 41 undef, a.tmps.getD 42 undef, undef, undef, undef, undef, undef, undef, undef, undef, undef, undef, undef, undef, undef, undef, undef], defers := [] } := hk.act.trans (by kernel_rfl)
        rw [eB] at ha
        have hGB : G ≠ B := by
          intro e
          subst e
          unfold Boxed at hbG hbB
          rw [hbG] at hbB
          simp at hbB
        have HF : Hid (∃ B' G' : Nat, Value.pointer (some ⟨B, 0, none⟩) = .pointer (some ⟨B', 0, none⟩) ∧ W3.heap.size ≤ B' ∧ W3.heap.size ≤ G' ∧ Boxed (w4.setCell ⟨B, 0, none⟩ (.slice (some ⟨G, 0, none⟩) 3 3)) B' #[.slice (some ⟨G', 0, none⟩) 3 3] 70 ∧ Boxed (w4.setCell ⟨B, 0, none⟩ (.slice (some ⟨G, 0, none⟩) 3 3)) G' #[.int .i64 net, .int .i64 bits, .int .i64 t, .int .i64 bits, .int .i64 net, .int .i64 (bits - 1)] 67 ∧ Below W3.heap.size W3 (w4.setCell ⟨B, 0, none⟩ (.slice (some ⟨G, 0, none⟩) 3 3))) :=
          ⟨B, G, rfl, hlB, hlG, hbB.put 0 _, hbG.far hGB 0 _, hI.setCell hlB _⟩
        clear hk hp eG eB eG' eB' cB iB
        generalize w4.setCell ⟨B, 0, none⟩ (.slice (some ⟨G, 0, none⟩) 3 3) = w5 at HF ⊢
        generalize a.tmps.getD 35 undef = u35 at ha
        generalize a.tmps.getD 36 undef = u36 at ha
        generalize a.tmps.getD 37 undef = u37 at ha
        generalize a.tmps.getD 38 undef = u38 at ha
        generalize a.tmps.getD 39 undef = u39 at ha
        generalize a.tmps.getD 40 undef = u40 at ha
        generalize a.tmps.getD 41 undef = u41 at ha
        generalize a.tmps.getD 42 undef = u42 at ha
        rw [ha]
        clear ha
        go_wp2_with fail
        go_meet
        exact HF.out
    case rest =>
      obtain ⟨B8, G, rfl, hlB, hlG, xB, xG, bc⟩ := hcut.out
      have bwc : Below w2.heap.size w2 wc := H3.out.2.2.1.trans (bc.mono H3.out.2.2.1.size)
      have H4 : Hid (RtsAt wc (some ⟨b1, o1, none⟩) l ∧ HMap wc b len (gOf l) ∧ w.grownBy wc (some b) ∧ Boxed wc (B6 + 1) #[.int .i64 net, .int .i64 (bits - 1), .int .i64 hop] 53 ∧ w.heap.size ≤ wc.heap.size) :=
        ⟨H2.out.2.2.below bwc, H2.out.1.kept (bwc.block _ H2.out.1.lt), H2.out.2.1.trans (grown_below bwc), H3.out.2.1.below H3.out.2.1.under bc, Nat.le_trans H2.out.2.1.size bwc.size⟩
      have HD : Hid (∀ a2 cap2 x, wc.heap.size ≤ x.heap.size → Below wc.heap.size wc x → RRow wc.heap.size x (.slice a2 len cap2) l → Calls Try.prog 57 #[.slice a2 len cap2, .func (.func 58) #[] #[.pointer (some ⟨B8, 0, none⟩)]] x fun e w' => (∃ v', e = .returned v' ∧ RRow wc.heap.size w' v' (restL l ⟨net, bits, hop⟩)) ∧ Below wc.heap.size x w') := by
        intro a2 cap2 x hx bx hr
        have e3 : goneL ⟨net, bits, hop⟩ = [(net, bits), (t, bits), (net, bits - 1)] := by unfold goneL; simp only []; rw [Ht.out]
        have hpl : PlsAt x G (goneL ⟨net, bits, hop⟩) := by
          have xG' := xG.below xG.under bx
          rw [e3]
          intro k hk
          match k, hk with
          | 0, _ => exact ⟨xG'.cell 0 rfl, xG'.cell 1 rfl⟩
          | 1, _ => exact ⟨xG'.cell 2 rfl, xG'.cell 3 rfl⟩
          | 2, _ => exact ⟨xG'.cell 4 rfl, xG'.cell 5 rfl⟩
        have := implDeleteF wc.heap.size a2 cap2 l 58 #[] #[.pointer (some ⟨B8, 0, none⟩)] (fun k => k = B8 ∨ k = G) (fun _ => True) (fun r => decide ((r.net, r.bits) ∈ goneL ⟨net, bits, hop⟩)) x (by rw [Hlen.out]; exact h64) hx (by show RRow _ _ _ _; rw [Hlen.out]; exact hr) (fun _ _ => trivial) (by rintro k (rfl | rfl) <;> first | exact xB.under | exact xG.under) (goneTells G (goneL ⟨net, bits, hop⟩) rfl B8 x (xB.below xB.under bx) (Nat.lt_of_lt_of_le xG.under hx) hpl)
        rw [Hlen.out] at this
        exact this
      have hrl : (restL l ⟨net, bits, hop⟩).length ≤ 64 := by
        have := List.length_filter_le (fun x : Rt => !decide ((x.net, x.bits) ∈ goneL ⟨net, bits, hop⟩)) l
        unfold restL
        have := Hlen.out
        omega
      have hrs : Hid ((restL l ⟨net, bits, hop⟩).Pairwise fun a b => a.lt b = true) := hf.sorted.filter _
      have HI : Hid (insL (restL l ⟨net, bits, hop⟩) ⟨net, bits - 1, hop⟩ = pairL l) := HP.out.is.symm
      have SE : Hid (∀ a2 cap2 x, RtsAt x a2 (restL l ⟨net, bits, hop⟩) → Calls Try.prog 60 #[.slice a2 (restL l ⟨net, bits, hop⟩).length cap2, .agg #[.int .i64 net, .int .i64 (bits - 1), .int .i64 hop], .func (.func 48) #[] #[]] x fun e w' => e = .returned (.tuple #[.int .i64 (insN (restL l ⟨net, bits, hop⟩) ⟨net, bits - 1, hop⟩ : Int), .bool (thereB (restL l ⟨net, bits, hop⟩) ⟨net, bits - 1, hop⟩)]) ∧ Below x.heap.size x w') :=
        fun a2 cap2 x hx => implSearch a2 cap2 (restL l ⟨net, bits, hop⟩) ⟨net, bits - 1, hop⟩ x hrl hrs hx
      have IN : Hid (∀ base a2 cap2 vb x, base ≤ x.heap.size → (∀ g, a2 = some ⟨g, 0, none⟩ → vb ≠ g) → RRow base x (.slice a2 (restL l ⟨net, bits, hop⟩).length cap2) (restL l ⟨net, bits, hop⟩) → Boxed x vb #[.int .i64 net, .int .i64 (bits - 1), .int .i64 hop] 53 → Calls Try.prog 61 #[.slice a2 (restL l ⟨net, bits, hop⟩).length cap2, .int .i64 (insN (restL l ⟨net, bits, hop⟩) ⟨net, bits - 1, hop⟩ : Int), .slice (some ⟨vb, 0, none⟩) 1 1] x fun e w' => (∃ v, e = .returned v ∧ RRow base w' v (pairL l)) ∧ Below base x w') := by
        intro base a2 cap2 vb x hb hv hr hx
        rw [← HI.out]
        exact implInsert base a2 cap2 vb (restL l ⟨net, bits, hop⟩) (insN (restL l ⟨net, bits, hop⟩) ⟨net, bits - 1, hop⟩) ⟨net, bits - 1, hop⟩ x (by omega) (insN_le _ _) hb hv hr hx
      have SH : Hid (∀ base x v, RRow base x v (restL l ⟨net, bits, hop⟩) → ∃ a2 c2, v = .slice a2 (restL l ⟨net, bits, hop⟩).length c2) := fun base x v hr => hr.shape
      have AT : Hid (∀ base x a2 c2, RRow base x (.slice a2 (restL l ⟨net, bits, hop⟩).length c2) (restL l ⟨net, bits, hop⟩) → RtsAt x a2 (restL l ⟨net, bits, hop⟩)) := fun base x a2 c2 hr => hr.at
      have SHL : Hid (∀ base x v, RRow base x v l → ∃ a2 c2, v = .slice a2 len c2) := by
        intro base x v hr
        obtain ⟨a2, c2, e⟩ := hr.shape
        rw [Hlen.out] at e
        exact ⟨a2, c2, e⟩
      generalize restL l ⟨net, bits, hop⟩ = R at HD SE IN SH AT
      generalize insN R ⟨net, bits - 1, hop⟩ = K at SE IN
      generalize thereB R ⟨net, bits - 1, hop⟩ = tb at SE
      generalize R.length = rl at SE IN SH AT
      clear hrl hrs HI xB xG bc bwc hcut hlB hlG Ht HT' HPl' H2 HP Hmem Hrt
      go_wp2_with fail
      refine (CL'.out _ H4.out.1).mono ?_
      rintro e w5 ⟨v5, rfl, r5, b5⟩
      obtain ⟨a5, c5, rfl⟩ := SHL.out _ _ _ r5
      have D5 := HD.out _ _ _ b5.size b5 r5
      have H5 : Hid (Below wc.heap.size wc w5) := b5
      clear r5 b5
      go_wp2_with fail
      refine D5.mono ?_
      rintro e w6 ⟨⟨v6, rfl, r6⟩, b6⟩
      obtain ⟨a6, c6, rfl⟩ := SH.out _ _ _ r6
      have H6 : Hid (RRow wc.heap.size w6 (.slice a6 rl c6) R ∧ Below wc.heap.size wc w6 ∧ Boxed w6 (B6 + 1) #[.int .i64 net, .int .i64 (bits - 1), .int .i64 hop] 53) := ⟨r6, H5.out.trans b6, H4.out.2.2.2.1.below H4.out.2.2.2.1.under (H5.out.trans b6)⟩
      clear r6 b6 D5 H5
      have k0 : w6.cell? ⟨B6 + 1, 0, none⟩ = some (.int .i64 net) := H6.out.2.2.cell 0 rfl
      have k1 : w6.cell? ⟨B6 + 1, 1, none⟩ = some (.int .i64 (bits - 1)) := H6.out.2.2.cell 1 rfl
      have k2 : w6.cell? ⟨B6 + 1, 2, none⟩ = some (.int .i64 hop) := H6.out.2.2.cell 2 rfl
      go_wp2_with fail
      refine (SE.out _ _ _ (AT.out _ _ _ _ H6.out.1)).mono ?_
      rintro e w7 ⟨rfl, b7⟩
      have H7 : Hid (RRow wc.heap.size w7 (.slice a6 rl c6) R ∧ Below wc.heap.size wc w7 ∧ Boxed w7 (B6 + 1) #[.int .i64 net, .int .i64 (bits - 1), .int .i64 hop] 53) := ⟨H6.out.1.below (fun k hk => (H6.out.1.lt k hk).2) b7, H6.out.2.1.trans (b7.mono H6.out.2.1.size), H6.out.2.2.below H6.out.2.2.under b7⟩
      clear b7 H6 k0 k1 k2
      have k0 : w7.cell? ⟨B6 + 1, 0, none⟩ = some (.int .i64 net) := H7.out.2.2.cell 0 rfl
      have k1 : w7.cell? ⟨B6 + 1, 1, none⟩ = some (.int .i64 (bits - 1)) := H7.out.2.2.cell 1 rfl
      have k2 : w7.cell? ⟨B6 + 1, 2, none⟩ = some (.int .i64 hop) := H7.out.2.2.cell 2 rfl
      go_wp2_with fail
      refine (IN.out wc.heap.size _ _ _ _ (by have := H7.out.2.1.size; simp; omega) (fun g hg e => by subst hg; have := (H7.out.1.lt g rfl).2; omega) (H7.out.1.alloc _) (Boxed.new _ _ _)).mono ?_
      rintro e w8 ⟨⟨v8, rfl, r8⟩, b8⟩
      have H8 : Hid (RRow w.heap.size w8 v8 (pairL l) ∧ (∃ n' g', HMap w8 b n' g') ∧ w.grownBy w8 (some b)) := by
        have q : Below wc.heap.size wc w8 := (H7.out.2.1.alloc H7.out.2.1.size _).trans b8
        exact ⟨r8.mono H4.out.2.2.2.2, ⟨_, _, H4.out.2.1.kept (q.block _ H4.out.2.1.lt)⟩, H4.out.2.2.1.trans (grown_below q)⟩
      clear r8 b8
      go_wp2
      go_ret
      exact ⟨⟨_, rfl, H8.out.1⟩, H8.out.2⟩
  · rw [hP]
    obtain ⟨N, hN⟩ : ∃ N, pairN l = N := ⟨_, rfl⟩
    simp only [hN] at IX
    rw [hN] at hlt
    rw [if_neg hlt] at IX
    clear hN
    generalize l.length = len at IX L' CL' ⊢
    go_enter Try.func30, Try.ntmps30
    go_wp2_with fail
    refine (L'.out _ h.out hm.out).mono ?_
    rintro e w1 ⟨rfl, m1, g1⟩
    have H1 : Hid (HMap w1 b len (gOf l) ∧ w.grownBy w1 (some b) ∧ RtsAt w1 a l) := ⟨m1, g1, h.out.off hm.out g1⟩
    clear m1 g1 L'
    go_wp2_with fail
    refine (IX.out _ _ H1.out.2.2 H1.out.1).mono ?_
    rintro e w2 ⟨rfl, b2⟩
    have H2 : Hid (HMap w2 b len (gOf l) ∧ w.grownBy w2 (some b) ∧ RtsAt w2 a l) := ⟨H1.out.1.kept (b2.block _ H1.out.1.lt), H1.out.2.1.trans (grown_below b2), H1.out.2.2.below b2⟩
    clear b2 H1 IX
    go_wp2_with fail
    refine (CL'.out _ H2.out.2.2).mono ?_
    rintro e w3 ⟨v3, rfl, r3, b3⟩
    have H3 : Hid (RRow w.heap.size w3 v3 l ∧ (∃ n' g', HMap w3 b n' g') ∧ w.grownBy w3 (some b)) := ⟨r3.mono H2.out.2.1.size, ⟨_, _, H2.out.1.kept (b3.block _ H2.out.1.lt)⟩, H2.out.2.1.trans (grown_below b3)⟩
    clear r3 b3
    go_wp2
    go_ret
    exact ⟨⟨_, rfl, H3.out.1⟩, H3.out.2⟩

/-- What Paired answers. -/
def pairV (l : List Rt) : List Rt := if rtsOk l = true then pairL l else []

set_option maxHeartbeats 1600000 in
theorem implPair (a : Option Addr) (cap : Nat) (l : List Rt) (w : World) (hT : l.length ≤ 1048576) (hn : a = none → cap = 0) (h : Hid (RtsAt w a l)) :
    Calls Try.prog 12 #[.slice a l.length cap] w fun e w' => (∃ v', e = .returned v' ∧ RRow w.heap.size w' v' (pairV l)) ∧ Below w.heap.size w w' := by
  have C := fun w h => implOk a cap l w hT h
  unfold pairV
  cases hok : rtsOk l
  · simp only [Bool.false_eq_true, if_false]
    rw [hok] at C
    have C' : Hid _ := C
    clear C hok
    generalize l.length = len at C' ⊢
    go_enter Try.func12, Try.ntmps12
    go_wp2_with fail
    refine (C'.out _ h).mono ?_
    rintro e w1 ⟨rfl, b1⟩
    have B : Hid (Below w.heap.size w w1) := b1
    clear b1
    go_wp2
    go_ret
    exact ⟨⟨_, rfl, row_built _ _ B.out.size⟩, B.out.alloc B.out.size _⟩
  · simp only [if_true]
    rw [hok] at C
    have T := fun b n g w h hm => implPairH a cap l b n g w hok hn h hm
    have T' : Hid _ := T
    have C' : Hid _ := C
    clear C T hok
    generalize l.length = len at C' T' ⊢
    have hmm := @run_makeMap Try.prog
    go_enter Try.func12, Try.ntmps12
    go_wp2_with fail
    refine (C'.out _ h).mono ?_
    rintro e w1 ⟨rfl, b1⟩
    have B : Hid (Below w.heap.size w w1) := b1
    clear b1
    go_wp2_with fail
    refine (T'.out _ _ _ _ ((h.out.below B.out).alloc _) (HMap.made _)).mono ?_
    rintro e w2 ⟨⟨v2, rfl, r2⟩, _, g2⟩
    have X : Hid (RRow w.heap.size w2 v2 (pairL l) ∧ Below w.heap.size w w2) := ⟨r2.mono (by have := B.out.size; simp; omega), (B.out.alloc B.out.size _).grown g2 (by have := B.out.size; simp; omega) (by rintro k e; cases e; exact B.out.size)⟩
    clear r2 g2
    go_wp2
    go_ret
    exact ⟨⟨_, rfl, X.out.1⟩, X.out.2⟩
end Go.Proofs.Ytilnjmpnhadidaa
