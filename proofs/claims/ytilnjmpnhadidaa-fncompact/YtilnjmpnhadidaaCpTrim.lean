/-
  The walks of the program's Trimmed. By the verifier.
-/
import Derived.Test.YtilnjmpnhadidaaCpDel
import Derived.Test.YtilnjmpnhadidaaRtOk
import Derived.Test.YtilnjmpnhadidaaQuiet
namespace Go.Proofs.Ytilnjmpnhadidaa
open Go.RowKit Go.Maps

theorem fit_cut (net : Int) {k : Nat} (hk : k ≤ 32) (h : Int) : fitP ⟨cutV net k, (k : Int), h⟩ net := by
  unfold fitP fitB cutV
  rw [decide_eq_true_iff]
  simp only []
  rw [show (32 - (k : Int)).toNat = 32 - k by omega]
theorem cut_fit {x : Rt} {net : Int} {k : Nat} (hk : k ≤ 32) (hb : x.bits = (k : Int)) (hf : fitP x net) : x.net = cutV net k :=
  fit_same (y := ⟨cutV net k, (k : Int), 0⟩) hf (fit_cut net hk 0) hb
/-- The search from place to place finds the longest. -/
theorem up_hop {l : List Rt} (h : Fine l) (net : Int) : ∀ k : Nat, k ≤ 32 → upN (gOf l) net k = hopL (l.filter fun x => decide (x.bits < (k : Int))) net := by
  intro k
  induction k with
  | zero =>
    intro _
    rw [hop_none]
    · rfl
    · intro x hx
      obtain ⟨h1, h2⟩ := List.mem_filter.1 hx
      rw [decide_eq_true_iff] at h2
      have := h.bits x h1
      omega
  | succ k ih =>
    intro hk
    cases hg : gOf l (cutV net k) (k : Int) with
    | some z =>
      rw [upN_some hg]
      have hm := (gOf_some h.one).1 hg
      exact ((h.filter _).hop (r := ⟨cutV net k, (k : Int), z⟩) ⟨List.mem_filter.2 ⟨hm, by simp; omega⟩, fit_cut net (by omega) z, fun x hx _ => by
        have := (List.mem_filter.1 hx).2
        rw [decide_eq_true_iff] at this
        show x.bits ≤ (k : Int)
        omega⟩).symm
    | none =>
      rw [upN_none hg, ih (by omega)]
      have key : ∀ x ∈ l, fitP x net → x.bits < ((k + 1 : Nat) : Int) → x.bits < (k : Int) := by
        intro x hx hf hb
        apply Classical.byContradiction
        intro hn
        have e : x.bits = (k : Int) := by omega
        have e2 := cut_fit (by omega) e hf
        have : gOf l (cutV net k) (k : Int) = some x.hop := (gOf_some h.one).2 (by rw [← e2, ← e]; exact hx)
        rw [hg] at this
        cases this
      rcases best_or (l.filter fun x => decide (x.bits < (k : Int))) net with ⟨r, hr⟩ | hno
      · obtain ⟨m1, m2⟩ := List.mem_filter.1 hr.mem
        rw [decide_eq_true_iff] at m2
        rw [(h.filter _).hop hr]
        refine ((h.filter _).hop ⟨List.mem_filter.2 ⟨m1, by simp; omega⟩, hr.fit, fun x hx hf => ?_⟩).symm
        obtain ⟨x1, x2⟩ := List.mem_filter.1 hx
        rw [decide_eq_true_iff] at x2
        exact hr.most x (List.mem_filter.2 ⟨x1, by rw [decide_eq_true_iff]; exact key x x1 hf x2⟩) hf
      · rw [hop_none hno, hop_none]
        intro x hx hf
        obtain ⟨x1, x2⟩ := List.mem_filter.1 hx
        rw [decide_eq_true_iff] at x2
        exact hno x (List.mem_filter.2 ⟨x1, by rw [decide_eq_true_iff]; exact key x x1 hf x2⟩) hf
theorem up_above {l : List Rt} (h : Fine l) {r : Rt} (hr : r.ok = true) : upN (gOf l) r.net r.bits.toNat = aboveV l r := by
  obtain ⟨p1, _⟩ := ok_split hr
  rw [up_hop h _ _ (by omega)]
  unfold aboveV
  rw [show ((r.bits.toNat : Nat) : Int) = r.bits by omega]

set_option maxHeartbeats 1600000 in
theorem implTrimC (b n : Nat) (g : Int → Int → Option Int) (r : Rt) (hr : r.ok = true) (B : Nat) (w : World) (hB : Hid (Boxed w B #[.map (some b)] 40)) (hm : Hid (HMap w b n g)) :
    Calls Try.prog 62 #[r.val, .pointer (some ⟨B, 0, none⟩)] w fun e w' => e = .returned (.bool (decide (upN g r.net r.bits.toNat = r.hop))) ∧ Below w.heap.size w w' := by
  obtain ⟨p1, p2, p3, p4⟩ := ok_split hr
  have C := fun w => implPlace r w
  have D := fun w h => implAbove b n g p2.1 p2.2 r.bits.toNat (by omega) w h
  rw [cut_own hr, show ((r.bits.toNat : Nat) : Int) = r.bits by omega] at D
  generalize upN g r.net r.bits.toNat = z at D ⊢
  obtain ⟨net, bits, hop⟩ := r
  unfold Rt.val
  unfold Rt.val pv at C
  unfold pv at D
  simp only [] at *
  clear hr p1 p2 p3 p4
  have X : Hid (Boxed (w.alloc (.cells #[.int .i64 net, .int .i64 bits, .int .i64 hop] 53)) w.heap.size #[.int .i64 net, .int .i64 bits, .int .i64 hop] 53 ∧ Below w.heap.size w (w.alloc (.cells #[.int .i64 net, .int .i64 bits, .int .i64 hop] 53)) ∧ Boxed (w.alloc (.cells #[.int .i64 net, .int .i64 bits, .int .i64 hop] 53)) B #[.map (some b)] 40 ∧ HMap (w.alloc (.cells #[.int .i64 net, .int .i64 bits, .int .i64 hop] 53)) b n g) :=
    ⟨Boxed.new _ _ _, (Below.refl _ _).alloc (Nat.le_refl _) _, hB.out.more _, hm.out.kept (Below.heap_alloc _ _ _ hm.out.lt)⟩
  go_enter Try.func62, Try.ntmps62
  go_wp2_with fail
  obtain ⟨A, hA⟩ : ∃ A, A = w.heap.size := ⟨_, rfl⟩
  rw [← hA] at X ⊢
  have HA : Hid (A = w.heap.size) := hA
  clear hA
  generalize w.alloc (.cells #[.int .i64 net, .int .i64 bits, .int .i64 hop] 53) = w1 at X ⊢
  have f0 : ∀ p : BelW w1.heap.size w1, p.w'.cell? ⟨A, 0, none⟩ = some (.int .i64 net) := fun p => (X.out.1.below X.out.1.under p.h).cell 0 rfl
  have f1 : ∀ p : BelW w1.heap.size w1, p.w'.cell? ⟨A, 1, none⟩ = some (.int .i64 bits) := fun p => (X.out.1.below X.out.1.under p.h).cell 1 rfl
  have f2 : ∀ p : BelW w1.heap.size w1, p.w'.cell? ⟨A, 2, none⟩ = some (.int .i64 hop) := fun p => (X.out.1.below X.out.1.under p.h).cell 2 rfl
  have f3 : ∀ p : BelW w1.heap.size w1, p.w'.cell? ⟨B, 0, none⟩ = some (.map (some b)) := fun p => (X.out.2.2.1.below X.out.2.2.1.under p.h).cell 0 rfl
  have Hm : Hid (∀ p : BelW w1.heap.size w1, HMap p.w' b n g) := fun p => X.out.2.2.2.kept (p.h.block _ X.out.2.2.2.lt)
  haveI : Nonempty (BelW w1.heap.size w1) := ⟨⟨w1, Below.refl _ _⟩⟩
  refine region_below w1.heap.size (by kernel_rfl) (by kernel_rfl) ?_
  repeat (go_big_quiet_step ((first | (go_at_call 55; refine quiet_below (Nat.le_refl _) (C _)) | (go_at_call 63; refine quiet_below (Nat.le_refl _) (D _ (Hm.out _))))))
  refine wpQuiet_nil ?_
  intro wq hx
  have hq := BelW.out hx
  have HQ : Hid (Below A w wq) := by
    have := X.out.2.1
    exact this.trans (hq.mono (by rw [HA.out]; exact this.size))
  clear hx hq f0 f1 f2 f3 Hm
  go_wp2
  go_ret
  exact ⟨by by_cases e : z = hop <;> simp [e], HA.out ▸ HQ.out⟩

/-- The function that tells which are left out. -/
theorem trimTells (b n : Nat) (g : Int → Int → Option Int) (B : Nat) (w : World) (hB : Boxed w B #[.map (some b)] 40) (hm : HMap w b n g) :
    Tells w (fun k => k = B ∨ k = b) 62 #[] #[.pointer (some ⟨B, 0, none⟩)] (fun r => r.ok = true) (fun r => decide (upN g r.net r.bits.toNat = r.hop)) := by
  refine ⟨enters_of Try.func62 (by kernel_rfl) rfl, fun k hk => ?_, fun W r hr hW => ?_⟩
  · rcases hk with rfl | rfl
    · exact hB.under
    · exact hm.lt
  · have hB' : Boxed W B #[.map (some b)] 40 := (hW B (.inl rfl)).trans hB
    exact implTrimC b n g r hr B W hB' (hm.kept (hW b (.inr rfl)))
theorem trim_filter {l : List Rt} (h : Fine l) : (l.filter fun r => !decide (upN (gOf l) r.net r.bits.toNat = r.hop)) = trimL l := by
  unfold trimL
  apply List.filter_congr
  intro r hr
  rw [up_above h (h.ok r hr)]

set_option maxHeartbeats 1600000 in
theorem implTrimH (a : Option Addr) (cap : Nat) (l : List Rt) (b n : Nat) (g : Int → Int → Option Int) (w : World) (hl : Hid (rtsOk l = true)) (hn : a = none → cap = 0) (h : Hid (RtsAt w a l)) (hm : Hid (HMap w b n g)) :
    Calls Try.prog 31 #[.map (some b), .slice a l.length cap] w fun e w' => (∃ v', e = .returned v' ∧ RRow w.heap.size w' v' (trimL l)) ∧ (∃ n' g', HMap w' b n' g') ∧ w.grownBy w' (some b) := by
  have hf := fine_of hl.out
  have h64 := (ok_all hl.out).1
  have hmf : ∀ (fn : Fn) (first cap : Array Value) (w : World), (Instr.makeFunc fn first cap).run Try.prog w = .ok (.func fn first cap) w := fun _ _ _ _ => rfl
  have L := fun w h hm => implLay a cap l b n g w h64 hf.ok h hm
  have CL := fun w h => implCloneR a cap l w h hn (by omega)
  have DE := fun base a cap fn fs cb D Q p w hb h hq hD ht => implDeleteF base a cap l fn fs cb D Q p w h64 hb h hq hD ht
  have HF : Hid (∀ base a cap B w g, base ≤ w.heap.size → RRow base w (.slice a l.length cap) l → B < base → b < base → Boxed w B #[.map (some b)] 40 → HMap w b g (gOf l) →
      Calls Try.prog 57 #[.slice a l.length cap, .func (.func 62) #[] #[.pointer (some ⟨B, 0, none⟩)]] w fun e w' => (∃ v', e = .returned v' ∧ RRow base w' v' (trimL l)) ∧ Below base w w') := by
    intro base a cap B w n hb hr hB hbb hbx hmm
    have := DE base a cap _ _ _ _ _ _ w hb hr hf.ok (by rintro k (rfl | rfl) <;> assumption) (trimTells b n (gOf l) B w hbx hmm)
    rw [trim_filter hf] at this
    exact this
  have Hlen : Hid (∀ v w base, RRow base w v l → ∃ a cap, v = .slice a l.length cap) := fun v w base h => h.shape
  have L' : Hid _ := L
  have CL' : Hid _ := CL
  clear DE L CL hf h64
  obtain ⟨B, hB⟩ : ∃ B, B = w.heap.size := ⟨_, rfl⟩
  have HB : Hid (B = w.heap.size) := hB
  obtain ⟨w1, hw1⟩ : ∃ w1, w.alloc (.cells #[.map (some b)] 40) = w1 := ⟨_, rfl⟩
  have X1 : Hid (Boxed w1 B #[.map (some b)] 40 ∧ Below w.heap.size w w1 ∧ HMap w1 b n g ∧ RtsAt w1 a l ∧ w1.heap.size = B + 1 ∧ b < B) := by
    rw [← hw1, hB]
    exact ⟨Boxed.new _ _ _, (Below.refl _ _).alloc (Nat.le_refl _) _, hm.out.kept (Below.heap_alloc _ _ _ hm.out.lt), h.out.alloc _, by simp, hm.out.lt⟩
  have c1 : w1.cell? ⟨w.heap.size, 0, none⟩ = some (.map (some b)) := by rw [← hB]; exact X1.out.1.cell 0 rfl
  clear hB
  generalize l.length = len at L' CL' HF Hlen ⊢
  go_enter Try.func31, Try.ntmps31
  go_wp2_with fail
  refine (L'.out _ X1.out.2.2.2.1 X1.out.2.2.1).mono ?_
  have HB' := HB.out
  rw [← HB']
  clear HB' c1 hw1
  rintro e w2 ⟨rfl, m2, g2⟩
  have X2 : Hid (Boxed w2 B #[.map (some b)] 40 ∧ w.grownBy w2 (some b) ∧ HMap w2 b len (gOf l) ∧ RtsAt w2 a l ∧ B + 1 ≤ w2.heap.size) := by
    refine ⟨(g2.block B (by rw [X1.out.2.2.2.2.1]; omega) (by simp; have := X1.out.2.2.2.2.2; omega)).trans X1.out.1, (grown_below X1.out.2.1).trans g2, m2, X1.out.2.2.2.1.off X1.out.2.2.1 g2, by rw [← X1.out.2.2.2.2.1]; exact g2.size⟩
  clear m2 g2
  go_wp2_with fail
  refine (CL'.out _ X2.out.2.2.2.1).mono ?_
  rintro e w3 ⟨v', rfl, r3, b3⟩
  obtain ⟨a3, cap3, rfl⟩ := Hlen.out _ _ _ r3
  have D := HF.out w2.heap.size a3 cap3 B w3 len b3.size r3 (by have := X2.out.2.2.2.2; omega) X2.out.2.2.1.lt ((b3.block _ (by have := X2.out.2.2.2.2; omega)).trans X2.out.1) (X2.out.2.2.1.kept (b3.block _ X2.out.2.2.1.lt))
  have X3 : Hid (Below w2.heap.size w2 w3) := b3
  clear r3 b3
  go_wp2_with fail
  refine D.mono ?_
  rintro e w4 ⟨⟨v4, rfl, r4⟩, b4⟩
  have X4 : Hid (RRow w.heap.size w4 v4 (trimL l) ∧ (∃ n' g', HMap w4 b n' g') ∧ w.grownBy w4 (some b)) := by
    have q : Below w2.heap.size w2 w4 := X3.out.trans b4
    refine ⟨r4.mono (by have := X2.out.2.2.2.2; rw [HB.out] at this; omega), ⟨len, gOf l, X2.out.2.2.1.kept (q.block _ X2.out.2.2.1.lt)⟩, X2.out.2.1.trans (grown_below q)⟩
  clear r4 b4 D
  go_wp2
  go_ret
  exact ⟨⟨_, rfl, X4.out.1⟩, X4.out.2⟩

/-- What Trimmed answers. -/
def trimV (l : List Rt) : List Rt := if rtsOk l = true then trimL l else []

set_option maxHeartbeats 1600000 in
theorem implTrim (a : Option Addr) (cap : Nat) (l : List Rt) (w : World) (hT : l.length ≤ 1048576) (hn : a = none → cap = 0) (h : Hid (RtsAt w a l)) :
    Calls Try.prog 11 #[.slice a l.length cap] w fun e w' => (∃ v', e = .returned v' ∧ RRow w.heap.size w' v' (trimV l)) ∧ Below w.heap.size w w' := by
  have C := fun w h => implOk a cap l w hT h
  unfold trimV
  cases hok : rtsOk l
  · simp only [Bool.false_eq_true, if_false]
    rw [hok] at C
    have C' : Hid _ := C
    clear C hok
    generalize l.length = len at C' ⊢
    go_enter Try.func11, Try.ntmps11
    go_wp2_with fail
    refine (C'.out _ h).mono ?_
    rintro e w1 ⟨rfl, b1⟩
    have B : Hid (Below w.heap.size w w1) := b1
    clear b1
    go_wp2
    go_ret
    exact ⟨⟨_, rfl, row_built _ _ B.out.size⟩, B.out.alloc B.out.size _⟩
  · simp only [if_true]
    rw [hok] at C
    have T := fun b n g w h hm => implTrimH a cap l b n g w hok hn h hm
    have T' : Hid _ := T
    have C' : Hid _ := C
    clear C T hok
    generalize l.length = len at C' T' ⊢
    have hmm := @run_makeMap Try.prog
    go_enter Try.func11, Try.ntmps11
    go_wp2_with fail
    refine (C'.out _ h).mono ?_
    rintro e w1 ⟨rfl, b1⟩
    have B : Hid (Below w.heap.size w w1) := b1
    clear b1
    go_wp2_with fail
    refine (T'.out _ _ _ _ ((h.out.below B.out).alloc _) (HMap.made _)).mono ?_
    rintro e w2 ⟨⟨v2, rfl, r2⟩, _, g2⟩
    have X : Hid (RRow w.heap.size w2 v2 (trimL l) ∧ Below w.heap.size w w2) := ⟨r2.mono (by have := B.out.size; simp; omega), (B.out.alloc B.out.size _).grown g2 (by have := B.out.size; simp; omega) (by rintro k e; cases e; exact B.out.size)⟩
    clear r2 g2
    go_wp2
    go_ret
    exact ⟨⟨_, rfl, X.out.1⟩, X.out.2⟩
end Go.Proofs.Ytilnjmpnhadidaa
