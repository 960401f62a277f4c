/-
  The model's drawing of a tree. By the verifier.
-/
import Derived.Test.YtfdapmchpikfiaaNdApp
import Derived.Test.YtfdapmchpikfiaaNdWhere
import Derived.Test.YtfdapmchpikfiaaNdCells
import Derived.Test.YtfdapmchpikfiaaAppZero
import Derived.Test.YtfdapmchpikfiaaDrawRec
import Derived.Test.YtfdapmchpikfiaaDrawFrom
import Derived.Test.YtfdapmchpikfiaaPzDrawP
import Derived.Test.YtfdapmchpikfiaaStepRow
import Derived.Deep.DeepCutAuto
namespace Go.Proofs.Ytfdapmchpikfiaa
open Go.RowKit

/-- What lies while a tree is drawn: its nodes so far, the cursor. -/
structure NtL (W : World) (bc : Nat) (ac : Option Addr) (len cap : Nat) (w : World) (v : Value) (l : List Nd) (x : World) : Prop where
  row : NdRow w.heap.size x v l
  cur : Cur W bc ac len cap x
  kp : Keep bc w x
  bl : bc < w.heap.size
/-- And a node in a variable. -/
structure NtX (W : World) (bc : Nat) (ac : Option Addr) (len cap : Nat) (w : World) (v : Value) (l : List Nd) (B : Nat) (cs : Array Value) (x : World) : Prop where
  tl : NtL W bc ac len cap w v l x
  box : Boxed x B cs 40
  lo : w.heap.size ≤ B
  ne : v.ownBlock ≠ some B
section
variable {W : World} {bc : Nat} {ac : Option Addr} {len cap : Nat} {w : World} {v : Value} {l : List Nd} {x x' : World} {B : Nat} {cs cs' : Array Value}
theorem NtL.draw (h : NtL W bc ac len cap w v l x) (c : Cur W bc ac len cap x') (k : Keep bc x x') : NtL W bc ac len cap w v l x' := by
  have h0 := h.bl
  exact ⟨h.row.carry (fun g hg hl => k.block g (by have := (h.row.lt g hg).1; omega) hl), c, h.kp.trans k, h.bl⟩
theorem NtL.below (h : NtL W bc ac len cap w v l x) (g : Below x.heap.size x x') : NtL W bc ac len cap w v l x' :=
  ⟨h.row.carry (fun k _ hl => g.block k hl), h.cur.below h.cur.lt g, h.kp.trans ⟨g.size, fun k _ hk => g.block k hk⟩, h.bl⟩
theorem NtL.grown {v' : Value} {l' : List Nd} (h : NtL W bc ac len cap w v l x) (r : NdRow w.heap.size x' v' l') (g : Below w.heap.size x x') : NtL W bc ac len cap w v' l' x' :=
  ⟨r, h.cur.below h.bl g, ⟨Nat.le_trans h.kp.size g.size, fun k hk hl => (g.block k hl).trans (h.kp.block k hk hl)⟩, h.bl⟩
theorem NtL.size (h : NtL W bc ac len cap w v l x) : w.heap.size ≤ x.heap.size := h.kp.size
theorem NtX.draw (h : NtX W bc ac len cap w v l B cs x) (c : Cur W bc ac len cap x') (k : Keep bc x x') : NtX W bc ac len cap w v l B cs x' := by
  have h0 := h.tl.bl
  have h1 := h.lo
  exact ⟨h.tl.draw c k, h.box.keep (by omega) k, h.lo, h.ne⟩
theorem NtX.put (h : NtX W bc ac len cap w v l B cs x) (j : Nat) (u : Value) (hr : cs.setIfInBounds j u = cs') : NtX W bc ac len cap w v l B cs' (x.setCell ⟨B, j, none⟩ u) :=
  ⟨h.tl.grown (h.tl.row.carry fun g hg _ => Below.heap_setCell _ _ _ _ (fun e => h.ne (by have e' : g = B := e; rw [← e']; exact hg))) ((Below.refl _ _).setCell (p := ⟨B, j, none⟩) h.lo _), by rw [← hr]; exact h.box.put j u, h.lo, h.ne⟩
theorem NtX.new (h : NtL W bc ac len cap w v l x) (z : Array Value) : NtX W bc ac len cap w v l x.heap.size cs ((x.alloc (.cells z 40)).setRow x.heap.size cs) :=
  ⟨h.below (below_setRow ((Below.refl _ _).alloc (Nat.le_refl _) _) (Nat.le_refl _) _), setRow_heap _ _ _ _ _ _ (Boxed.new _ _ _), h.size, fun e => by have := (h.row.lt _ e).2; omega⟩
end
theorem zerosNd (k : Nat) : (Builtin.zeroCells (Value.cells (.agg #[.int .i64 0, .int .i64 0, .int .i64 0, .int .i64 0, .int .i64 0])) k).toList = ndcells (List.replicate k ⟨0, 0, 0, 0, 0⟩) := ndMade k
theorem nd_list_zeros {ops : Array Oper} {rest : List Oper} {o : Oper} {a : Act} {w : World} {Q : Exit → Act → World → Prop} (hgd : o.guard = none) (s x : Operand)
    (ho : o.op = .call { callee := .builtin .append, args := #[s, x], argTypes := #[24, 3] })
    (base g n cap : Nat) (L : List Nd) (k : Nat) (hs : a.eval s = .slice (some ⟨g, 0, none⟩) n cap) (hn : L.length = n) (hrow : NdRow base w (.slice (some ⟨g, 0, none⟩) n cap) L) (hx : a.eval x = .int .i64 k) (hk : 0 < k)
    (hlen : n + k ≤ 1048576) (hb : base ≤ w.heap.size)
    (h : ∀ v' w', NdRow base w' v' (L ++ List.replicate k ⟨0, 0, 0, 0, 0⟩) → Below base w w' → wpList Try.prog ops Q rest (a.put o.dst v') w') :
    wpList Try.prog ops Q (o :: rest) a w := by
  subst hn
  obtain ⟨i0, hi, hz0, hz1, hz2⟩ := info_parts ndInfo
  refine wpList_plain hgd fun K hK => ?_
  obtain ⟨v', w', hrun, h1, h2⟩ := run_zeros_own (P := Try.prog) w base 24 3 o.type 40 i0 _ .i64 .i64 5 40 Try.underlying24 Try.underlying3 hi hz0 hz1 hz2 rfl (by decide) g L.length cap _ hrow k hk
    (by rw [zerosNd]; exact ndcells_one _) (by unfold maxLen; omega) (by omega) hb
  rw [zerosNd] at h1
  unfold Oper.wp
  simp [execOp, ho, resolve, invoke, builtin, hs, hx, hrun, Result.andThen]
  refine hK _ _ (h v' w' ?_ ((Below.refl base w).grown h2 hb (fun j hj => by cases hj; exact (hrow.lt g rfl).1)))
  unfold NdRow
  rw [List.length_append, List.length_replicate, ndcells_append]
  exact h1

set_option maxHeartbeats 6400000 in
set_option maxRecDepth 100000 in
theorem drawTree {W : World} {bc : Nat} {a : Option Addr} {len cap : Nat} (hc : Hid (Code W a len)) (w : World) (cur : Hid (Cur W bc a len cap w)) :
    Calls Try.prog 34 #[.pointer (some ⟨bc, 0, none⟩)] w fun e w' => (∃ v l, e = .returned v ∧ NdRow w.heap.size w' v l ∧ l.length ≤ 17) ∧ Cur W bc a len cap w' ∧ Keep bc w w' := by
  have hbc := cur.out.lt
  go_enter Try.func34, Try.ntmps34
  go_upto_region 2 with fail
  have X0 : Hid (NtL W bc a len cap w (.slice (some ⟨w.heap.size, 0, none⟩) 0 0) [] (w.alloc (.cells #[] 40))) := ⟨nd_built w _ (Nat.le_refl _), cur.out.alloc _, (Keep.refl _ _).alloc _, hbc⟩
  generalize w.alloc (.cells #[] 40) = w0 at X0 ⊢
  go_wp2_with fail
  refine (drawBelow hc 20 (by omega) _ X0.out.cur).mono ?_
  rintro e w1 ⟨⟨tm, rfl, tm0, tm1⟩, c1, k1⟩
  have X1 : Hid (NtL W bc a len cap w (.slice (some ⟨w.heap.size, 0, none⟩) 0 0) [] w1) := X0.out.draw c1 k1
  clear c1 k1 X0
  go_wp2_with fail
  go_loopw [3, 5, 6] (fun s3 s5 _ wr => ∃ (i : Nat) (l : List Nd) (oa : Option Addr) (oc : Nat), s5 = .int .i64 (i : Int) ∧ s3 = .slice oa i oc ∧ i ≤ 5 ∧ Hid (l.length = i ∧ NtL W bc a len cap w (.slice oa i oc) l wr)) (fun _ s5 _ _ => 5 - (intOf s5).toNat)
  case atStart => exact ⟨0, [], _, _, rfl, rfl, by omega, rfl, X1.out⟩
  case round =>
    obtain ⟨i, l, oa, oc, rfl, rfl, hi, HK⟩ := hrel
    clear X1
    obtain ⟨wo, rfl⟩ : ∃ wo, wo = wr := ⟨_, rfl⟩
    go_wp2_with fail
    refine (drawBelow hc 5 (by omega) _ HK.out.2.cur).mono ?_
    rintro e w2 ⟨⟨y, rfl, y0, y1⟩, c2, k2⟩
    have H2 : Hid (l.length = i ∧ NtL W bc a len cap w (.slice oa i oc) l w2) := ⟨HK.out.1, HK.out.2.draw c2 k2⟩
    clear c2 k2 HK
    by_cases hlt : (i : Int) < 1 + y
    · have hi4 : i ≤ 4 := by omega
      go_wp2_with fail
      refine (drawBelow hc 8 (by omega) _ H2.out.2.cur).mono ?_
      rintro e w3 ⟨⟨r, rfl, r0, r1⟩, c3, k3⟩
      have H3 : Hid (l.length = i ∧ NtL W bc a len cap w (.slice oa i oc) l w3) := ⟨H2.out.1, H2.out.2.draw c3 k3⟩
      clear c3 k3 H2
      go_wp2_with fail
      refine (drawBelow hc 90 (by omega) _ H3.out.2.cur).mono ?_
      rintro e w4 ⟨⟨b, rfl, b0, b1⟩, c4, k4⟩
      have H4 : Hid (l.length = i ∧ NtL W bc a len cap w (.slice oa i oc) l w4) := ⟨H3.out.1, H3.out.2.draw c4 k4⟩
      clear c4 k4 H3
      have wb : IntKind.i64.wrap (20 + b) = 20 + b := by rw [IntKind.wrap_i64]; omega
      have wb2 : IntKind.i64.wrap (20 + b + 1) = 20 + b + 1 := by rw [IntKind.wrap_i64]; omega
      have N1 : Hid (Boxed (w4.alloc (.cells #[.int .i64 0, .int .i64 0, .int .i64 0, .int .i64 0, .int .i64 0] 40)) w4.heap.size #[.int .i64 0, .int .i64 0, .int .i64 0, .int .i64 0, .int .i64 0] 40) := Boxed.new _ _ _
      have X5 : Hid (NtX W bc a len cap w (.slice oa i oc) l w4.heap.size #[.int .i64 (-1), .int .i64 r, .int .i64 (20 + b), .int .i64 0, .int .i64 tm] ((w4.alloc (.cells #[.int .i64 0, .int .i64 0, .int .i64 0, .int .i64 0, .int .i64 0] 40)).setRow w4.heap.size #[.int .i64 (-1), .int .i64 r, .int .i64 (20 + b), .int .i64 0, .int .i64 tm])) := NtX.new H4.out.2 _
      go_upto_region 7 with (refine wpList_store_row rfl 40 (.tmp 6) (.tmp 25) rfl w4.heap.size #[.int .i64 (-1), .int .i64 r, .int .i64 (20 + b), .int .i64 0, .int .i64 tm] rfl rfl _ _ N1.out (by kernel_rfl) rfl (ndOnes _ _ _ _ _) ?_)
      simp only [Act.put]
      generalize (w4.alloc (.cells #[.int .i64 0, .int .i64 0, .int .i64 0, .int .i64 0, .int .i64 0] 40)).setRow w4.heap.size #[.int .i64 (-1), .int .i64 r, .int .i64 (20 + b), .int .i64 0, .int .i64 tm] = w5 at X5 ⊢
      have Hl : Hid (l.length = i) := H4.out.1
      clear N1 H4
      generalize w4.heap.size = B at X5 ⊢
      have f2 : w5.cell? ⟨B, 2, none⟩ = some (.int .i64 (20 + b)) := X5.out.box.cell 2 rfl
      go_wp2_with fail
      refine (drawBelow hc (20 + b + 1) (by omega) _ X5.out.tl.cur).mono ?_
      rintro e w6 ⟨⟨lv, rfl, lv0, lv1⟩, c6, k6⟩
      have X6 : Hid (NtX W bc a len cap w (.slice oa i oc) l B #[.int .i64 (-1), .int .i64 r, .int .i64 (20 + b), .int .i64 0, .int .i64 tm] w6) := X5.out.draw c6 k6
      clear c6 k6 X5 f2
      have g3 : w6.cell? ⟨B, 3, none⟩ = some (.int .i64 0) := X6.out.box.cell 3 rfl
      have i3 := X6.out.box.ice 3
      have hBl : B < w6.heap.size := X6.out.box.under
      have X7 : Hid (NtX W bc a len cap w (.slice oa i oc) l B #[.int .i64 (-1), .int .i64 r, .int .i64 (20 + b), .int .i64 lv, .int .i64 tm] (w6.setCell ⟨B, 3, none⟩ (.int .i64 lv))) := X6.out.put 3 _ rfl
      go_upto_region 8 with fail
      generalize w6.setCell ⟨B, 3, none⟩ (.int .i64 lv) = w7 at X7 ⊢
      clear X6 g3 i3 hBl
      generalize 20 + b = bb at X7 wb wb2 lv1 ⊢
      by_cases hi0 : i = 0
      · subst hi0
        have NB : Hid (Boxed (w7.alloc (.cells #[.int .i64 (-1), .int .i64 r, .int .i64 bb, .int .i64 lv, .int .i64 tm] 40)) w7.heap.size #[.int .i64 (-1), .int .i64 r, .int .i64 bb, .int .i64 lv, .int .i64 tm] 40 ∧ NdRow w.heap.size (w7.alloc (.cells #[.int .i64 (-1), .int .i64 r, .int .i64 bb, .int .i64 lv, .int .i64 tm] 40)) (.slice oa 0 oc) l ∧ w.heap.size ≤ (w7.alloc (.cells #[.int .i64 (-1), .int .i64 r, .int .i64 bb, .int .i64 lv, .int .i64 tm] 40)).heap.size) := ⟨Boxed.new _ _ _, X7.out.tl.row.alloc _, by have := X7.out.tl.size; simp; omega⟩
        have Up : Hid (∀ v' x', NdRow w.heap.size x' v' (l ++ [Nd.mk (-1) ⟨r, bb, lv, tm⟩]) → Below w.heap.size (w7.alloc (.cells #[.int .i64 (-1), .int .i64 r, .int .i64 bb, .int .i64 lv, .int .i64 tm] 40)) x' → ∃ p q, v' = .slice p (0 + 1) q ∧ (l ++ [Nd.mk (-1) ⟨r, bb, lv, tm⟩]).length = 0 + 1 ∧ NtL W bc a len cap w (.slice p (0 + 1) q) (l ++ [Nd.mk (-1) ⟨r, bb, lv, tm⟩]) x') := fun v' x' h1 h2 => by
          obtain ⟨p, q, e⟩ := h1.shape
          have el : (l ++ [Nd.mk (-1) ⟨r, bb, lv, tm⟩]).length = 0 + 1 := by rw [List.length_append, Hl.out]; rfl
          rw [el] at e
          subst e
          exact ⟨p, q, rfl, el, (X7.out.tl.below ((Below.refl _ _).alloc (Nat.le_refl _) _)).grown h1 h2⟩
        have hl60 : Hid (l.length ≤ 1048576) := by show l.length ≤ 1048576; rw [Hl.out]; omega
        go_wp2_with (first | (refine wpList_load_row rfl 40 (.tmp 6) rfl B rfl _ _ _ _ X7.out.box Try.underlying40 rfl (by kernel_rfl) ?_) | (refine nd_list_where rfl (.tmp 40) (.tmp 42) rfl w.heap.size (.slice oa 0 oc) l (Nd.mk (-1) ⟨r, bb, lv, tm⟩) rfl NB.out.2.1 rfl NB.out.1 hl60.out NB.out.2.2 ?_; intro v' w' r1 r2 _ _; obtain ⟨p', q', rfl, U⟩ := Up.out v' w' r1 r2; have HU : Hid _ := U; clear U r1 r2))
        go_roundw
        case rel => exact ⟨0 + 1, _, p', q', by go_num, rfl, by omega, HU.out⟩
        case measure => simp [intOf] <;> omega
      · have hip : (0 : Int) < (i : Int) := by omega
        have hip2 : 0 < i := by omega
        go_wp2_with fail
        refine (drawBelow hc (i : Int) (by omega) _ X7.out.tl.cur).mono ?_
        rintro e w8 ⟨⟨u, rfl, u0, u1⟩, c8, k8⟩
        have X8 : Hid (NtX W bc a len cap w (.slice oa i oc) l B #[.int .i64 (-1), .int .i64 r, .int .i64 bb, .int .i64 lv, .int .i64 tm] w8) := X7.out.draw c8 k8
        clear c8 k8 X7
        have g0 : w8.cell? ⟨B, 0, none⟩ = some (.int .i64 (-1)) := X8.out.box.cell 0 rfl
        have i0 := X8.out.box.ice 0
        have hBl : B < w8.heap.size := X8.out.box.under
        have X9 : Hid (NtX W bc a len cap w (.slice oa i oc) l B #[.int .i64 u, .int .i64 r, .int .i64 bb, .int .i64 lv, .int .i64 tm] (w8.setCell ⟨B, 0, none⟩ (.int .i64 u))) := X8.out.put 0 _ rfl
        go_upto_region 10 with fail
        generalize w8.setCell ⟨B, 0, none⟩ (.int .i64 u) = w9 at X9 ⊢
        clear X8 g0 i0 hBl
        have NB : Hid (Boxed (w9.alloc (.cells #[.int .i64 u, .int .i64 r, .int .i64 bb, .int .i64 lv, .int .i64 tm] 40)) w9.heap.size #[.int .i64 u, .int .i64 r, .int .i64 bb, .int .i64 lv, .int .i64 tm] 40 ∧ NdRow w.heap.size (w9.alloc (.cells #[.int .i64 u, .int .i64 r, .int .i64 bb, .int .i64 lv, .int .i64 tm] 40)) (.slice oa i oc) l ∧ w.heap.size ≤ (w9.alloc (.cells #[.int .i64 u, .int .i64 r, .int .i64 bb, .int .i64 lv, .int .i64 tm] 40)).heap.size) := ⟨Boxed.new _ _ _, X9.out.tl.row.alloc _, by have := X9.out.tl.size; simp; omega⟩
        have Up : Hid (∀ v' x', NdRow w.heap.size x' v' (l ++ [Nd.mk u ⟨r, bb, lv, tm⟩]) → Below w.heap.size (w9.alloc (.cells #[.int .i64 u, .int .i64 r, .int .i64 bb, .int .i64 lv, .int .i64 tm] 40)) x' → ∃ p q, v' = .slice p (i + 1) q ∧ (l ++ [Nd.mk u ⟨r, bb, lv, tm⟩]).length = i + 1 ∧ NtL W bc a len cap w (.slice p (i + 1) q) (l ++ [Nd.mk u ⟨r, bb, lv, tm⟩]) x') := fun v' x' h1 h2 => by
          obtain ⟨p, q, e⟩ := h1.shape
          have el : (l ++ [Nd.mk u ⟨r, bb, lv, tm⟩]).length = i + 1 := by rw [List.length_append, Hl.out]; rfl
          rw [el] at e
          subst e
          exact ⟨p, q, rfl, el, (X9.out.tl.below ((Below.refl _ _).alloc (Nat.le_refl _) _)).grown h1 h2⟩
        have hl60 : Hid (l.length ≤ 1048576) := by show l.length ≤ 1048576; rw [Hl.out]; omega
        go_wp2_with (first | (refine wpList_load_row rfl 40 (.tmp 6) rfl B rfl _ _ _ _ X9.out.box Try.underlying40 rfl (by kernel_rfl) ?_) | (refine nd_list_where rfl (.tmp 40) (.tmp 42) rfl w.heap.size (.slice oa i oc) l (Nd.mk u ⟨r, bb, lv, tm⟩) rfl NB.out.2.1 rfl NB.out.1 hl60.out NB.out.2.2 ?_; intro v' w' r1 r2 _ _; obtain ⟨p', q', rfl, U⟩ := Up.out v' w' r1 r2; have HU : Hid _ := U; clear U r1 r2))
        go_roundw
        case rel => exact ⟨i + 1, _, p', q', by go_num, rfl, by omega, HU.out⟩
        case measure => simp [intOf] <;> omega
    · have hip : 0 < i := by omega
      have hlt' : decide ((i : Int) < 1 + y) = false := decide_eq_false hlt
      obtain ⟨g, hg⟩ : ∃ g, oa = some ⟨g, 0, none⟩ := by
        rcases H2.out.2.row.2 with ⟨e, _⟩ | ⟨g, cap', cur, e, _⟩
        · cases e; omega
        · cases e; exact ⟨g, rfl⟩
      subst hg
      go_wp2_with fail
      refine (drawOnce hc 14 (by omega) _ H2.out.2.cur).mono ?_
      rintro e w3 ⟨⟨bo, rfl⟩, c3, k3⟩
      have H3 : Hid (l.length = i ∧ NtL W bc a len cap w (.slice (some ⟨g, 0, none⟩) i oc) l w3) := ⟨H2.out.1, H2.out.2.draw c3 k3⟩
      clear c3 k3 H2
      cases bo
      · go_wp2
        go_ret
        exact ⟨⟨_, l, rfl, H3.out.2.row, by rw [H3.out.1]; omega⟩, H3.out.2.cur, H3.out.2.kp⟩
      go_wp2_with fail
      refine (drawBelow hc (i : Int) (by omega) _ H3.out.2.cur).mono ?_
      rintro e w4 ⟨⟨j', rfl, j0, j1⟩, c4, k4⟩
      obtain ⟨j, rfl⟩ := Int.eq_ofNat_of_zero_le j0
      have H4 : Hid (l.length = i ∧ NtL W bc a len cap w (.slice (some ⟨g, 0, none⟩) i oc) l w4) := ⟨H3.out.1, H3.out.2.draw c4 k4⟩
      clear c4 k4 H3 j0
      have hji : j < i := by omega
      go_wp2_with fail
      refine (drawBelow hc 3 (by omega) _ H4.out.2.cur).mono ?_
      rintro e w5 ⟨⟨k, rfl, k0, k1⟩, c5, k5⟩
      have H5 : Hid (l.length = i ∧ NtL W bc a len cap w (.slice (some ⟨g, 0, none⟩) i oc) l w5) := ⟨H4.out.1, H4.out.2.draw c5 k5⟩
      clear c5 k5 H4
      have hk : k = 0 ∨ k = 1 ∨ k = 2 := by omega
      have Cl : Hid (∀ x, NtL W bc a len cap w (.slice (some ⟨g, 0, none⟩) i oc) l x → x.ownsRow w.heap.size 40 5 (.slice (some ⟨g, 0, none⟩) i oc) i (ndcells l) ∧ (ndcells l).length = i * 5 ∧ w.heap.size ≤ g ∧ g < x.heap.size) := fun x h => ⟨by
          have := h.row
          unfold NdRow at this
          rw [H5.out.1] at this
          exact this, by rw [ndcells_length, H5.out.1], (h.row.lt g rfl).1, (h.row.lt g rfl).2⟩
      have St : Hid (∀ x x' l', NtL W bc a len cap w (.slice (some ⟨g, 0, none⟩) i oc) l x → x'.ownsRow w.heap.size 40 5 (.slice (some ⟨g, 0, none⟩) i oc) i (ndcells l') → l'.length = i → Below w.heap.size x x' → NtL W bc a len cap w (.slice (some ⟨g, 0, none⟩) i oc) l' x') := fun x x' l' h h1 h2 h3 => h.grown (by unfold NdRow; rw [h2]; exact h1) h3
      rcases hk with rfl | rfl | rfl
      · go_wp2_with fail
        refine (drawFrom hc (-2) 9 (by omega) (by omega) (by omega) _ H5.out.2.cur).mono ?_
        rintro e w6 ⟨⟨u, rfl, u0, u1⟩, c6, k6⟩
        have H6 : Hid (NtL W bc a len cap w (.slice (some ⟨g, 0, none⟩) i oc) l w6) := H5.out.2.draw c6 k6
        have hl : l.length = i := H5.out.1
        clear c6 k6 H5
        obtain ⟨q1, q2, q3, q4⟩ := Cl.out _ H6.out
        have F : Hid (NtL W bc a len cap w (.slice (some ⟨g, 0, none⟩) i oc) (l.set j ⟨u, (ndAt l j).pz⟩) (w6.setCell ⟨g, j * 5, none⟩ (.int .i64 u))) := St.out _ _ _ H6.out (by
          have := (q1.stored (j * 5) (.int .i64 u)).1
          rw [ndcells_up l j u (by rw [hl]; exact hji)] at this
          exact this) (by rw [List.length_set]; exact hl) ((Below.refl _ _).setCell (p := ⟨g, j * 5, none⟩) q3 _)
        obtain ⟨z0, hz0⟩ : ∃ z, w6.cell? ⟨g, j * 5, none⟩ = some z := by rw [q1.cellAt _ (by omega)]; exact ⟨_, List.getElem?_eq_getElem (by omega)⟩
        have i0 := q1.frozenAt (j * 5)
        have HL : Hid ((l.set j ⟨u, (ndAt l j).pz⟩).length ≤ 17) := by show (l.set j _).length ≤ 17; rw [List.length_set, hl]; omega
        clear q1 q2 q3 H6 Cl St hl
        go_wp2
        go_ret
        exact ⟨⟨_, _, rfl, F.out.row, HL.out⟩, F.out.cur, F.out.kp⟩
      · go_wp2_with fail
        refine (drawPurse hc _ H5.out.2.cur).mono ?_
        rintro e w6 ⟨⟨_, rfl, pz, rfl, -⟩, c6, k6⟩
        have H6 : Hid (NtL W bc a len cap w (.slice (some ⟨g, 0, none⟩) i oc) l w6) := H5.out.2.draw c6 k6
        have hl : l.length = i := H5.out.1
        clear c6 k6 H5
        obtain ⟨q1, q2, q3, q4⟩ := Cl.out _ H6.out
        have S := ((((q1.stored (j * 5 + 1) (.int .i64 pz.rate)).1.stored (j * 5 + 2) (.int .i64 pz.burst)).1.stored (j * 5 + 3) (.int .i64 pz.level)).1.stored (j * 5 + 4) (.int .i64 pz.tm)).1
        rw [ndcells_purse l j (ndAt l j).up pz (by rw [hl]; exact hji) rfl] at S
        have F : Hid (NtL W bc a len cap w (.slice (some ⟨g, 0, none⟩) i oc) (l.set j ⟨(ndAt l j).up, pz⟩) ((((w6.setCell ⟨g, j * 5 + 1, none⟩ (.int .i64 pz.rate)).setCell ⟨g, j * 5 + 2, none⟩ (.int .i64 pz.burst)).setCell ⟨g, j * 5 + 3, none⟩ (.int .i64 pz.level)).setCell ⟨g, j * 5 + 4, none⟩ (.int .i64 pz.tm))) := St.out _ _ _ H6.out S (by rw [List.length_set]; exact hl) (((((Below.refl _ _).setCell (p := ⟨g, j * 5 + 1, none⟩) q3 _).setCell (p := ⟨g, j * 5 + 2, none⟩) q3 _).setCell (p := ⟨g, j * 5 + 3, none⟩) q3 _).setCell (p := ⟨g, j * 5 + 4, none⟩) q3 _)
        have ex : ∀ n, n < i * 5 → ∃ z, w6.cell? ⟨g, n, none⟩ = some z := fun n hn => by rw [q1.cellAt _ hn]; exact ⟨_, List.getElem?_eq_getElem (by omega)⟩
        obtain ⟨z1, hz1⟩ := ex (j * 5 + 1) (by omega)
        obtain ⟨z2, hz2⟩ := ex (j * 5 + 2) (by omega)
        obtain ⟨z3, hz3⟩ := ex (j * 5 + 3) (by omega)
        obtain ⟨z4, hz4⟩ := ex (j * 5 + 4) (by omega)
        have i1 := q1.frozenAt (j * 5 + 1)
        have i2 := q1.frozenAt (j * 5 + 2)
        have i3 := q1.frozenAt (j * 5 + 3)
        have i4 := q1.frozenAt (j * 5 + 4)
        have HL : Hid ((l.set j ⟨(ndAt l j).up, pz⟩).length ≤ 17) := by show (l.set j _).length ≤ 17; rw [List.length_set, hl]; omega
        obtain ⟨p1, p2, p3, p4⟩ := pz
        simp only [Pz.val] at F HL ⊢
        clear q1 q2 q3 H6 Cl St hl ex S
        go_wp2
        go_ret
        exact ⟨⟨_, _, rfl, F.out.row, HL.out⟩, F.out.cur, F.out.kp⟩
      · have Up : Hid (∀ v' x', NdRow w.heap.size x' v' (l ++ List.replicate 12 ⟨0, 0, 0, 0, 0⟩) → Below w.heap.size w5 x' → NtL W bc a len cap w v' (l ++ List.replicate 12 ⟨0, 0, 0, 0, 0⟩) x') := fun v' x' h1 h2 => H5.out.2.grown h1 h2
        have HL : Hid ((l ++ List.replicate 12 (⟨0, 0, 0, 0, 0⟩ : Nd)).length ≤ 17) := by show (l ++ _).length ≤ 17; rw [List.length_append, List.length_replicate, H5.out.1]; omega
        go_wp2_with (refine nd_list_zeros rfl (.tmp 70) (.const (.int .i64 12)) rfl w.heap.size g i oc l 12 rfl H5.out.1 H5.out.2.row rfl (by decide) (by omega) H5.out.2.size ?_; intro v' w' r1 r2; have F : Hid _ := Up.out v' w' r1 r2; clear r1 r2)
        go_ret
        exact ⟨⟨_, _, rfl, F.out.row, HL.out⟩, F.out.cur, F.out.kp⟩
end Go.Proofs.Ytfdapmchpikfiaa
