/-
  The walk of the model's Queued. By the verifier, by program.
-/
import Derived.Test.YtllmkolchgmjoaaFsServedS
namespace Go.Proofs.Ytllmkolchgmjoaa
open Go.RowKit

/-- The list of one grew by one. -/
theorem queue_set {w : World} {f : Int} {a : Option Addr} {n c base B : Nat} {wa w9 : World} {g vc i : Nat} {rs : List Fwr} {ls : List Fw} {hd uv : Value} {sz : List Int} {size : Int}
    (X : SvX w f a n c base B wa) (G : FwG base (.slice (some ⟨g, 0, none⟩) ls.length vc) rs ls wa) (bx : Boxed wa B #[.int .i64 f, .slice (some ⟨g, 0, none⟩) n vc] 26) (hi : i < ls.length) (hg : base ≤ g) (ehd : (fwrAt rs i).hd = hd)
    (q1 : IRow base w9 uv (sz ++ [size])) (q2 : Below base wa w9) (q3 : wa.grownBy w9 hd.ownBlock) (q4 : uv.ownBlock = hd.ownBlock ∨ uv.ownBlock = some wa.heap.size) :
    ∃ rs', FwG base (.slice (some ⟨g, 0, none⟩) ls.length vc) rs' (ls.set i ⟨(fwAt ls i).weight, (fwAt ls i).finish, sz ++ [size]⟩) (w9.setCell ⟨g, i * 3 + 2, none⟩ uv) ∧ Boxed (w9.setCell ⟨g, i * 3 + 2, none⟩ uv) B #[.int .i64 f, .slice (some ⟨g, 0, none⟩) n vc] 26 ∧ SvX w f a n c base B (w9.setCell ⟨g, i * 3 + 2, none⟩ uv) ∧
      w9.cell? ⟨g, i * 3 + 2, none⟩ = some hd ∧ w9.frozen? ⟨g, i * 3 + 2, none⟩ = false := by
  subst ehd
  have hr := G.row i hi
  have gB : g ≠ B := fun e => row_off G.outer bx (by decide) (by rw [← e]; rfl)
  have hB : (fwrAt rs i).hd.ownBlock ≠ some B := row_off hr bx (by decide)
  have hG := G.sizes hi q1 (fun k hk hn => q3.block k hk (fun e => hn e.symm)) (fun k hk => by
    rcases q4 with q | q
    · left; rw [← q]; exact hk
    · right; rw [q] at hk; cases hk; exact Nat.le_refl _)
  have b9 : Boxed w9 B #[.int .i64 f, .slice (some ⟨g, 0, none⟩) n vc] 26 := (q3.block B bx.under (fun e => hB e.symm)).trans bx
  have hgo : w9.heap[g]? = wa.heap[g]? := q3.block g (by obtain ⟨g', c', e', _, h'⟩ := G.place hi; have e2 := (Value.slice.inj e').1; simp only [Option.some.injEq, Addr.mk.injEq] at e2; rw [e2.1]; exact h') (fun e => G.off hr e.symm)
  have C := G.cells hi
  exact ⟨_, hG, b9.far (fun e => gB e.symm) _ _, X.fr ((FrB.of q2 (Nat.le_refl _)).set (.inl hg) _), by rw [cell_kept hgo]; exact C.2.2.1, by rw [ice_kept hgo]; exact C.2.2.2 _⟩

set_option maxHeartbeats 6400000 in
set_option maxRecDepth 100000 in
theorem specQueued (d : Fs) (v : Value) (flow size : Int) (w : World) (hB : d.big ≤ 1048576) (h : Hid (FsAt w v d)) :
    Calls Try.prog 22 #[v, .int .i64 flow, .int .i64 size] w fun e w' => (∃ v', e = .returned (.tuple #[v', .bool (d.queuedB flow size)]) ∧ FsIn w.heap.size w'.heap.size w' v' (d.queued flow size)) ∧ Below w.heap.size w w' := by
  have A1 := fun v w h => specFairOk d v w hB h
  have A3 := fun a c w h => specCopyF d a c w hB h
  obtain ⟨a, c, rfl, k1⟩ := h.out
  clear h
  have Hbad : Hid (d.ok = false → d.queued flow size = ⟨0, []⟩ ∧ d.queuedB flow size = false) := fun hk => by
    unfold Fs.queued Fs.queuedB
    rw [hk]
    exact ⟨rfl, rfl⟩
  have Hno : Hid (d.ok = true → d.mayQ flow size = false → d.queued flow size = d ∧ d.queuedB flow size = false) := fun hk hn => by
    unfold Fs.queued Fs.queuedB
    rw [hk, hn]
    exact ⟨rfl, rfl⟩
  have Hyes : Hid (d.ok = true → d.mayQ flow size = true → d.queued flow size = ⟨d.now, d.flows.set flow.toNat ((fwAt d.flows flow.toNat).more d.now size)⟩ ∧ d.queuedB flow size = true) := fun hk hn => by
    unfold Fs.queued Fs.queuedB
    rw [hk, hn]
    exact ⟨rfl, rfl⟩
  have Hm : Hid (d.mayQ flow size = decide ((0 ≤ flow ∧ flow < (d.flows.length : Int)) ∧ (1 ≤ size ∧ size ≤ 2000) ∧ (fwAt d.flows flow.toNat).sizes.length ≠ 40)) := rfl
  have Ok : Hid (d.ok = true → d.flows.length ≤ 8 ∧ ∀ i, i < d.flows.length → (fwAt d.flows i).sizes.length ≤ 40) := fun hk => ⟨(Fs.ok_iff.1 hk).2.1.2, fun i hi => (Fw.ok_iff.1 (Fs.ok_at hk hi)).2.2.1⟩
  generalize d.queued flow size = R at Hbad Hno Hyes ⊢
  generalize d.queuedB flow size = RB at Hbad Hno Hyes ⊢
  have A2 : ∀ a c w, FwsAt w a d.flows → Calls Try.prog 13 #[.agg #[.int .i64 d.now, .slice a d.flows.length c]] w fun e w' => e = .returned (.bool d.ok) ∧ Below w.heap.size w w' := fun a c w h => A1 _ w ⟨a, c, rfl, h⟩
  generalize d.mayQ flow size = may at Hno Hyes Hm
  generalize d.ok = ok at A2 Ok Hbad Hno Hyes
  clear A1 hB
  obtain ⟨f, ls⟩ := d
  simp only [Fs.val] at A2 A3 Ok Hno Hyes Hm k1 ⊢
  have HK : Hid (FwsAt w a ls) := k1
  obtain ⟨n, hn⟩ : ∃ n, ls.length = n := ⟨_, rfl⟩
  have Hn : Hid (ls.length = n) := hn
  rw [hn] at A2 A3 Ok Hm ⊢
  have A2' : Hid _ := A2
  have A3' : Hid _ := A3
  clear A2 A3 hn
  have X : Hid (Boxed ((w.alloc (.cells #[.int .i64 f, .slice a n c] 26)).alloc (.cells #[.int .i64 0, .slice none 0 0] 26)) w.heap.size #[.int .i64 f, .slice a n c] 26 ∧ Boxed ((w.alloc (.cells #[.int .i64 f, .slice a n c] 26)).alloc (.cells #[.int .i64 0, .slice none 0 0] 26)) (w.heap.size + 1) #[.int .i64 0, .slice none 0 0] 26 ∧ Below w.heap.size w ((w.alloc (.cells #[.int .i64 f, .slice a n c] 26)).alloc (.cells #[.int .i64 0, .slice none 0 0] 26))) := by
    refine ⟨(Boxed.new w _ _).more _, ?_, ((Below.refl _ _).alloc (Nat.le_refl _) _).alloc (by simp) _⟩
    have := Boxed.new (w.alloc (.cells #[.int .i64 f, .slice a n c] 26)) #[.int .i64 0, .slice none 0 0] 26
    simpa using this
  clear k1
  go_enter Try.func22, Try.ntmps22
  go_wp2_with (refine wpList_load_row rfl 26 (.tmp 3) rfl w.heap.size rfl _ _ _ _ X.out.1 Try.underlying26 rfl (by kernel_rfl) ?_)
  refine (A2'.out _ _ _ (HK.out.below X.out.2.2)).mono ?_
  rintro e w1 ⟨rfl, q⟩
  have X1 : Hid (Boxed w1 w.heap.size #[.int .i64 f, .slice a n c] 26 ∧ Boxed w1 (w.heap.size + 1) #[.int .i64 0, .slice none 0 0] 26 ∧ Below w.heap.size w w1) := ⟨X.out.1.below X.out.1.under q, X.out.2.1.below X.out.2.1.under q, X.out.2.2.trans (q.mono X.out.2.2.size)⟩
  clear q X A2'
  cases ok
  · obtain ⟨e1, e2⟩ := Hbad.out (by first | exact trivial | exact rfl)
    subst e1 e2
    go_wp2_with (refine wpList_store_row rfl 26 (.tmp 6) (.tmp 13) rfl (w.heap.size + 1) #[.int .i64 0, .slice none 0 0] rfl rfl _ _ X1.out.2.1 (by kernel_rfl) rfl (by simp [Value.oneCell']) ?_)
    exact bodyPost_ret (results_row_tmp Try.results22 _ _ (w.heap.size + 1) _ _ _ _ (.bool false) rfl rfl (setRow_heap _ (w.heap.size + 1) _ _ _ _ X1.out.2.1) Try.underlying26 rfl (by kernel_rfl)) rfl ⟨⟨_, rfl, fsIn_zero _ _ _⟩, below_setRow X1.out.2.2 (by omega) _⟩
  obtain ⟨hn8, hs40⟩ := Ok.out (by first | exact trivial | exact rfl)
  have Hs40 : Hid _ := hs40
  have no : Hid (may = false → R = ⟨f, ls⟩ ∧ RB = false) := fun hx => Hno.out (by first | exact trivial | exact rfl) hx
  have yes : Hid (may = true → R = ⟨f, ls.set flow.toNat ((fwAt ls flow.toNat).more f size)⟩ ∧ RB = true) := fun hx => Hyes.out (by first | exact trivial | exact rfl) hx
  clear Ok Hbad Hno Hyes hs40
  go_wp2_with (refine wpList_load_row rfl 26 (.tmp 3) rfl w.heap.size rfl _ _ _ _ X1.out.1 Try.underlying26 rfl (by kernel_rfl) ?_)
  refine (A3'.out _ _ _ (HK.out.below X1.out.2.2)).mono ?_
  rintro e w2 ⟨⟨vv, rs, rfl, hG⟩, q⟩
  obtain ⟨vx, vc, ev⟩ := fwrows_shape hG.outer
  rw [Hn.out] at ev
  subst ev
  have N : Hid (Boxed (w2.alloc (.cells #[.int .i64 0, .slice none 0 0] 26)) w2.heap.size #[.int .i64 0, .slice none 0 0] 26) := Boxed.new _ _ _
  have b3 : Below w2.heap.size w2 ((w2.alloc (.cells #[.int .i64 0, .slice none 0 0] 26)).setRow w2.heap.size #[.int .i64 f, .slice vx n vc]) := below_setRow ((Below.refl _ _).alloc (Nat.le_refl _) _) (Nat.le_refl _) _
  have X3 : Hid (SvX w f a n c (w1.heap.size + 3) w2.heap.size ((w2.alloc (.cells #[.int .i64 0, .slice none 0 0] 26)).setRow w2.heap.size #[.int .i64 f, .slice vx n vc]) ∧ FwG (w1.heap.size + 3) (.slice vx n vc) rs ls ((w2.alloc (.cells #[.int .i64 0, .slice none 0 0] 26)).setRow w2.heap.size #[.int .i64 f, .slice vx n vc]) ∧ Boxed ((w2.alloc (.cells #[.int .i64 0, .slice none 0 0] 26)).setRow w2.heap.size #[.int .i64 f, .slice vx n vc]) w2.heap.size #[.int .i64 f, .slice vx n vc] 26) := by
    have u1 := X1.out.2.1.under
    have u2 := q.size
    refine ⟨⟨(X1.out.1.below X1.out.1.under q).below (by omega) b3, (X1.out.2.1.below u1 q).below (by omega) b3, (X1.out.2.2.trans (q.mono X1.out.2.2.size)).trans (b3.mono (by have := X1.out.2.2.size; omega)), by omega, by omega⟩, hG.below b3, setRow_heap _ _ _ _ _ _ N.out⟩
  clear q X1 A3' hG b3
  go_upto_region 4 with (refine wpList_store_row rfl 26 (.tmp 8) (.tmp 15) rfl w2.heap.size #[.int .i64 f, .slice vx n vc] rfl rfl _ _ N.out (by kernel_rfl) rfl (by simp [Value.oneCell']) ?_)
  generalize (w2.alloc (.cells #[.int .i64 0, .slice none 0 0] 26)).setRow w2.heap.size #[.int .i64 f, .slice vx n vc] = w3 at X3 ⊢
  clear N
  generalize w2.heap.size = B at X3 ⊢
  generalize w1.heap.size + 3 = base at X3
  have cb : w3.cell? ⟨w.heap.size, 1, none⟩ = some (.slice a n c) := X3.out.1.box.cell 1 rfl
  by_cases g1 : flow < 0
  · obtain ⟨e1, e2⟩ := no.out (by rw [Hm.out]; exact decide_eq_false (fun g => by omega))
    subst e1 e2
    go_upto_region 5 with fail
    go_wp2_with (first | (refine wpList_load_row rfl 26 (.tmp 8) rfl B rfl _ _ _ _ X3.out.2.2 Try.underlying26 rfl (by kernel_rfl) ?_) | (refine wpList_store_row rfl 26 (.tmp 6) (.tmp 40) rfl (w.heap.size + 1) #[.int .i64 f, .slice vx n vc] rfl rfl _ _ X3.out.1.res (by kernel_rfl) rfl (by simp [Value.oneCell']) ?_))
    exact bodyPost_ret (results_row_tmp Try.results22 _ _ (w.heap.size + 1) _ _ _ _ (.bool false) rfl rfl (setRow_heap _ (w.heap.size + 1) _ _ _ _ X3.out.1.res) Try.underlying26 rfl (by kernel_rfl)) rfl ⟨⟨_, rfl, X3.out.1.fin (z := ⟨f, ls⟩) X3.out.2.1 (fun k hk => setRow_other _ _ _ _ hk)⟩, below_setRow X3.out.1.bel (by omega) _⟩
  by_cases g2 : (n : Int) ≤ flow
  · obtain ⟨e1, e2⟩ := no.out (by rw [Hm.out]; exact decide_eq_false (fun g => by omega))
    subst e1 e2
    go_upto_region 5 with fail
    go_wp2_with (first | (refine wpList_load_row rfl 26 (.tmp 8) rfl B rfl _ _ _ _ X3.out.2.2 Try.underlying26 rfl (by kernel_rfl) ?_) | (refine wpList_store_row rfl 26 (.tmp 6) (.tmp 40) rfl (w.heap.size + 1) #[.int .i64 f, .slice vx n vc] rfl rfl _ _ X3.out.1.res (by kernel_rfl) rfl (by simp [Value.oneCell']) ?_))
    exact bodyPost_ret (results_row_tmp Try.results22 _ _ (w.heap.size + 1) _ _ _ _ (.bool false) rfl rfl (setRow_heap _ (w.heap.size + 1) _ _ _ _ X3.out.1.res) Try.underlying26 rfl (by kernel_rfl)) rfl ⟨⟨_, rfl, X3.out.1.fin (z := ⟨f, ls⟩) X3.out.2.1 (fun k hk => setRow_other _ _ _ _ hk)⟩, below_setRow X3.out.1.bel (by omega) _⟩
  obtain ⟨i, hi⟩ : ∃ i : Nat, flow = i := ⟨flow.toNat, by omega⟩
  subst hi
  rw [Int.toNat_natCast] at Hm yes
  have hil : i < n := by omega
  have hil' : i < ls.length := by rw [Hn.out]; exact hil
  have d1 : decide ((i : Int) < 0) = false := decide_eq_false (by omega)
  have d2 : decide (n ≤ i) = false := decide_eq_false (by omega)
  have g2' : (i : Int) < (n : Int) := by omega
  have C1 := fun w => specIn size 1 2000 w
  have C1' : Hid _ := C1
  clear C1
  go_wp2_with fail
  refine (C1'.out _).mono ?_
  rintro e w' ⟨rfl, hw⟩
  have hw := hw.symm
  subst hw
  clear C1'
  by_cases g3 : inB 1 2000 size = true
  case neg =>
    have g3' : inB 1 2000 size = false := by simpa using g3
    obtain ⟨e1, e2⟩ := no.out (by rw [Hm.out]; exact decide_eq_false (fun g => g3 (inB_true.2 g.2.1)))
    subst e1 e2
    rw [g3']
    clear g3
    go_upto_region 5 with fail
    go_wp2_with (first | (refine wpList_load_row rfl 26 (.tmp 8) rfl B rfl _ _ _ _ X3.out.2.2 Try.underlying26 rfl (by kernel_rfl) ?_) | (refine wpList_store_row rfl 26 (.tmp 6) (.tmp 40) rfl (w.heap.size + 1) #[.int .i64 f, .slice vx n vc] rfl rfl _ _ X3.out.1.res (by kernel_rfl) rfl (by simp [Value.oneCell']) ?_))
    exact bodyPost_ret (results_row_tmp Try.results22 _ _ (w.heap.size + 1) _ _ _ _ (.bool false) rfl rfl (setRow_heap _ (w.heap.size + 1) _ _ _ _ X3.out.1.res) Try.underlying26 rfl (by kernel_rfl)) rfl ⟨⟨_, rfl, X3.out.1.fin (z := ⟨f, ls⟩) X3.out.2.1 (fun k hk => setRow_other _ _ _ _ hk)⟩, below_setRow X3.out.1.bel (by omega) _⟩
  rw [g3]
  have g3' := inB_true.1 g3
  obtain ⟨b1, o1, ak, ck, ea, hb1, ⟨-, -, c2⟩, -, -⟩ := HK.out i hil'
  subst ea
  have c2 := (X3.out.1.bel.cell (p := ⟨b1, o1 + i * 3 + 2, none⟩) hb1).trans c2
  have hs40 := Hs40.out i hil
  obtain ⟨m, hm⟩ : ∃ m, (fwAt ls i).sizes.length = m := ⟨_, rfl⟩
  have HM : Hid ((fwAt ls i).sizes.length = m) := hm
  rw [hm] at c2 hs40 Hm
  clear hm
  by_cases g4 : m = 40
  · obtain ⟨e1, e2⟩ := no.out (by rw [Hm.out]; exact decide_eq_false (fun g => g.2.2 g4))
    subst e1 e2
    subst g4
    clear g3 g3'
    go_upto_region 5 with fail
    go_wp2_with (first | (refine wpList_load_row rfl 26 (.tmp 8) rfl B rfl _ _ _ _ X3.out.2.2 Try.underlying26 rfl (by kernel_rfl) ?_) | (refine wpList_store_row rfl 26 (.tmp 6) (.tmp 40) rfl (w.heap.size + 1) #[.int .i64 f, .slice vx n vc] rfl rfl _ _ X3.out.1.res (by kernel_rfl) rfl (by simp [Value.oneCell']) ?_))
    exact bodyPost_ret (results_row_tmp Try.results22 _ _ (w.heap.size + 1) _ _ _ _ (.bool false) rfl rfl (setRow_heap _ (w.heap.size + 1) _ _ _ _ X3.out.1.res) Try.underlying26 rfl (by kernel_rfl)) rfl ⟨⟨_, rfl, X3.out.1.fin (z := ⟨f, ls⟩) X3.out.2.1 (fun k hk => setRow_other _ _ _ _ hk)⟩, below_setRow X3.out.1.bel (by omega) _⟩
  have d4 : ((m : Int) == 40) = false := by simpa using (show ¬ (m : Int) = 40 by omega)
  obtain ⟨e1, e2⟩ := yes.out (by rw [Hm.out]; exact decide_eq_true ⟨⟨by omega, by omega⟩, by omega, g4⟩)
  subst e2
  have HR : Hid (R = ⟨f, ls.set i ((fwAt ls i).more f size)⟩) := e1
  clear e1 yes no Hm g3 HK Hs40
  obtain ⟨g, vc', ev, hgb, hgl⟩ := X3.out.2.1.place hil'
  rw [Hn.out] at ev
  cases ev
  have Y : Hid (FwG base (.slice (some ⟨g, 0, none⟩) ls.length vc) rs ls w3) := by rw [Hn.out]; exact X3.out.2.1
  have Cg := Y.out.cells hil'
  obtain ⟨hx, hc, ehd⟩ := (Y.out.row i hil').shape
  rw [HM.out] at ehd
  obtain ⟨x, hx2⟩ : ∃ x, fwAt ls i = x := ⟨_, rfl⟩
  have Hx : Hid (fwAt ls i = x) := hx2
  rw [hx2, ehd] at Cg
  rw [hx2] at HR HM
  clear hx2
  obtain ⟨wt, fn, sz⟩ := x
  simp only at Cg HM
  have cB1 : w3.cell? ⟨B, 1, none⟩ = some (.slice (some ⟨g, 0, none⟩) n vc) := X3.out.2.2.cell 1 rfl
  obtain ⟨cg0, cg1, cg2, cgz⟩ := Cg
  have zg := cgz (i * 3 + 1)
  have HB : Hid (B < w3.heap.size) := X3.out.2.2.under
  clear cgz cg0
  go_upto_region 7 with fail
  by_cases g5 : m = 0
  · have M := fun w => specMx fn f w
    have EM : Hid ((⟨wt, fn, sz⟩ : Fw).more f size = ⟨wt, max fn f, sz ++ [size]⟩) := by show Fw.more _ _ _ = _; unfold Fw.more; simp only; rw [HM.out, if_pos g5]
    generalize max fn f = mx at M EM
    have M' : Hid _ := M
    clear M
    have hgB : ¬ g = B := fun e => row_off Y.out.outer X3.out.2.2 (by decide) (by rw [← e]; rfl)
    have X9a : Hid (∀ y, y = w3.drew → SvX w f (some ⟨b1, o1, none⟩) n c base B (y.setCell ⟨g, i * 3 + 1, none⟩ (.int .i64 mx)) ∧ FwG base (.slice (some ⟨g, 0, none⟩) (ls.set i ⟨wt, mx, sz⟩).length vc) (rs.set i ⟨(fwrAt rs i).weight, mx, (fwrAt rs i).hd⟩) (ls.set i ⟨wt, mx, sz⟩) (y.setCell ⟨g, i * 3 + 1, none⟩ (.int .i64 mx)) ∧ Boxed (y.setCell ⟨g, i * 3 + 1, none⟩ (.int .i64 mx)) B #[.int .i64 f, .slice (some ⟨g, 0, none⟩) n vc] 26) := fun y hy => by
      have q : Below w3.heap.size w3 y := by rw [hy]; exact (Below.refl _ _).drew
      have h := (Y.out.below q).finish hil' mx
      rw [Hx.out] at h
      refine ⟨(X3.out.1.below q).fr ((FrB.of (Below.refl y.heap.size y) (by have := q.size; omega)).set (.inl hgb) _), ?_, (X3.out.2.2.below X3.out.2.2.under q).far (fun e => hgB e.symm) _ _⟩
      rw [List.length_set]
      exact h
    have hrl : i < rs.length := by rw [Y.out.len]; exact hil'
    have Ehd : Hid ((fwrAt (rs.set i ⟨(fwrAt rs i).weight, mx, (fwrAt rs i).hd⟩) i).hd = .slice hx m hc) := by show Fwr.hd _ = _; rw [fwrAt_set hrl]; exact ehd
    have Efw : Hid (fwAt (ls.set i ⟨wt, mx, sz⟩) i = ⟨wt, mx, sz⟩) := fwAt_set hil'
    have now3 : w3.cell? ⟨w.heap.size, 0, none⟩ = some (.int .i64 f) := X3.out.1.box.cell 0 rfl
    subst g5
    go_upto_region 8 with fail
    go_region_law (refine stepCall rfl 55 rfl #[.int .i64 fn, .int .i64 f] (by kernel_rfl) (M'.out _) ?_; rintro e wE ⟨rfl, hwE⟩; have X9 : Hid _ := X9a.out wE hwE; have y1 : wE.cell? ⟨g, i * 3 + 1, none⟩ = some (.int .i64 fn) := (by rw [hwE]; exact cg1); have y2 : wE.frozen? ⟨g, i * 3 + 1, none⟩ = false := (by rw [hwE]; exact zg); have y3 : g < wE.heap.size := (by rw [hwE]; exact hgl); clear hwE)
    all_goals (
      go_upto_region 9 with fail
      generalize wE.setCell ⟨g, i * 3 + 1, none⟩ (.int .i64 mx) = w8 at X9 ⊢
      have hbe : Below w8.heap.size w8 (w8.alloc (.cells #[.int .i64 size] 2)) := (Below.refl _ _).alloc (Nat.le_refl _) _
      have Wa : Hid (SvX w f (some ⟨b1, o1, none⟩) n c base B (w8.alloc (.cells #[.int .i64 size] 2)) ∧ FwG base (.slice (some ⟨g, 0, none⟩) (ls.set i ⟨wt, mx, sz⟩).length vc) (rs.set i ⟨(fwrAt rs i).weight, mx, (fwrAt rs i).hd⟩) (ls.set i ⟨wt, mx, sz⟩) (w8.alloc (.cells #[.int .i64 size] 2)) ∧ Boxed (w8.alloc (.cells #[.int .i64 size] 2)) B #[.int .i64 f, .slice (some ⟨g, 0, none⟩) n vc] 26) := ⟨X9.out.1.below hbe, X9.out.2.1.below hbe, X9.out.2.2.below X9.out.2.2.under hbe⟩
      have hlx : i < (ls.set i ⟨wt, mx, sz⟩).length := by first | exact hil' | (rw [List.length_set]; exact hil')
      have Wr : Hid (IRow base (w8.alloc (.cells #[.int .i64 size] 2)) (.slice hx 0 hc) sz ∧ IntsAt (w8.alloc (.cells #[.int .i64 size] 2)) (some ⟨w8.heap.size, 0, none⟩) [size] ∧ base ≤ (w8.alloc (.cells #[.int .i64 size] 2)).heap.size) := by
        have hr := Wa.out.2.1.row i hlx
        rw [Ehd.out, Efw.out] at hr
        obtain ⟨g', _, _, h1, h2⟩ := Wa.out.2.1.place hlx
        exact ⟨hr, ints_new w8 2 [size] #[.int .i64 size] w8.heap.size rfl rfl, by omega⟩
      have h2 : w8.cell? ⟨g, i * 3 + 2, none⟩ = some (.slice hx 0 hc) := by rw [← Ehd.out]; exact (X9.out.2.1.cells hlx).2.2.1
      have Nx : Hid (∀ uv w9, IRow base w9 uv (sz ++ [size]) → Below base (w8.alloc (.cells #[.int .i64 size] 2)) w9 → World.grownBy (w8.alloc (.cells #[.int .i64 size] 2)) w9 (Value.slice hx 0 hc).ownBlock → (uv.ownBlock = (Value.slice hx 0 hc).ownBlock ∨ uv.ownBlock = some (w8.alloc (.cells #[.int .i64 size] 2)).heap.size) →
          (∃ rs', SvX w f (some ⟨b1, o1, none⟩) n c base B (w9.setCell ⟨g, i * 3 + 2, none⟩ uv) ∧ FwG base (.slice (some ⟨g, 0, none⟩) n vc) rs' R.flows (w9.setCell ⟨g, i * 3 + 2, none⟩ uv) ∧ Boxed (w9.setCell ⟨g, i * 3 + 2, none⟩ uv) B #[.int .i64 f, .slice (some ⟨g, 0, none⟩) n vc] 26) ∧ w9.cell? ⟨g, i * 3 + 2, none⟩ = some (.slice hx 0 hc) ∧ w9.frozen? ⟨g, i * 3 + 2, none⟩ = false) := fun uv w9 q1 q2 q3 q4 => by
        obtain ⟨rs', h1, h2, h3, h4, h5⟩ := queue_set Wa.out.1 Wa.out.2.1 Wa.out.2.2 hlx hgb Ehd.out q1 q2 q3 q4
        rw [Efw.out] at h1
        refine ⟨⟨rs', h3, ?_, h2⟩, h4, h5⟩
        rw [HR.out]
        simp only [List.set_set, List.length_set, Hn.out] at h1 ⊢
        rw [EM.out]
        exact h1
      clear hbe
      go_upto_region 10 with (refine int_row_app rfl (.tmp 65) (.tmp 67) rfl base (.slice hx 0 hc) sz (some ⟨w8.heap.size, 0, none⟩) 1 1 [size] rfl rfl rfl Wr.out.1 Wr.out.2.1 (fun h => by cases h) (by rw [HM.out]; simp only [List.length_singleton]; omega) Wr.out.2.2 ?_; intro uv w9 q1 q2 q3 q4; obtain ⟨ux, uc, eu⟩ := q1.shape; rw [List.length_append, List.length_singleton, HM.out, Nat.zero_add] at eu; subst eu; have Q : Hid _ := Nx.out _ w9 q1 q2 q3 q4; have x2 := Q.out.2.1; have x3 := Q.out.2.2; clear q1 q2 q3 q4)
      obtain ⟨rs', H9a⟩ : ∃ rs', Hid (SvX w f (some ⟨b1, o1, none⟩) n c base B (w9.setCell ⟨g, i * 3 + 2, none⟩ (.slice ux 1 uc)) ∧ FwG base (.slice (some ⟨g, 0, none⟩) n vc) rs' R.flows (w9.setCell ⟨g, i * 3 + 2, none⟩ (.slice ux 1 uc)) ∧ Boxed (w9.setCell ⟨g, i * 3 + 2, none⟩ (.slice ux 1 uc)) B #[.int .i64 f, .slice (some ⟨g, 0, none⟩) n vc] 26) := Q.out.1
      clear x2 x3 Q Nx Wa Wr h2
      generalize w9.setCell ⟨g, i * 3 + 2, none⟩ (.slice ux 1 uc) = w10 at H9a ⊢
      have Fin : Hid (∀ x', (∀ k, k ≠ w.heap.size + 1 → x'.heap[k]? = w10.heap[k]?) → FsIn w.heap.size x'.heap.size x' (.agg #[.int .i64 f, .slice (some ⟨g, 0, none⟩) n vc]) R) := fun x' o => by
        have h := H9a.out.1.fin (z := R) H9a.out.2.1 o
        have e : R.now = f := by rw [HR.out]
        rw [e] at h
        exact h
      go_wp2_with (first | (refine wpList_load_row rfl 26 (.tmp 8) rfl B rfl _ _ _ _ H9a.out.2.2 Try.underlying26 rfl (by kernel_rfl) ?_) | (refine wpList_store_row rfl 26 (.tmp 6) (.tmp 71) rfl (w.heap.size + 1) #[.int .i64 f, .slice (some ⟨g, 0, none⟩) n vc] rfl rfl _ _ H9a.out.1.res (by kernel_rfl) rfl (by simp [Value.oneCell']) ?_))
      exact bodyPost_ret (results_row_tmp Try.results22 _ _ (w.heap.size + 1) _ _ _ _ (.bool true) rfl rfl (setRow_heap _ (w.heap.size + 1) _ _ _ _ H9a.out.1.res) Try.underlying26 rfl (by kernel_rfl)) rfl ⟨⟨_, rfl, Fin.out _ (fun k hk => setRow_other _ _ _ _ hk)⟩, below_setRow H9a.out.1.bel (by omega) _⟩)
  · have EM : Hid ((⟨wt, fn, sz⟩ : Fw).more f size = ⟨wt, fn, sz ++ [size]⟩) := by show Fw.more _ _ _ = _; unfold Fw.more; simp only; rw [HM.out, if_neg g5]
    have X9 : Hid (SvX w f (some ⟨b1, o1, none⟩) n c base B w3 ∧ FwG base (.slice (some ⟨g, 0, none⟩) ls.length vc) rs ls w3 ∧ Boxed w3 B #[.int .i64 f, .slice (some ⟨g, 0, none⟩) n vc] 26) := ⟨X3.out.1, Y.out, X3.out.2.2⟩
    have Ehd : Hid ((fwrAt rs i).hd = .slice hx m hc) := ehd
    have Efw : Hid (fwAt ls i = ⟨wt, fn, sz⟩) := Hx.out
    have d5 : ((m : Int) == 0) = false := by simpa using g5
    go_upto_region 9 with fail
    have hbe : Below w3.heap.size w3 (w3.alloc (.cells #[.int .i64 size] 2)) := (Below.refl _ _).alloc (Nat.le_refl _) _
    have Wa : Hid (SvX w f (some ⟨b1, o1, none⟩) n c base B (w3.alloc (.cells #[.int .i64 size] 2)) ∧ FwG base (.slice (some ⟨g, 0, none⟩) ls.length vc) rs ls (w3.alloc (.cells #[.int .i64 size] 2)) ∧ Boxed (w3.alloc (.cells #[.int .i64 size] 2)) B #[.int .i64 f, .slice (some ⟨g, 0, none⟩) n vc] 26) := ⟨X9.out.1.below hbe, X9.out.2.1.below hbe, X9.out.2.2.below X9.out.2.2.under hbe⟩
    have hlx : i < ls.length := by first | exact hil' | (rw [List.length_set]; exact hil')
    have Wr : Hid (IRow base (w3.alloc (.cells #[.int .i64 size] 2)) (.slice hx m hc) sz ∧ IntsAt (w3.alloc (.cells #[.int .i64 size] 2)) (some ⟨w3.heap.size, 0, none⟩) [size] ∧ base ≤ (w3.alloc (.cells #[.int .i64 size] 2)).heap.size) := by
      have hr := Wa.out.2.1.row i hlx
      rw [Ehd.out, Efw.out] at hr
      obtain ⟨g', _, _, h1, h2⟩ := Wa.out.2.1.place hlx
      exact ⟨hr, ints_new w3 2 [size] #[.int .i64 size] w3.heap.size rfl rfl, by omega⟩
    have h2 : w3.cell? ⟨g, i * 3 + 2, none⟩ = some (.slice hx m hc) := by rw [← Ehd.out]; exact (X9.out.2.1.cells hlx).2.2.1
    have Nx : Hid (∀ uv w9, IRow base w9 uv (sz ++ [size]) → Below base (w3.alloc (.cells #[.int .i64 size] 2)) w9 → World.grownBy (w3.alloc (.cells #[.int .i64 size] 2)) w9 (Value.slice hx m hc).ownBlock → (uv.ownBlock = (Value.slice hx m hc).ownBlock ∨ uv.ownBlock = some (w3.alloc (.cells #[.int .i64 size] 2)).heap.size) →
        (∃ rs', SvX w f (some ⟨b1, o1, none⟩) n c base B (w9.setCell ⟨g, i * 3 + 2, none⟩ uv) ∧ FwG base (.slice (some ⟨g, 0, none⟩) n vc) rs' R.flows (w9.setCell ⟨g, i * 3 + 2, none⟩ uv) ∧ Boxed (w9.setCell ⟨g, i * 3 + 2, none⟩ uv) B #[.int .i64 f, .slice (some ⟨g, 0, none⟩) n vc] 26) ∧ w9.cell? ⟨g, i * 3 + 2, none⟩ = some (.slice hx m hc) ∧ w9.frozen? ⟨g, i * 3 + 2, none⟩ = false) := fun uv w9 q1 q2 q3 q4 => by
      obtain ⟨rs', h1, h2, h3, h4, h5⟩ := queue_set Wa.out.1 Wa.out.2.1 Wa.out.2.2 hlx hgb Ehd.out q1 q2 q3 q4
      rw [Efw.out] at h1
      refine ⟨⟨rs', h3, ?_, h2⟩, h4, h5⟩
      rw [HR.out]
      simp only [Hn.out] at h1 ⊢
      rw [EM.out]
      exact h1
    clear hbe
    go_upto_region 10 with (refine int_row_app rfl (.tmp 65) (.tmp 67) rfl base (.slice hx m hc) sz (some ⟨w3.heap.size, 0, none⟩) 1 1 [size] rfl rfl rfl Wr.out.1 Wr.out.2.1 (fun h => by cases h) (by rw [HM.out]; simp only [List.length_singleton]; omega) Wr.out.2.2 ?_; intro uv w9 q1 q2 q3 q4; obtain ⟨ux, uc, eu⟩ := q1.shape; rw [List.length_append, List.length_singleton, HM.out] at eu; subst eu; have Q : Hid _ := Nx.out _ w9 q1 q2 q3 q4; have x2 := Q.out.2.1; have x3 := Q.out.2.2; clear q1 q2 q3 q4)
    obtain ⟨rs', H9a⟩ : ∃ rs', Hid (SvX w f (some ⟨b1, o1, none⟩) n c base B (w9.setCell ⟨g, i * 3 + 2, none⟩ (.slice ux (m + 1) uc)) ∧ FwG base (.slice (some ⟨g, 0, none⟩) n vc) rs' R.flows (w9.setCell ⟨g, i * 3 + 2, none⟩ (.slice ux (m + 1) uc)) ∧ Boxed (w9.setCell ⟨g, i * 3 + 2, none⟩ (.slice ux (m + 1) uc)) B #[.int .i64 f, .slice (some ⟨g, 0, none⟩) n vc] 26) := Q.out.1
    clear x2 x3 Q Nx Wa Wr h2
    generalize w9.setCell ⟨g, i * 3 + 2, none⟩ (.slice ux (m + 1) uc) = w10 at H9a ⊢
    have Fin : Hid (∀ x', (∀ k, k ≠ w.heap.size + 1 → x'.heap[k]? = w10.heap[k]?) → FsIn w.heap.size x'.heap.size x' (.agg #[.int .i64 f, .slice (some ⟨g, 0, none⟩) n vc]) R) := fun x' o => by
      have h := H9a.out.1.fin (z := R) H9a.out.2.1 o
      have e : R.now = f := by rw [HR.out]
      rw [e] at h
      exact h
    go_wp2_with (first | (refine wpList_load_row rfl 26 (.tmp 8) rfl B rfl _ _ _ _ H9a.out.2.2 Try.underlying26 rfl (by kernel_rfl) ?_) | (refine wpList_store_row rfl 26 (.tmp 6) (.tmp 71) rfl (w.heap.size + 1) #[.int .i64 f, .slice (some ⟨g, 0, none⟩) n vc] rfl rfl _ _ H9a.out.1.res (by kernel_rfl) rfl (by simp [Value.oneCell']) ?_))
    exact bodyPost_ret (results_row_tmp Try.results22 _ _ (w.heap.size + 1) _ _ _ _ (.bool true) rfl rfl (setRow_heap _ (w.heap.size + 1) _ _ _ _ H9a.out.1.res) Try.underlying26 rfl (by kernel_rfl)) rfl ⟨⟨_, rfl, Fin.out _ (fun k hk => setRow_other _ _ _ _ hk)⟩, below_setRow H9a.out.1.bel (by omega) _⟩
end Go.Proofs.Ytllmkolchgmjoaa
