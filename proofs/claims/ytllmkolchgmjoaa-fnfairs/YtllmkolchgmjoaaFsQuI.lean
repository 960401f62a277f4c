/-
  The walk of the program's Queued. By the verifier, by program.
-/
import Derived.Test.YtllmkolchgmjoaaFsJoin
import Derived.Test.YtllmkolchgmjoaaFsOwn
import Derived.Test.YtllmkolchgmjoaaFsQueuedS
namespace Go.Proofs.Ytllmkolchgmjoaa
open Go.RowKit

set_option maxHeartbeats 6400000 in
set_option maxRecDepth 100000 in
theorem implQueued (d : Fs) (v : Value) (flow size : Int) (w : World) (hB : d.big ≤ 1048576) (h : Hid (FsAt w v d)) :
    Calls Try.prog 18 #[v, .int .i64 flow, .int .i64 size] w fun e w' => (∃ v', e = .returned (.tuple #[v', .bool (d.queuedB flow size)]) ∧ FsIn w.heap.size w'.heap.size w' v' (d.queued flow size)) ∧ Below w.heap.size w w' := by
  have A1 := fun v w h => implFairOk d v w hB h
  have A3 := fun a c w h => implOwnFair d a c w hB h
  obtain ⟨a, c, rfl, k1⟩ := h.out
  clear h
  have Hv : Hid (d.queued flow size = if d.ok = true then (if d.mayQ flow size = true then ⟨d.now, d.flows.set flow.toNat ((fwAt d.flows flow.toNat).more d.now size)⟩ else d) else ⟨0, []⟩) := rfl
  have Hb : Hid (d.queuedB flow size = (d.ok && d.mayQ flow size)) := rfl
  have Hm : Hid (d.mayQ flow size = decide ((0 ≤ flow ∧ flow < (d.flows.length : Int)) ∧ (1 ≤ size ∧ size ≤ 2000) ∧ (fwAt d.flows flow.toNat).sizes.length ≠ 40)) := rfl
  have Hg : Hid (d.ok = true → d.flows.length ≤ 8 ∧ ∀ k, k < d.flows.length → (fwAt d.flows k).ok = true) := fun hk => ⟨(Fs.ok_iff.1 hk).2.1.2, fun k h => Fs.ok_at hk h⟩
  generalize d.queued flow size = F at Hv ⊢
  generalize d.queuedB flow size = bb at Hb ⊢
  have A2 : ∀ a c w, FwsAt w a d.flows → Calls Try.prog 12 #[.agg #[.int .i64 d.now, .slice a d.flows.length c]] w fun e w' => e = .returned (.bool d.ok) ∧ Below w.heap.size w w' := fun a c w h => A1 _ w ⟨a, c, rfl, h⟩
  generalize d.mayQ flow size = may at Hv Hb Hm
  generalize d.ok = ok at A2 Hv Hb Hg
  clear A1 hB
  obtain ⟨f, ls⟩ := d
  simp only [Fs.val] at A2 A3 Hv Hm Hg k1 ⊢
  obtain ⟨n, hn⟩ : ∃ n, ls.length = n := ⟨_, rfl⟩
  have Hn : Hid (ls.length = n) := hn
  rw [hn] at A2 A3 Hm Hg ⊢
  clear hn
  have A2' : Hid _ := A2
  have A3' : Hid _ := A3
  clear A2 A3
  have X : Hid (FwsAt ((w.alloc (.cells #[.int .i64 f, .slice a n c] 26)).alloc (.cells #[.int .i64 0, .slice none 0 0] 26)) a ls ∧ Boxed ((w.alloc (.cells #[.int .i64 f, .slice a n c] 26)).alloc (.cells #[.int .i64 0, .slice none 0 0] 26)) w.heap.size #[.int .i64 f, .slice a n c] 26 ∧ Boxed ((w.alloc (.cells #[.int .i64 f, .slice a n c] 26)).alloc (.cells #[.int .i64 0, .slice none 0 0] 26)) (w.heap.size + 1) #[.int .i64 0, .slice none 0 0] 26 ∧ Below w.heap.size w ((w.alloc (.cells #[.int .i64 f, .slice a n c] 26)).alloc (.cells #[.int .i64 0, .slice none 0 0] 26))) := by
    refine ⟨(k1.alloc _).alloc _, (Boxed.new w _ _).more _, ?_, ((Below.refl _ _).alloc (Nat.le_refl _) _).alloc (by simp) _⟩
    have := Boxed.new (w.alloc (.cells #[.int .i64 f, .slice a n c] 26)) #[.int .i64 0, .slice none 0 0] 26
    simpa using this
  clear k1
  go_enter Try.func18, Try.ntmps18
  go_wp2_with (refine wpList_load_row rfl 26 (.tmp 3) rfl w.heap.size rfl _ _ _ _ X.out.2.1 Try.underlying26 rfl (by kernel_rfl) ?_)
  refine (A2'.out _ _ _ X.out.1).mono ?_
  rintro e w1 ⟨rfl, q⟩
  have X1 : Hid (FwsAt w1 a ls ∧ Boxed w1 w.heap.size #[.int .i64 f, .slice a n c] 26 ∧ Boxed w1 (w.heap.size + 1) #[.int .i64 0, .slice none 0 0] 26 ∧ Below w.heap.size w w1) := ⟨X.out.1.below q, X.out.2.1.below X.out.2.1.under q, X.out.2.2.1.below X.out.2.2.1.under q, X.out.2.2.2.trans (q.mono X.out.2.2.2.size)⟩
  clear q X A2'
  cases ok
  · have e1 : F = ⟨0, []⟩ := by rw [Hv.out]; rfl
    have e2 : bb = false := by rw [Hb.out]; rfl
    subst e1 e2
    go_wp2_with (refine wpList_store_row rfl 26 (.tmp 6) (.tmp 12) rfl (w.heap.size + 1) #[.int .i64 0, .slice none 0 0] rfl rfl _ _ X1.out.2.2.1 (by kernel_rfl) rfl (by simp [Value.oneCell']) ?_)
    exact bodyPost_ret (results_row_tmp Try.results18 _ _ (w.heap.size + 1) _ _ _ _ (.bool false) rfl rfl (setRow_heap _ (w.heap.size + 1) _ _ _ _ X1.out.2.2.1) Try.underlying26 rfl (by kernel_rfl)) rfl ⟨⟨_, rfl, fsIn_zero _ _ _⟩, below_setRow X1.out.2.2.2 (by omega) _⟩
  go_wp2_with (refine wpList_load_row rfl 26 (.tmp 3) rfl w.heap.size rfl _ _ _ _ X1.out.2.1 Try.underlying26 rfl (by kernel_rfl) ?_)
  refine (A3'.out _ _ _ X1.out.1).mono ?_
  rintro e w2 ⟨⟨vv, rs, rfl, hG⟩, q⟩
  obtain ⟨vx, vc, ev⟩ := fwrows_shape hG.outer
  rw [Hn.out] at ev
  subst ev
  have N : Hid (Boxed (w2.alloc (.cells #[.int .i64 0, .slice none 0 0] 26)) w2.heap.size #[.int .i64 0, .slice none 0 0] 26) := Boxed.new _ _ _
  obtain ⟨w3, hw3⟩ : ∃ w3, (w2.alloc (.cells #[.int .i64 0, .slice none 0 0] 26)).setRow w2.heap.size #[.int .i64 f, .slice vx n vc] = w3 := ⟨_, rfl⟩
  obtain ⟨B, hB⟩ : ∃ B, w2.heap.size = B := ⟨_, rfl⟩
  have b3 : Below w2.heap.size w2 w3 := by rw [← hw3]; exact below_setRow ((Below.refl _ _).alloc (Nat.le_refl _) _) (Nat.le_refl _) _
  have X3 : Hid (Boxed w3 w.heap.size #[.int .i64 f, .slice a n c] 26 ∧ Boxed w3 (w.heap.size + 1) #[.int .i64 0, .slice none 0 0] 26 ∧ Boxed w3 B #[.int .i64 f, .slice vx n vc] 26 ∧ Below w.heap.size w w3 ∧ FwsAt w3 a ls) := by
    have u1 := X1.out.2.2.1.under
    have u2 := q.size
    refine ⟨(X1.out.2.1.below X1.out.2.1.under q).below (by omega) b3, (X1.out.2.2.1.below u1 q).below (by omega) b3, ?_, (X1.out.2.2.2.trans (q.mono X1.out.2.2.2.size)).trans (b3.mono (by have := X1.out.2.2.2.size; omega)), (X1.out.1.below q).below b3⟩
    rw [← hB, ← hw3]
    exact setRow_heap _ _ _ _ _ _ N.out
  have Y3 : Hid (FwG (w1.heap.size + 2) (.slice vx n vc) rs ls w2 ∧ Below w2.heap.size w2 w3 ∧ w.heap.size + 2 ≤ w1.heap.size ∧ w1.heap.size ≤ w2.heap.size) := ⟨hG, b3, X1.out.2.2.1.under, q.size⟩
  have HB : Hid _ := hB
  have H3 : Hid _ := hw3
  clear hB hw3 b3 hG q X1
  go_upto_region 4 with (refine wpList_store_row rfl 26 (.tmp 8) (.tmp 14) rfl w2.heap.size #[.int .i64 f, .slice vx n vc] rfl rfl _ _ N.out (by kernel_rfl) rfl (by simp [Value.oneCell']) ?_)
  rw [H3.out, HB.out]
  clear N H3 A3'
  obtain ⟨hl8, hg⟩ := Hg.out (by first | exact trivial | exact rfl)
  have HG : Hid _ := hg
  clear hg Hg
  have Bsz : Hid (w.heap.size + 2 ≤ B ∧ B < w3.heap.size) := ⟨by have := Y3.out.2.2; have := HB.out; omega, X3.out.2.2.1.under⟩
  have lift : Hid (∀ x, Below w3.heap.size w3 x → Boxed x w.heap.size #[.int .i64 f, .slice a n c] 26 ∧ Boxed x (w.heap.size + 1) #[.int .i64 0, .slice none 0 0] 26 ∧ Boxed x B #[.int .i64 f, .slice vx n vc] 26 ∧ Below w.heap.size w x ∧ FwsAt x a ls) := fun x g => by
    have hb := Bsz.out
    exact ⟨X3.out.1.below (by omega) g, X3.out.2.1.below (by omega) g, X3.out.2.2.1.below (by omega) g, X3.out.2.2.2.1.trans (g.mono X3.out.2.2.2.1.size), X3.out.2.2.2.2.below g⟩
  have low : Hid (∀ x, Below w3.heap.size w3 x → Below w2.heap.size w2 x) := fun x g => Y3.out.2.1.trans (g.mono Y3.out.2.1.size)
  have fin : Hid (∀ x y : World, Below w3.heap.size w3 y → (∀ k, k ≠ w.heap.size + 1 → x.heap[k]? = y.heap[k]?) → y.heap.size ≤ x.heap.size → FsIn w.heap.size x.heap.size x (.agg #[.int .i64 f, .slice vx n vc]) ⟨f, ls⟩) := fun x y g hx hs => by
    refine ⟨vx, vc, by simp [Fs.val, Hn.out], ?_⟩
    show FwsIn _ _ _ (.slice vx ls.length vc) ls
    rw [Hn.out]
    have h1 := Y3.out.2.2
    have h3 := (low.out y g).size
    exact ⟨rs, ((Y3.out.1.done.below (low.out y g)).keep hs fun k k1 k2 => hx k (by omega)).wide (by omega) (by omega) (Nat.le_refl _)⟩
  have no : Hid (may = false → F = ⟨f, ls⟩ ∧ bb = false) := fun e => ⟨by rw [Hv.out, e]; rfl, by rw [Hb.out, e]; rfl⟩
  have AP1 := fun (w : World) => implPlace n flow w (by omega)
  have Hp1 : Hid (inB 0 ((n : Int) - 1) flow = true ↔ 0 ≤ flow ∧ flow ≤ (n : Int) - 1) := inB_true
  generalize inB 0 ((n : Int) - 1) flow = p1 at AP1 Hp1
  have AP1' : Hid _ := AP1
  have AP2 := fun B w hh => implFromOne 2000 size B w hh
  have Hp2 : Hid (inB 1 2000 size = true ↔ 1 ≤ size ∧ size ≤ 2000) := inB_true
  generalize inB 1 2000 size = p2 at AP2 Hp2
  have AP2' : Hid _ := AP2
  clear AP1 AP2
  have cb : w3.cell? ⟨w.heap.size, 1, none⟩ = some (.slice a n c) := X3.out.1.cell 1 rfl
  cases p1
  · obtain ⟨e1, e2⟩ := no.out (by rw [Hm.out]; exact decide_eq_false (fun g => by have := Hp1.out.2 ⟨g.1.1, by omega⟩; cases this))
    subst e1 e2
    go_wp2_with fail
    refine (AP1'.out _).mono ?_
    rintro e w4 ⟨rfl, hw4⟩
    have B4 : Hid (Below w3.heap.size w3 w4) := by rw [hw4]; exact (Below.refl _ _).alloc (Nat.le_refl _) _
    have X4 : Hid _ := lift.out w4 B4.out
    clear hw4 cb
    go_upto_region 5 with fail
    go_wp2_with (first | (refine wpList_load_row rfl 26 (.tmp 8) rfl B rfl _ _ _ _ X4.out.2.2.1 Try.underlying26 rfl (by kernel_rfl) ?_) | (refine wpList_store_row rfl 26 (.tmp 6) (.tmp _) rfl (w.heap.size + 1) #[.int .i64 f, .slice vx n vc] rfl rfl _ _ X4.out.2.1 (by kernel_rfl) rfl (by simp [Value.oneCell']) ?_))
    exact bodyPost_ret (results_row_tmp Try.results18 _ _ (w.heap.size + 1) _ _ _ _ (.bool false) rfl rfl (setRow_heap _ (w.heap.size + 1) _ _ _ _ X4.out.2.1) Try.underlying26 rfl (by kernel_rfl)) rfl ⟨⟨_, rfl, fin.out _ _ B4.out (fun k hk => setRow_other _ _ _ _ hk) (by rw [size_setRow]; exact Nat.le_refl _)⟩, below_setRow X4.out.2.2.2.1 (by omega) _⟩
  obtain ⟨g1, g2⟩ := Hp1.out.1 (by first | exact trivial | exact rfl)
  obtain ⟨H, hH⟩ : ∃ H : Nat, flow = H := ⟨flow.toNat, by omega⟩
  subst hH
  rw [Int.toNat_natCast] at Hm Hv
  have hHl : H < n := by omega
  have hHl' : H < ls.length := by rw [Hn.out]; exact hHl
  have g2' : (H : Int) < (n : Int) := by omega
  go_wp2_with fail
  refine (AP1'.out _).mono ?_
  rintro e w4 ⟨rfl, hw4⟩
  have B4 : Hid (Below w3.heap.size w3 w4) := by rw [hw4]; exact (Below.refl _ _).alloc (Nat.le_refl _) _
  clear hw4 cb AP1' Hp1
  go_wp2_with fail
  refine (AP2'.out _ _ (by simp)).mono ?_
  rintro e w5 ⟨rfl, hw5⟩
  have B5 : Hid (Below w3.heap.size w3 w5) := by rw [hw5]; exact B4.out.alloc B4.out.size _
  have X5 : Hid _ := lift.out w5 B5.out
  clear hw5 B4
  cases p2
  · obtain ⟨e1, e2⟩ := no.out (by rw [Hm.out]; exact decide_eq_false (fun g => by have := Hp2.out.2 g.2.1; cases this))
    subst e1 e2
    go_upto_region 5 with fail
    go_wp2_with (first | (refine wpList_load_row rfl 26 (.tmp 8) rfl B rfl _ _ _ _ X5.out.2.2.1 Try.underlying26 rfl (by kernel_rfl) ?_) | (refine wpList_store_row rfl 26 (.tmp 6) (.tmp _) rfl (w.heap.size + 1) #[.int .i64 f, .slice vx n vc] rfl rfl _ _ X5.out.2.1 (by kernel_rfl) rfl (by simp [Value.oneCell']) ?_))
    exact bodyPost_ret (results_row_tmp Try.results18 _ _ (w.heap.size + 1) _ _ _ _ (.bool false) rfl rfl (setRow_heap _ (w.heap.size + 1) _ _ _ _ X5.out.2.1) Try.underlying26 rfl (by kernel_rfl)) rfl ⟨⟨_, rfl, fin.out _ _ B5.out (fun k hk => setRow_other _ _ _ _ hk) (by rw [size_setRow]; exact Nat.le_refl _)⟩, below_setRow X5.out.2.2.2.1 (by omega) _⟩
  have g3 := Hp2.out.1 (by first | exact trivial | exact rfl)
  have cb : w5.cell? ⟨w.heap.size, 1, none⟩ = some (.slice a n c) := X5.out.1.cell 1 rfl
  obtain ⟨b, off, ak, ck, ha, hb, ⟨c0, c1, c2⟩, hr, hcap, hnil⟩ := X5.out.2.2.2.2 H hHl'
  subst ha
  have D := fun w => implPayerOf (fwAt ls H) ak ck w
  have E := fun w => implFull ak (fwAt ls H).sizes.length ck w
  have hin : (fwAt ls H).sizes.length ≤ 1048576 := by have := (Fw.ok_iff.1 (HG.out H hHl)).2.2.1; omega
  have J := fun w h => implJoined (fwAt ls H) ak ck size f w hin hcap hnil h
  have Hrd : Hid (∀ x, Below w5.heap.size w5 x → IntsAt x ak (fwAt ls H).sizes) := fun x g => hr.below g
  have Hnew : Hid ((fwAt ls H).more f size = ⟨(fwAt ls H).weight, ((fwAt ls H).more f size).finish, (fwAt ls H).sizes ++ [size]⟩) := rfl
  have Rd : Hid (∀ x, Below w5.heap.size w5 x → x.cell? ⟨b, off + H * 3, none⟩ = some (.int .i64 (fwAt ls H).weight) ∧ x.cell? ⟨b, off + H * 3 + 1, none⟩ = some (.int .i64 (fwAt ls H).finish) ∧ x.cell? ⟨b, off + H * 3 + 2, none⟩ = some (.slice ak (fwAt ls H).sizes.length ck)) := fun x g => ⟨by rw [g.cell (p := ⟨b, off + H * 3, none⟩) hb]; exact c0, by rw [g.cell (p := ⟨b, off + H * 3 + 1, none⟩) hb]; exact c1, by rw [g.cell (p := ⟨b, off + H * 3 + 2, none⟩) hb]; exact c2⟩
  have Sh : Hid (∀ {b : Nat} {w : World} {v : Value}, IRow b w v ((fwAt ls H).sizes ++ [size]) → ∃ p q, v = .slice p ((fwAt ls H).sizes.length + 1) q) := fun h => by
    obtain ⟨p, q, e⟩ := IRow.shape h
    exact ⟨p, q, by rw [e]; simp⟩
  generalize (fwAt ls H).more f size = mr at Hv Hnew J
  generalize mr.finish = mf at Hnew J
  generalize fwAt ls H = q at c0 c1 c2 D E J Hrd Hnew Rd Sh Hm
  obtain ⟨t, u, fl⟩ := q
  simp only [Fw.val, Fw.pay] at c0 c1 c2 D E J Hrd Hnew Rd Sh Hm
  generalize fl.length = m at c2 D E J Rd Sh Hm
  have D' : Hid _ := D
  have E' : Hid _ := E
  have J' : Hid _ := J
  clear D E J hr hcap hnil hin AP2' Hp2
  go_wp2_with fail
  refine (D'.out _).mono ?_
  rintro e w6 ⟨rfl, q6⟩
  have hfd := fun w => payRow (.slice ak m ck) t u w
  go_wp2_with fail
  clear hfd
  refine (E'.out _).mono ?_
  rintro e w7 ⟨rfl, hw7⟩
  obtain rfl := hw7.symm
  have B6 : Hid (Below w3.heap.size w3 w6) := B5.out.trans (q6.mono B5.out.size)
  have X6 : Hid _ := lift.out w6 B6.out
  have C6 : Hid (Below w5.heap.size w5 w6) := q6
  clear q6 E' hw7 cb c0 c1 c2 hb
  by_cases g5 : (m : Int) = 40
  · obtain ⟨e1, e2⟩ := no.out (by rw [Hm.out]; exact decide_eq_false (fun g => g.2.2 (by omega)))
    subst e1 e2
    rw [decide_eq_true g5]
    clear g5
    go_upto_region 5 with fail
    go_wp2_with (first | (refine wpList_load_row rfl 26 (.tmp 8) rfl B rfl _ _ _ _ X6.out.2.2.1 Try.underlying26 rfl (by kernel_rfl) ?_) | (refine wpList_store_row rfl 26 (.tmp 6) (.tmp _) rfl (w.heap.size + 1) #[.int .i64 f, .slice vx n vc] rfl rfl _ _ X6.out.2.1 (by kernel_rfl) rfl (by simp [Value.oneCell']) ?_))
    exact bodyPost_ret (results_row_tmp Try.results18 _ _ (w.heap.size + 1) _ _ _ _ (.bool false) rfl rfl (setRow_heap _ (w.heap.size + 1) _ _ _ _ X6.out.2.1) Try.underlying26 rfl (by kernel_rfl)) rfl ⟨⟨_, rfl, fin.out _ _ B6.out (fun k hk => setRow_other _ _ _ _ hk) (by rw [size_setRow]; exact Nat.le_refl _)⟩, below_setRow X6.out.2.2.2.1 (by omega) _⟩
  rw [decide_eq_false g5]
  have hmay : may = true := by rw [Hm.out]; exact decide_eq_true ⟨⟨by omega, by omega⟩, g3, by omega⟩
  have e1 : F = ⟨f, ls.set H ⟨t, mf, fl ++ [size]⟩⟩ := by rw [Hv.out, hmay, Hnew.out]; rfl
  have e2 : bb = true := by rw [Hb.out, hmay]; rfl
  subst e1 e2
  clear g5 hmay Hm Hv Hb Hnew no fin
  have hn2 : 0 < n := by omega
  obtain ⟨xg, xc, exv, xg1, xg2⟩ := Y3.out.1.place (j := H) hHl'
  rw [Hn.out] at exv
  cases exv
  have Cs : Hid (∀ x, Below w3.heap.size w3 x → ((∃ y, x.cell? ⟨xg, H * 3, none⟩ = some y) ∧ x.frozen? ⟨xg, H * 3, none⟩ = false) ∧ ((∃ y, x.cell? ⟨xg, H * 3 + 1, none⟩ = some y) ∧ x.frozen? ⟨xg, H * 3 + 1, none⟩ = false) ∧ ((∃ y, x.cell? ⟨xg, H * 3 + 2, none⟩ = some y) ∧ x.frozen? ⟨xg, H * 3 + 2, none⟩ = false) ∧ xg < x.heap.size) := fun x g => by
    have gg := Y3.out.1.below (low.out x g)
    rw [← Hn.out] at gg
    obtain ⟨d0, d1, d2, d3⟩ := gg.cells hHl'
    exact ⟨⟨⟨_, d0⟩, d3 _⟩, ⟨⟨_, d1⟩, d3 _⟩, ⟨⟨_, d2⟩, d3 _⟩, Nat.lt_of_lt_of_le xg2 (low.out x g).size⟩
  have Put : Hid (∀ (x1 x2 : World) (p : Option Addr) (qc : Nat), Below w3.heap.size w3 x1 → Below x1.heap.size x1 x2 → IRow x1.heap.size x2 (.slice p (m + 1) qc) (fl ++ [size]) →
      ∃ rs', FwG (w1.heap.size + 2) (.slice (some ⟨xg, 0, none⟩) n vc) rs' (ls.set H ⟨t, mf, fl ++ [size]⟩) (((x2.setCell ⟨xg, H * 3, none⟩ (.int .i64 t)).setCell ⟨xg, H * 3 + 1, none⟩ (.int .i64 mf)).setCell ⟨xg, H * 3 + 2, none⟩ (.slice p (m + 1) qc))) := fun x1 x2 p qc g1 g2 g3 => by
    have gg := Y3.out.1
    rw [← Hn.out] at gg
    have h1 := (low.out x1 g1).size
    have bb := (low.out x1 g1).trans (g2.mono h1)
    have := gg.flow (W := x2) (r := ⟨t, mf, fl ++ [size]⟩) hHl' bb (g3.mono h1) (by omega)
    rw [Hn.out] at this
    exact ⟨_, this⟩
  have w6d : Hid (Below w3.heap.size w3 w6.drew ∧ Below w5.heap.size w5 w6.drew) := ⟨B6.out.drew, C6.out.drew⟩
  have cb : w6.cell? ⟨w.heap.size, 1, none⟩ = some (.slice (some ⟨b, off, none⟩) n c) := X6.out.1.cell 1 rfl
  have ca : w6.cell? ⟨w.heap.size, 0, none⟩ = some (.int .i64 f) := X6.out.1.cell 0 rfl
  have cx : w6.cell? ⟨B, 1, none⟩ = some (.slice (some ⟨xg, 0, none⟩) n vc) := X6.out.2.2.1.cell 1 rfl
  have hb6 : b < w6.heap.size ∧ B < w6.heap.size := ⟨by obtain ⟨b', off', ak', ck', ha', hb', -⟩ := X6.out.2.2.2.2 H hHl'; cases ha'; exact hb', X6.out.2.2.1.under⟩
  obtain ⟨hbl, hBl⟩ := hb6
  obtain ⟨c0, c1, c2⟩ := Rd.out w6 C6.out
  have Fx : Hid (∀ (x2 : World) (p : Option Addr) (qc : Nat), Below w3.heap.size w3 x2 → (∃ rs', FwG (w1.heap.size + 2) (.slice (some ⟨xg, 0, none⟩) n vc) rs' (ls.set H ⟨t, mf, fl ++ [size]⟩) (((x2.setCell ⟨xg, H * 3, none⟩ (.int .i64 t)).setCell ⟨xg, H * 3 + 1, none⟩ (.int .i64 mf)).setCell ⟨xg, H * 3 + 2, none⟩ (.slice p (m + 1) qc))) →
      Boxed (((x2.setCell ⟨xg, H * 3, none⟩ (.int .i64 t)).setCell ⟨xg, H * 3 + 1, none⟩ (.int .i64 mf)).setCell ⟨xg, H * 3 + 2, none⟩ (.slice p (m + 1) qc)) (w.heap.size + 1) #[.int .i64 0, .slice none 0 0] 26 ∧ Boxed (((x2.setCell ⟨xg, H * 3, none⟩ (.int .i64 t)).setCell ⟨xg, H * 3 + 1, none⟩ (.int .i64 mf)).setCell ⟨xg, H * 3 + 2, none⟩ (.slice p (m + 1) qc)) B #[.int .i64 f, .slice (some ⟨xg, 0, none⟩) n vc] 26 ∧ Below w.heap.size w (((x2.setCell ⟨xg, H * 3, none⟩ (.int .i64 t)).setCell ⟨xg, H * 3 + 1, none⟩ (.int .i64 mf)).setCell ⟨xg, H * 3 + 2, none⟩ (.slice p (m + 1) qc)) ∧ (∃ rs', FwG (w1.heap.size + 2) (.slice (some ⟨xg, 0, none⟩) n vc) rs' (ls.set H ⟨t, mf, fl ++ [size]⟩) (((x2.setCell ⟨xg, H * 3, none⟩ (.int .i64 t)).setCell ⟨xg, H * 3 + 1, none⟩ (.int .i64 mf)).setCell ⟨xg, H * 3 + 2, none⟩ (.slice p (m + 1) qc)))) := fun x2 p qc g1 g2 => by
    have zz := lift.out x2 g1
    have h0 := Y3.out.2.2.1
    have hB := HB.out
    have oth := fun y (h : y ≠ xg) => set3_other x2 xg y (H * 3) (H * 3 + 1) (H * 3 + 2) (.int .i64 t) (.int .i64 mf) (.slice p (m + 1) qc) h
    refine ⟨?_, ?_, ?_, g2⟩
    · unfold Boxed; rw [oth _ (by omega)]; exact zz.2.1
    · unfold Boxed; rw [oth _ (by omega)]; exact zz.2.2.1
    · exact ((zz.2.2.2.1.setCell (by show w.heap.size ≤ xg; omega) _).setCell (by show w.heap.size ≤ xg; omega) _).setCell (by show w.heap.size ≤ xg; omega) _
  have Fy : Hid (∀ (Y x : World), Boxed Y B #[.int .i64 f, .slice (some ⟨xg, 0, none⟩) n vc] 26 → (∃ rs', FwG (w1.heap.size + 2) (.slice (some ⟨xg, 0, none⟩) n vc) rs' (ls.set H ⟨t, mf, fl ++ [size]⟩) Y) → (∀ k, k ≠ w.heap.size + 1 → x.heap[k]? = Y.heap[k]?) → Y.heap.size ≤ x.heap.size → FsIn w.heap.size x.heap.size x (.agg #[.int .i64 f, .slice (some ⟨xg, 0, none⟩) n vc]) ⟨f, ls.set H ⟨t, mf, fl ++ [size]⟩⟩) := fun Y x hBx g2 hx hs => by
    obtain ⟨rs', g2⟩ := g2
    refine ⟨some ⟨xg, 0, none⟩, vc, by simp [Fs.val, Hn.out], ?_⟩
    show FwsIn _ _ _ (.slice (some ⟨xg, 0, none⟩) (ls.set H ⟨t, mf, fl ++ [size]⟩).length vc) _
    rw [List.length_set, Hn.out]
    have h0 := Y3.out.2.2.1
    exact ⟨rs', (g2.done.keep hs fun k k1 k2 => hx k (by omega)).wide (by omega) hs (Nat.le_refl _)⟩
  go_upto_region 6 with fail
  go_region_law (first | (refine stepCall rfl 33 rfl #[.agg #[.int .i64 t, .int .i64 u, .slice ak m ck]] (by kernel_rfl) (D'.out w6.drew) ?_; rintro e x1 ⟨rfl, q1⟩; refine ⟨_, rfl, ?_⟩; have E1 : Hid (Below w3.heap.size w3 x1 ∧ Below w5.heap.size w5 x1) := ⟨w6d.out.1.trans (q1.mono B6.out.size), w6d.out.2.trans (q1.mono C6.out.size)⟩; have Z1 : Hid _ := lift.out x1 E1.out.1; have cb1 : x1.cell? ⟨w.heap.size, 1, none⟩ = some (.slice (some ⟨b, off, none⟩) n c) := Z1.out.1.cell 1 rfl; have ca1 : x1.cell? ⟨w.heap.size, 0, none⟩ = some (.int .i64 f) := Z1.out.1.cell 0 rfl; have cx1 : x1.cell? ⟨B, 1, none⟩ = some (.slice (some ⟨xg, 0, none⟩) n vc) := Z1.out.2.2.1.cell 1 rfl; clear q1) | (refine stepCall rfl 52 rfl #[.agg #[.slice ak m ck, .int .i64 t, .int .i64 u], .int .i64 size, .int .i64 f] (by kernel_rfl) (J'.out x1 (Hrd.out _ E1.out.2)) ?_; rintro e x2 ⟨⟨vj, rfl, q2⟩, q3⟩; obtain ⟨p, qc, ev⟩ := Sh.out q2; subst ev; refine ⟨_, rfl, ?_⟩; have E2 : Hid (Below w3.heap.size w3 x2) := E1.out.1.trans (q3.mono E1.out.1.size); have P2 : Hid _ := Put.out x1 x2 p qc E1.out.1 q3 q2; have Z2 : Hid _ := lift.out x2 E2.out; have cx2 : x2.cell? ⟨B, 1, none⟩ = some (.slice (some ⟨xg, 0, none⟩) n vc) := Z2.out.2.2.1.cell 1 rfl; obtain ⟨⟨⟨y0, hy0⟩, hz0⟩, ⟨⟨y1, hy1⟩, hz1⟩, ⟨⟨yy2, hy2⟩, hz2⟩, hxl⟩ := Cs.out x2 E2.out; clear q2 q3))
  all_goals (
    have F : Hid _ := Fx.out x2 p qc E2.out P2.out
    clear P2 Z2 Z1 E1 cb1 ca1 cx1 cx2 hy0 hy1 hy2 hz0 hz1 hz2 hxl
    generalize (((x2.setCell ⟨xg, H * 3, none⟩ (.int .i64 t)).setCell ⟨xg, H * 3 + 1, none⟩ (.int .i64 mf)).setCell ⟨xg, H * 3 + 2, none⟩ (.slice p (m + 1) qc)) = Y at F ⊢
    go_wp2_with (first | (refine wpList_load_row rfl 26 (.tmp 8) rfl B rfl _ _ _ _ F.out.2.1 Try.underlying26 rfl (by kernel_rfl) ?_) | (refine wpList_store_row rfl 26 (.tmp 6) (.tmp _) rfl (w.heap.size + 1) #[.int .i64 f, .slice (some ⟨xg, 0, none⟩) n vc] rfl rfl _ _ F.out.1 (by kernel_rfl) rfl (by simp [Value.oneCell']) ?_))
    exact bodyPost_ret (results_row_tmp Try.results18 _ _ (w.heap.size + 1) _ _ _ _ (.bool true) rfl rfl (setRow_heap _ (w.heap.size + 1) _ _ _ _ F.out.1) Try.underlying26 rfl (by kernel_rfl)) rfl ⟨⟨_, rfl, Fy.out _ _ F.out.2.1 F.out.2.2.2 (fun k hk => setRow_other _ _ _ _ hk) (by rw [size_setRow]; exact Nat.le_refl _)⟩, below_setRow F.out.2.2.1 (by omega) _⟩)
end Go.Proofs.Ytllmkolchgmjoaa
