/-
  The walk of the model's Came. By the verifier, by program.
-/
import Derived.Test.YtojmghnbekneiaaDlCopyS
import Derived.Test.YtojmghnbekneiaaHsPut
import Derived.Test.YtojmghnbekneiaaDlSpecW
namespace Go.Proofs.Ytojmghnbekneiaa
open Go.RowKit

/-- No hosts lie wherever. -/
theorem HssIn.none (b t : Nat) (w : World) : HssIn b t w (.slice none 0 0) [] :=
  ⟨[], ⟨SlIn.nil _ _ _ _ _ _, rfl, fun i hi => by simp at hi, fun i hi => by simp at hi, fun i hi => by simp at hi, fun i j k o hi => by simp at hi, fun i k o hi => by simp at hi⟩⟩
theorem flAt_set {l : List Int} {j : Nat} {z : Int} (h : j < l.length) : flAt (l.set j z) j = z := by simp [flAt, h]

set_option maxHeartbeats 3200000 in
set_option maxRecDepth 100000 in
theorem specCame (d : Dl) (v : Value) (host flow : Int) (w : World) (hB : d.big ≤ 1048576) (h : Hid (DlAt w v d)) :
    Calls Try.prog 19 #[v, .int .i64 host, .int .i64 flow] w fun e w' => (∃ v', e = .returned (.tuple #[v', .bool (d.cameB host flow)]) ∧ DlIn w.heap.size w'.heap.size w' v' (d.came host flow)) ∧ Below w.heap.size w w' := by
  have A1 := fun v w h => specDealOk d v w hB h
  have A3 := fun a c w h => specCopyD d a c w hB h
  obtain ⟨a, c, rfl, k1⟩ := h.out
  clear h
  have Hv : Hid (d.came host flow = if d.ok = true then (if d.mayCome host flow = true then ⟨d.turn, d.hosts.set host.toNat ((hsAt d.hosts host.toNat).more flow.toNat)⟩ else d) else ⟨0, []⟩) := rfl
  have Hb : Hid (d.cameB host flow = (d.ok && d.mayCome host flow)) := rfl
  have Hm : Hid (d.mayCome host flow = decide ((0 ≤ host ∧ host < (d.hosts.length : Int)) ∧ (0 ≤ flow ∧ flow < ((hsAt d.hosts host.toNat).flows.length : Int)) ∧ flAt (hsAt d.hosts host.toNat).flows flow.toNat ≠ 1000)) := rfl
  have Hg : Hid (d.ok = true → d.hosts.length ≤ 8 ∧ ∀ k, k < d.hosts.length → (hsAt d.hosts k).ok = true) := fun hk => ⟨(Dl.ok_iff.1 hk).1.2, fun k h => Dl.ok_at hk h⟩
  generalize d.came host flow = F at Hv ⊢
  generalize d.cameB host flow = bb at Hb ⊢
  have A2 : ∀ a c w, HssAt w a d.hosts → Calls Try.prog 11 #[.agg #[.int .i64 d.turn, .slice a d.hosts.length c]] w fun e w' => e = .returned (.bool d.ok) ∧ Below w.heap.size w w' := fun a c w h => A1 _ w ⟨a, c, rfl, h⟩
  generalize d.mayCome host flow = may at Hv Hb Hm
  generalize d.ok = ok at A2 Hv Hb Hg
  clear A1 hB
  obtain ⟨f, ls⟩ := d
  simp only [Dl.val] at A2 A3 Hv Hm Hg k1 ⊢
  obtain ⟨n, hn⟩ : ∃ n, ls.length = n := ⟨_, rfl⟩
  have Hn : Hid (ls.length = n) := hn
  rw [hn] at A2 A3 Hm Hg ⊢
  clear hn
  have A2' : Hid _ := A2
  have A3' : Hid _ := A3
  clear A2 A3
  have X : Hid (HssAt ((w.alloc (.cells #[.int .i64 f, .slice a n c] 26)).alloc (.cells #[.int .i64 0, .slice none 0 0] 26)) a ls ∧ Boxed ((w.alloc (.cells #[.int .i64 f, .slice a n c] 26)).alloc (.cells #[.int .i64 0, .slice none 0 0] 26)) w.heap.size #[.int .i64 f, .slice a n c] 26 ∧ Boxed ((w.alloc (.cells #[.int .i64 f, .slice a n c] 26)).alloc (.cells #[.int .i64 0, .slice none 0 0] 26)) (w.heap.size + 1) #[.int .i64 0, .slice none 0 0] 26 ∧ Below w.heap.size w ((w.alloc (.cells #[.int .i64 f, .slice a n c] 26)).alloc (.cells #[.int .i64 0, .slice none 0 0] 26))) := by
    refine ⟨(k1.alloc _).alloc _, (Boxed.new w _ _).more _, ?_, ((Below.refl _ _).alloc (Nat.le_refl _) _).alloc (by simp) _⟩
    have := Boxed.new (w.alloc (.cells #[.int .i64 f, .slice a n c] 26)) #[.int .i64 0, .slice none 0 0] 26
    simpa using this
  clear k1
  go_enter Try.func19, Try.ntmps19
  go_wp2_with (refine wpList_load_row rfl 26 (.tmp 3) rfl w.heap.size rfl _ _ _ _ X.out.2.1 Try.underlying26 rfl (by kernel_rfl) ?_)
  refine (A2'.out _ _ _ X.out.1).mono ?_
  rintro e w1 ⟨rfl, q⟩
  have X1 : Hid (HssAt w1 a ls ∧ Boxed w1 w.heap.size #[.int .i64 f, .slice a n c] 26 ∧ Boxed w1 (w.heap.size + 1) #[.int .i64 0, .slice none 0 0] 26 ∧ Below w.heap.size w w1) := ⟨X.out.1.below q, X.out.2.1.below X.out.2.1.under q, X.out.2.2.1.below X.out.2.2.1.under q, X.out.2.2.2.trans (q.mono X.out.2.2.2.size)⟩
  clear q X A2'
  cases ok
  · have e1 : F = ⟨0, []⟩ := by rw [Hv.out]; rfl
    have e2 : bb = false := by rw [Hb.out]; rfl
    subst e1 e2
    go_wp2_with (refine wpList_store_row rfl 26 (.tmp 6) (.tmp 12) rfl (w.heap.size + 1) #[.int .i64 0, .slice none 0 0] rfl rfl _ _ X1.out.2.2.1 (by kernel_rfl) rfl (by simp [Value.oneCell']) ?_)
    exact bodyPost_ret (results_row_tmp Try.results19 _ _ (w.heap.size + 1) _ _ _ _ (.bool false) rfl rfl (setRow_heap _ (w.heap.size + 1) _ _ _ _ X1.out.2.2.1) Try.underlying26 rfl (by kernel_rfl)) rfl ⟨⟨_, rfl, none, 0, rfl, HssIn.none _ _ _⟩, below_setRow X1.out.2.2.2 (by omega) _⟩
  go_wp2_with (refine wpList_load_row rfl 26 (.tmp 3) rfl w.heap.size rfl _ _ _ _ X1.out.2.1 Try.underlying26 rfl (by kernel_rfl) ?_)
  refine (A3'.out _ _ _ X1.out.1).mono ?_
  rintro e w2 ⟨⟨vv, rs, rfl, hG⟩, q⟩
  obtain ⟨vx, vc, ev⟩ := hsrows_shape hG.outer
  rw [Hn.out] at ev
  subst ev
  have N : Hid (Boxed (w2.alloc (.cells #[.int .i64 0, .slice none 0 0] 26)) w2.heap.size #[.int .i64 0, .slice none 0 0] 26) := Boxed.new _ _ _
  obtain ⟨w3, hw3⟩ : ∃ w3, (w2.alloc (.cells #[.int .i64 0, .slice none 0 0] 26)).setRow w2.heap.size #[.int .i64 f, .slice vx n vc] = w3 := ⟨_, rfl⟩
  obtain ⟨B, hB⟩ : ∃ B, w2.heap.size = B := ⟨_, rfl⟩
  have b3 : Below w2.heap.size w2 w3 := by rw [← hw3]; exact below_setRow ((Below.refl _ _).alloc (Nat.le_refl _) _) (Nat.le_refl _) _
  have X3 : Hid (Boxed w3 w.heap.size #[.int .i64 f, .slice a n c] 26 ∧ Boxed w3 (w.heap.size + 1) #[.int .i64 0, .slice none 0 0] 26 ∧ Boxed w3 B #[.int .i64 f, .slice vx n vc] 26 ∧ Below w.heap.size w w3) := by
    have u1 := X1.out.2.2.1.under
    have u2 := q.size
    refine ⟨(X1.out.2.1.below X1.out.2.1.under q).below (by omega) b3, (X1.out.2.2.1.below u1 q).below (by omega) b3, ?_, (X1.out.2.2.2.trans (q.mono X1.out.2.2.2.size)).trans (b3.mono (by have := X1.out.2.2.2.size; omega))⟩
    rw [← hB, ← hw3]
    exact setRow_heap _ _ _ _ _ _ N.out
  have Y3 : Hid (HssAt w3 a ls ∧ HsV (w1.heap.size + 3) B w3 (.slice vx n vc) rs ls ∧ w.heap.size + 2 ≤ w1.heap.size ∧ w1.heap.size ≤ B) := ⟨(X1.out.1.below q).below b3, by rw [← hB]; exact (hG.done).below b3, X1.out.2.2.1.under, by rw [← hB]; exact q.size⟩
  have HB : Hid _ := hB
  have H3 : Hid _ := hw3
  clear hB hw3 b3 hG q X1
  go_upto_region 4 with (refine wpList_store_row rfl 26 (.tmp 8) (.tmp 14) rfl w2.heap.size #[.int .i64 f, .slice vx n vc] rfl rfl _ _ N.out (by kernel_rfl) rfl (by simp [Value.oneCell']) ?_)
  rw [H3.out, HB.out]
  clear N H3 HB A3'
  obtain ⟨hl8, hg⟩ := Hg.out (by first | exact trivial | exact rfl)
  have HG : Hid _ := hg
  clear hg Hg
  have fin : Hid (∀ x : World, (∀ k, k ≠ w.heap.size + 1 → x.heap[k]? = w3.heap[k]?) → w3.heap.size ≤ x.heap.size → DlIn w.heap.size x.heap.size x (.agg #[.int .i64 f, .slice vx n vc]) ⟨f, ls⟩) := fun x hx hs => by
    refine ⟨vx, vc, by simp [Dl.val, Hn.out], ?_⟩
    show HssIn _ _ _ (.slice vx ls.length vc) ls
    rw [Hn.out]
    have h1 := Y3.out.2.2
    have h2 := X3.out.2.2.1.under
    exact ⟨rs, (Y3.out.2.1.keep hs fun k k1 k2 => hx k (by omega)).wide (by omega) (by omega) (Nat.le_refl _)⟩
  have no : Hid (may = false → F = ⟨f, ls⟩ ∧ bb = false) := fun e => ⟨by rw [Hv.out, e]; rfl, by rw [Hb.out, e]; rfl⟩
  have cb : w3.cell? ⟨w.heap.size, 1, none⟩ = some (.slice a n c) := X3.out.1.cell 1 rfl
  by_cases g1 : host < 0
  · obtain ⟨e1, e2⟩ := no.out (by rw [Hm.out]; exact decide_eq_false (fun g => by omega))
    subst e1 e2
    go_upto_region 5 with fail
    go_wp2_with (first | (refine wpList_load_row rfl 26 (.tmp 8) rfl B rfl _ _ _ _ X3.out.2.2.1 Try.underlying26 rfl (by kernel_rfl) ?_) | (refine wpList_store_row rfl 26 (.tmp 6) (.tmp _) rfl (w.heap.size + 1) #[.int .i64 f, .slice vx n vc] rfl rfl _ _ X3.out.2.1 (by kernel_rfl) rfl (by simp [Value.oneCell']) ?_))
    exact bodyPost_ret (results_row_tmp Try.results19 _ _ (w.heap.size + 1) _ _ _ _ (.bool false) rfl rfl (setRow_heap _ (w.heap.size + 1) _ _ _ _ X3.out.2.1) Try.underlying26 rfl (by kernel_rfl)) rfl ⟨⟨_, rfl, fin.out _ (fun k hk => setRow_other _ _ _ _ hk) (by rw [size_setRow]; exact Nat.le_refl _)⟩, below_setRow X3.out.2.2.2 (by omega) _⟩
  by_cases g2 : (n : Int) ≤ host
  · obtain ⟨e1, e2⟩ := no.out (by rw [Hm.out]; exact decide_eq_false (fun g => by omega))
    subst e1 e2
    go_upto_region 5 with fail
    go_wp2_with (first | (refine wpList_load_row rfl 26 (.tmp 8) rfl B rfl _ _ _ _ X3.out.2.2.1 Try.underlying26 rfl (by kernel_rfl) ?_) | (refine wpList_store_row rfl 26 (.tmp 6) (.tmp _) rfl (w.heap.size + 1) #[.int .i64 f, .slice vx n vc] rfl rfl _ _ X3.out.2.1 (by kernel_rfl) rfl (by simp [Value.oneCell']) ?_))
    exact bodyPost_ret (results_row_tmp Try.results19 _ _ (w.heap.size + 1) _ _ _ _ (.bool false) rfl rfl (setRow_heap _ (w.heap.size + 1) _ _ _ _ X3.out.2.1) Try.underlying26 rfl (by kernel_rfl)) rfl ⟨⟨_, rfl, fin.out _ (fun k hk => setRow_other _ _ _ _ hk) (by rw [size_setRow]; exact Nat.le_refl _)⟩, below_setRow X3.out.2.2.2 (by omega) _⟩
  obtain ⟨H, hH⟩ : ∃ H : Nat, host = H := ⟨host.toNat, by omega⟩
  subst hH
  rw [Int.toNat_natCast] at Hm Hv
  have hHl : H < n := by omega
  have hHl' : H < ls.length := by rw [Hn.out]; exact hHl
  have d1 : decide ((H : Int) < 0) = false := decide_eq_false (by omega)
  have d2 : decide (n ≤ H) = false := decide_eq_false (by omega)
  have g2' : (H : Int) < (n : Int) := by omega
  by_cases g3 : flow < 0
  · obtain ⟨e1, e2⟩ := no.out (by rw [Hm.out]; exact decide_eq_false (fun g => by omega))
    subst e1 e2
    go_upto_region 5 with fail
    go_wp2_with (first | (refine wpList_load_row rfl 26 (.tmp 8) rfl B rfl _ _ _ _ X3.out.2.2.1 Try.underlying26 rfl (by kernel_rfl) ?_) | (refine wpList_store_row rfl 26 (.tmp 6) (.tmp _) rfl (w.heap.size + 1) #[.int .i64 f, .slice vx n vc] rfl rfl _ _ X3.out.2.1 (by kernel_rfl) rfl (by simp [Value.oneCell']) ?_))
    exact bodyPost_ret (results_row_tmp Try.results19 _ _ (w.heap.size + 1) _ _ _ _ (.bool false) rfl rfl (setRow_heap _ (w.heap.size + 1) _ _ _ _ X3.out.2.1) Try.underlying26 rfl (by kernel_rfl)) rfl ⟨⟨_, rfl, fin.out _ (fun k hk => setRow_other _ _ _ _ hk) (by rw [size_setRow]; exact Nat.le_refl _)⟩, below_setRow X3.out.2.2.2 (by omega) _⟩
  obtain ⟨b, off, ak, ck, ha, hb, ⟨c0, c1⟩, hr, -⟩ := Y3.out.1 H hHl'
  subst ha
  have hin := (Hs.ok_iff.1 (HG.out H hHl)).1.2
  have hval := (Hs.ok_iff.1 (HG.out H hHl)).2.2
  obtain ⟨a1, e1c, ev, -⟩ := Y3.out.2.1.cap H hHl'
  have hnumH := Y3.out.2.1.num H hHl'
  have Put : Hid (∀ {i : Nat}, i < (hsAt ls H).flows.length → ∀ {x off c : Nat}, (hsrAt rs H).hd = .slice (some ⟨x, off, none⟩) (hsAt ls H).flows.length c → ∀ z : Int, HsV (w1.heap.size + 3) B (w3.setCell ⟨x, off + i, none⟩ (.int .i64 z)) (.slice vx n vc) rs (ls.set H ⟨(hsAt ls H).turn, (hsAt ls H).flows.set i z⟩)) := @fun i hi x off c e z => Y3.out.2.1.put hHl' hi e z
  have Rw : Hid (IntIn (w1.heap.size + 3) B w3 (hsrAt rs H).hd (hsAt ls H).flows) := Y3.out.2.1.row H hHl'
  have hcl := hscells_length rs
  have hrl : rs.length = n := Y3.out.2.1.len.trans Hn.out
  have hne : hscells rs ≠ [] := by intro e; rw [e] at hcl; simp at hcl; omega
  have ho0 : SlIn (w1.heap.size + 3) B w3 (.slice vx n vc) n (hscells rs) := by have := Y3.out.2.1.outer; rw [Hn.out] at this; exact this
  obtain ⟨xg, xo, exv, -, -, -⟩ := ho0.some hne
  subst exv
  have oc : w3.cell? ⟨xg, xo + (H * 2 + 1), none⟩ = some (hsrAt rs H).hd := by
    have ho := Y3.out.2.1.outer
    rw [Hn.out] at ho
    have := (ho.cells (H * 2 + 1) (by omega)).1
    rw [(hscells_get rs H (by omega)).2] at this
    exact this
  rw [← Nat.add_assoc, ev] at oc
  have Hmore : Hid ((hsAt ls H).more flow.toNat = ⟨(hsAt ls H).turn, (hsAt ls H).flows.set flow.toNat (flAt (hsAt ls H).flows flow.toNat + 1)⟩) := rfl
  generalize (hsAt ls H).more flow.toNat = mr at Hv Hmore
  generalize hq : hsAt ls H = q at c0 c1 hr hin hval ev Put Rw oc Hmore Hm
  obtain ⟨t, fl⟩ := q
  simp only at c0 c1 hr hin hval ev Put Rw oc Hmore Hm
  obtain ⟨m, hml⟩ : ∃ m, fl.length = m := ⟨_, rfl⟩
  have Hml : Hid (fl.length = m) := hml
  rw [hml] at c1 hin ev oc Hm
  have Hr : Hid (IntsAt w3 ak fl) := hr
  have Hval : Hid (∀ x ∈ fl, 0 ≤ x ∧ x ≤ 1000) := hval
  clear hml hr hval hq
  by_cases g4 : (m : Int) ≤ flow
  · obtain ⟨e1, e2⟩ := no.out (by rw [Hm.out]; exact decide_eq_false (fun g => by omega))
    subst e1 e2
    go_upto_region 5 with fail
    go_wp2_with (first | (refine wpList_load_row rfl 26 (.tmp 8) rfl B rfl _ _ _ _ X3.out.2.2.1 Try.underlying26 rfl (by kernel_rfl) ?_) | (refine wpList_store_row rfl 26 (.tmp 6) (.tmp _) rfl (w.heap.size + 1) #[.int .i64 f, .slice (some ⟨xg, xo, none⟩) n vc] rfl rfl _ _ X3.out.2.1 (by kernel_rfl) rfl (by simp [Value.oneCell']) ?_))
    exact bodyPost_ret (results_row_tmp Try.results19 _ _ (w.heap.size + 1) _ _ _ _ (.bool false) rfl rfl (setRow_heap _ (w.heap.size + 1) _ _ _ _ X3.out.2.1) Try.underlying26 rfl (by kernel_rfl)) rfl ⟨⟨_, rfl, fin.out _ (fun k hk => setRow_other _ _ _ _ hk) (by rw [size_setRow]; exact Nat.le_refl _)⟩, below_setRow X3.out.2.2.2 (by omega) _⟩
  obtain ⟨L, hL⟩ : ∃ L : Nat, flow = L := ⟨flow.toNat, by omega⟩
  subst hL
  rw [Int.toNat_natCast] at Hm Hmore
  have hLl : L < m := by omega
  have hLl' : L < fl.length := by rw [Hml.out]; exact hLl
  have d3 : decide ((L : Int) < 0) = false := decide_eq_false (by omega)
  have d4 : decide (m ≤ L) = false := decide_eq_false (by omega)
  have g4' : (L : Int) < (m : Int) := by omega
  obtain ⟨b5, o5, ha5, hb5, c5⟩ := Hr.out L hLl'
  subst ha5
  have e5 : fl[L]?.getD 0 = flAt fl L := rfl
  rw [e5] at c5
  have hz := Hval.out _ (flAt_mem hLl')
  -- where the copy's list lies
  have hRw := Rw.out
  unfold IntIn at hRw
  rw [ev, Hml.out] at hRw
  obtain ⟨yg, yo, eya, -, -, -⟩ := SlIn.some hRw (by intro e; have := congrArg List.length e; rw [List.length_map, List.length_nil] at this; omega)
  subst eya
  have yc := SlIn.cells hRw L (by rw [List.length_map]; exact hLl')
  rw [show ((fl.map (Value.int .i64))[L]?.getD undef) = .int .i64 (flAt fl L) by rw [List.getElem?_map, flAt, List.getElem?_eq_getElem hLl']; rfl] at yc
  obtain ⟨yc1, yc2⟩ := yc
  have P4 := fun z => Put.out hLl' (by rw [ev, Hml.out]) z
  generalize hfz : flAt fl L = z at c5 hz yc1 Hm Hmore
  have P5 : Hid (HsV (w1.heap.size + 3) B (w3.setCell ⟨yg, yo + L, none⟩ (.int .i64 (z + 1))) (.slice (some ⟨xg, xo, none⟩) n vc) rs (ls.set H ⟨t, fl.set L (z + 1)⟩)) := P4 (z + 1)
  have yb := SlIn.in hRw (k := yg) (o := yo + L) ⟨yo, m, e1c, rfl, by omega, by rw [List.length_map]; omega⟩
  clear e5 hRw P4 Put hfz
  by_cases g5 : z = 1000
  · obtain ⟨e1, e2⟩ := no.out (by rw [Hm.out]; exact decide_eq_false (fun g => g.2.2 g5))
    subst e1 e2
    subst g5
    go_upto_region 5 with fail
    go_wp2_with (first | (refine wpList_load_row rfl 26 (.tmp 8) rfl B rfl _ _ _ _ X3.out.2.2.1 Try.underlying26 rfl (by kernel_rfl) ?_) | (refine wpList_store_row rfl 26 (.tmp 6) (.tmp _) rfl (w.heap.size + 1) #[.int .i64 f, .slice (some ⟨xg, xo, none⟩) n vc] rfl rfl _ _ X3.out.2.1 (by kernel_rfl) rfl (by simp [Value.oneCell']) ?_))
    exact bodyPost_ret (results_row_tmp Try.results19 _ _ (w.heap.size + 1) _ _ _ _ (.bool false) rfl rfl (setRow_heap _ (w.heap.size + 1) _ _ _ _ X3.out.2.1) Try.underlying26 rfl (by kernel_rfl)) rfl ⟨⟨_, rfl, fin.out _ (fun k hk => setRow_other _ _ _ _ hk) (by rw [size_setRow]; exact Nat.le_refl _)⟩, below_setRow X3.out.2.2.2 (by omega) _⟩
  have d5 : (z == 1000) = false := by simpa using g5
  have e1 : F = ⟨f, ls.set H ⟨t, fl.set L (z + 1)⟩⟩ := by
    rw [Hv.out, show may = true by rw [Hm.out]; exact decide_eq_true ⟨⟨by omega, by omega⟩, ⟨by omega, by omega⟩, g5⟩, Hmore.out]
    rfl
  have e2 : bb = true := by rw [Hb.out, show may = true by rw [Hm.out]; exact decide_eq_true ⟨⟨by omega, by omega⟩, ⟨by omega, by omega⟩, g5⟩]; rfl
  subst e1 e2
  obtain ⟨z0, z1⟩ := hz
  have kw : IntKind.i64.wrap (z + 1) = z + 1 := by rw [IntKind.wrap_i64]; omega
  have co : w3.cell? ⟨B, 1, none⟩ = some (.slice (some ⟨xg, xo, none⟩) n vc) := X3.out.2.2.1.cell 1 rfl
  have yl : yg < w3.heap.size := Nat.lt_trans yb.2 X3.out.2.2.1.under
  have X5 : Hid (Boxed (w3.setCell ⟨yg, yo + L, none⟩ (.int .i64 (z + 1))) w.heap.size #[.int .i64 f, .slice (some ⟨b, off, none⟩) n c] 26 ∧ Boxed (w3.setCell ⟨yg, yo + L, none⟩ (.int .i64 (z + 1))) (w.heap.size + 1) #[.int .i64 0, .slice none 0 0] 26 ∧ Boxed (w3.setCell ⟨yg, yo + L, none⟩ (.int .i64 (z + 1))) B #[.int .i64 f, .slice (some ⟨xg, xo, none⟩) n vc] 26 ∧ Below w.heap.size w (w3.setCell ⟨yg, yo + L, none⟩ (.int .i64 (z + 1)))) := by
    have h1 := Y3.out.2.2
    exact ⟨X3.out.1.far (by omega) _ _, X3.out.2.1.far (by omega) _ _, X3.out.2.2.1.far (by omega) _ _, X3.out.2.2.2.setCell (by show w.heap.size ≤ yg; omega) _⟩
  have fin2 : Hid (∀ x : World, (∀ k, k ≠ w.heap.size + 1 → x.heap[k]? = (w3.setCell ⟨yg, yo + L, none⟩ (.int .i64 (z + 1))).heap[k]?) → w3.heap.size ≤ x.heap.size → DlIn w.heap.size x.heap.size x (.agg #[.int .i64 f, .slice (some ⟨xg, xo, none⟩) n vc]) ⟨f, ls.set H ⟨t, fl.set L (z + 1)⟩⟩) := fun x hx hs => by
    refine ⟨some ⟨xg, xo, none⟩, vc, by simp [Dl.val, Hn.out], ?_⟩
    show HssIn _ _ _ (.slice (some ⟨xg, xo, none⟩) (ls.set H ⟨t, fl.set L (z + 1)⟩).length vc) _
    rw [List.length_set, Hn.out]
    have h1 := Y3.out.2.2
    have h2 := X3.out.2.2.1.under
    exact ⟨rs, (P5.out.keep (by simpa [World.setCell] using hs) fun k k1 k2 => hx k (by omega)).wide (by omega) (by omega) (Nat.le_refl _)⟩
  go_upto_region 6 with fail
  go_region
  have X6 : Hid (Boxed (w3.setCell ⟨yg, yo + L, none⟩ (.int .i64 (z + 1))).drew w.heap.size #[.int .i64 f, .slice (some ⟨b, off, none⟩) n c] 26 ∧ Boxed (w3.setCell ⟨yg, yo + L, none⟩ (.int .i64 (z + 1))).drew (w.heap.size + 1) #[.int .i64 0, .slice none 0 0] 26 ∧ Boxed (w3.setCell ⟨yg, yo + L, none⟩ (.int .i64 (z + 1))).drew B #[.int .i64 f, .slice (some ⟨xg, xo, none⟩) n vc] 26 ∧ Below w.heap.size w (w3.setCell ⟨yg, yo + L, none⟩ (.int .i64 (z + 1))).drew) := ⟨X5.out.1, X5.out.2.1, X5.out.2.2.1, X5.out.2.2.2.drew⟩
  have hs6 : Hid (∀ k : Nat, ((w3.setCell ⟨yg, yo + L, none⟩ (.int .i64 (z + 1))).drew).heap[k]? = (w3.setCell ⟨yg, yo + L, none⟩ (.int .i64 (z + 1))).heap[k]?) := fun _ => rfl
  have hz6 : Hid (((w3.setCell ⟨yg, yo + L, none⟩ (.int .i64 (z + 1))).drew).heap.size = w3.heap.size) := by show Array.size _ = _; simp [World.setCell, World.drew]
  generalize (w3.setCell ⟨yg, yo + L, none⟩ (.int .i64 (z + 1))).drew = w5 at X6 hs6 hz6 ⊢
  clear X5
  go_wp2_with (first | (refine wpList_load_row rfl 26 (.tmp 8) rfl B rfl _ _ _ _ X6.out.2.2.1 Try.underlying26 rfl (by kernel_rfl) ?_) | (refine wpList_store_row rfl 26 (.tmp 6) (.tmp _) rfl (w.heap.size + 1) #[.int .i64 f, .slice (some ⟨xg, xo, none⟩) n vc] rfl rfl _ _ X6.out.2.1 (by kernel_rfl) rfl (by simp [Value.oneCell']) ?_))
  exact bodyPost_ret (results_row_tmp Try.results19 _ _ (w.heap.size + 1) _ _ _ _ (.bool true) rfl rfl (setRow_heap _ (w.heap.size + 1) _ _ _ _ X6.out.2.1) Try.underlying26 rfl (by kernel_rfl)) rfl ⟨⟨_, rfl, fin2.out _ (fun k hk => (setRow_other _ _ _ _ hk).trans (hs6.out k)) (by rw [size_setRow, hz6.out]; exact Nat.le_refl _)⟩, below_setRow X6.out.2.2.2 (by omega) _⟩
end Go.Proofs.Ytojmghnbekneiaa
