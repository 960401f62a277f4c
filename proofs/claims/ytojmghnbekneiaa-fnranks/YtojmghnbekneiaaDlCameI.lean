/-
  The walk of the program's Came. By the verifier, by program.
-/
import Derived.Test.YtojmghnbekneiaaHsFn
import Derived.Test.YtojmghnbekneiaaDlOwn
import Derived.Test.YtojmghnbekneiaaDlCameS
namespace Go.Proofs.Ytojmghnbekneiaa
open Go.RowKit

set_option maxHeartbeats 3200000 in
set_option maxRecDepth 100000 in
theorem implCame (d : Dl) (v : Value) (host flow : Int) (w : World) (hB : d.big ≤ 1048576) (h : Hid (DlAt w v d)) :
    Calls Try.prog 18 #[v, .int .i64 host, .int .i64 flow] w fun e w' => (∃ v', e = .returned (.tuple #[v', .bool (d.cameB host flow)]) ∧ DlIn w.heap.size w'.heap.size w' v' (d.came host flow)) ∧ Below w.heap.size w w' := by
  have A1 := fun v w h => implDealOk d v w hB h
  have A3 := fun a c w h => implOwnDeal d a c w hB h
  obtain ⟨a, c, rfl, k1⟩ := h.out
  clear h
  have Hv : Hid (d.came host flow = if d.ok = true then (if d.mayCome host flow = true then ⟨d.turn, d.hosts.set host.toNat ((hsAt d.hosts host.toNat).more flow.toNat)⟩ else d) else ⟨0, []⟩) := rfl
  have Hb : Hid (d.cameB host flow = (d.ok && d.mayCome host flow)) := rfl
  have Hm : Hid (d.mayCome host flow = decide ((0 ≤ host ∧ host < (d.hosts.length : Int)) ∧ (0 ≤ flow ∧ flow < ((hsAt d.hosts host.toNat).flows.length : Int)) ∧ flAt (hsAt d.hosts host.toNat).flows flow.toNat ≠ 1000)) := rfl
  have Hg : Hid (d.ok = true → d.hosts.length ≤ 8 ∧ ∀ k, k < d.hosts.length → (hsAt d.hosts k).ok = true) := fun hk => ⟨(Dl.ok_iff.1 hk).1.2, fun k h => Dl.ok_at hk h⟩
  generalize d.came host flow = F at Hv ⊢
  generalize d.cameB host flow = bb at Hb ⊢
  have A2 : ∀ a c w, HssAt w a d.hosts → Calls Try.prog 10 #[.agg #[.int .i64 d.turn, .slice a d.hosts.length c]] w fun e w' => e = .returned (.bool d.ok) ∧ Below w.heap.size w w' := fun a c w h => A1 _ w ⟨a, c, rfl, h⟩
  generalize d.mayCome host flow = may at Hv Hb Hm
  generalize d.ok = ok at A2 Hv Hb Hg
  clear A1 hB
  obtain ⟨f, ls⟩ := d
  simp only [Dl.val] at A2 A3 Hv Hm Hg k1 ⊢
  obtain ⟨n, hn⟩ : ∃ n, ls.length = n := ⟨_, rfl⟩
  have Hn : Hid (ls.length = n) := hn
  rw [hn] at A2 A3 Hm Hg ⊢
  clear hn
  have A2' : Hid _ := A2
  have A3' : Hid _ := A3
  clear A2 A3
  have X : Hid (HssAt ((w.alloc (.cells #[.int .i64 f, .slice a n c] 26)).alloc (.cells #[.int .i64 0, .slice none 0 0] 26)) a ls ∧ Boxed ((w.alloc (.cells #[.int .i64 f, .slice a n c] 26)).alloc (.cells #[.int .i64 0, .slice none 0 0] 26)) w.heap.size #[.int .i64 f, .slice a n c] 26 ∧ Boxed ((w.alloc (.cells #[.int .i64 f, .slice a n c] 26)).alloc (.cells #[.int .i64 0, .slice none 0 0] 26)) (w.heap.size + 1) #[.int .i64 0, .slice none 0 0] 26 ∧ Below w.heap.size w ((w.alloc (.cells #[.int .i64 f, .slice a n c] 26)).alloc (.cells #[.int .i64 0, .slice none 0 0] 26))) := by
    refine ⟨(k1.alloc _).alloc _, (Boxed.new w _ _).more _, ?_, ((Below.refl _ _).alloc (Nat.le_refl _) _).alloc (by simp) _⟩
    have := Boxed.new (w.alloc (.cells #[.int .i64 f, .slice a n c] 26)) #[.int .i64 0, .slice none 0 0] 26
    simpa using this
  clear k1
  go_enter Try.func18, Try.ntmps18
  go_wp2_with (refine wpList_load_row rfl 26 (.tmp 3) rfl w.heap.size rfl _ _ _ _ X.out.2.1 Try.underlying26 rfl (by kernel_rfl) ?_)
  refine (A2'.out _ _ _ X.out.1).mono ?_
  rintro e w1 ⟨rfl, q⟩
  have X1 : Hid (HssAt w1 a ls ∧ Boxed w1 w.heap.size #[.int .i64 f, .slice a n c] 26 ∧ Boxed w1 (w.heap.size + 1) #[.int .i64 0, .slice none 0 0] 26 ∧ Below w.heap.size w w1) := ⟨X.out.1.below q, X.out.2.1.below X.out.2.1.under q, X.out.2.2.1.below X.out.2.2.1.under q, X.out.2.2.2.trans (q.mono X.out.2.2.2.size)⟩
  clear q X A2'
  cases ok
  · have e1 : F = ⟨0, []⟩ := by rw [Hv.out]; rfl
    have e2 : bb = false := by rw [Hb.out]; rfl
    subst e1 e2
    go_wp2_with (refine wpList_store_row rfl 26 (.tmp 6) (.tmp 12) rfl (w.heap.size + 1) #[.int .i64 0, .slice none 0 0] rfl rfl _ _ X1.out.2.2.1 (by kernel_rfl) rfl (by simp [Value.oneCell']) ?_)
    exact bodyPost_ret (results_row_tmp Try.results18 _ _ (w.heap.size + 1) _ _ _ _ (.bool false) rfl rfl (setRow_heap _ (w.heap.size + 1) _ _ _ _ X1.out.2.2.1) Try.underlying26 rfl (by kernel_rfl)) rfl ⟨⟨_, rfl, none, 0, rfl, HssIn.none _ _ _⟩, below_setRow X1.out.2.2.2 (by omega) _⟩
  go_wp2_with (refine wpList_load_row rfl 26 (.tmp 3) rfl w.heap.size rfl _ _ _ _ X1.out.2.1 Try.underlying26 rfl (by kernel_rfl) ?_)
  refine (A3'.out _ _ _ X1.out.1).mono ?_
  rintro e w2 ⟨⟨vv, rs, rfl, hG⟩, q⟩
  obtain ⟨vx, vc, ev⟩ := hsrows_shape hG.outer
  rw [Hn.out] at ev
  subst ev
  have N : Hid (Boxed (w2.alloc (.cells #[.int .i64 0, .slice none 0 0] 26)) w2.heap.size #[.int .i64 0, .slice none 0 0] 26) := Boxed.new _ _ _
  obtain ⟨w3, hw3⟩ : ∃ w3, (w2.alloc (.cells #[.int .i64 0, .slice none 0 0] 26)).setRow w2.heap.size #[.int .i64 f, .slice vx n vc] = w3 := ⟨_, rfl⟩
  obtain ⟨B, hB⟩ : ∃ B, w2.heap.size = B := ⟨_, rfl⟩
  have b3 : Below w2.heap.size w2 w3 := by rw [← hw3]; exact below_setRow ((Below.refl _ _).alloc (Nat.le_refl _) _) (Nat.le_refl _) _
  have X3 : Hid (Boxed w3 w.heap.size #[.int .i64 f, .slice a n c] 26 ∧ Boxed w3 (w.heap.size + 1) #[.int .i64 0, .slice none 0 0] 26 ∧ Boxed w3 B #[.int .i64 f, .slice vx n vc] 26 ∧ Below w.heap.size w w3) := by
    have u1 := X1.out.2.2.1.under
    have u2 := q.size
    refine ⟨(X1.out.2.1.below X1.out.2.1.under q).below (by omega) b3, (X1.out.2.2.1.below u1 q).below (by omega) b3, ?_, (X1.out.2.2.2.trans (q.mono X1.out.2.2.2.size)).trans (b3.mono (by have := X1.out.2.2.2.size; omega))⟩
    rw [← hB, ← hw3]
    exact setRow_heap _ _ _ _ _ _ N.out
  have Y3 : Hid (HssAt w3 a ls ∧ HsV (w1.heap.size + 2) B w3 (.slice vx n vc) rs ls ∧ w.heap.size + 2 ≤ w1.heap.size ∧ w1.heap.size ≤ B) := ⟨(X1.out.1.below q).below b3, by rw [← hB]; exact (hG.done).below b3, X1.out.2.2.1.under, by rw [← hB]; exact q.size⟩
  have HB : Hid _ := hB
  have H3 : Hid _ := hw3
  clear hB hw3 b3 hG q X1
  go_upto_region 4 with (refine wpList_store_row rfl 26 (.tmp 8) (.tmp 14) rfl w2.heap.size #[.int .i64 f, .slice vx n vc] rfl rfl _ _ N.out (by kernel_rfl) rfl (by simp [Value.oneCell']) ?_)
  rw [H3.out, HB.out]
  clear N H3 HB A3'
  obtain ⟨hl8, hg⟩ := Hg.out (by first | exact trivial | exact rfl)
  have HG : Hid _ := hg
  clear hg Hg
  have Bsz : Hid (w.heap.size + 2 ≤ B ∧ B < w3.heap.size) := ⟨by have := Y3.out.2.2; omega, X3.out.2.2.1.under⟩
  have lift : Hid (∀ x, Below w3.heap.size w3 x → Boxed x w.heap.size #[.int .i64 f, .slice a n c] 26 ∧ Boxed x (w.heap.size + 1) #[.int .i64 0, .slice none 0 0] 26 ∧ Boxed x B #[.int .i64 f, .slice vx n vc] 26 ∧ Below w.heap.size w x) := fun x g => by
    have hb := Bsz.out
    exact ⟨X3.out.1.below (by omega) g, X3.out.2.1.below (by omega) g, X3.out.2.2.1.below (by omega) g, X3.out.2.2.2.trans (g.mono X3.out.2.2.2.size)⟩
  have fin : Hid (∀ x y : World, Below w3.heap.size w3 y → (∀ k, k ≠ w.heap.size + 1 → x.heap[k]? = y.heap[k]?) → y.heap.size ≤ x.heap.size → DlIn w.heap.size x.heap.size x (.agg #[.int .i64 f, .slice vx n vc]) ⟨f, ls⟩) := fun x y g hx hs => by
    refine ⟨vx, vc, by simp [Dl.val, Hn.out], ?_⟩
    show HssIn _ _ _ (.slice vx ls.length vc) ls
    rw [Hn.out]
    have h1 := Y3.out.2.2
    have h2 := Bsz.out
    have h3 := g.size
    exact ⟨rs, ((Y3.out.2.1.below g).keep hs fun k k1 k2 => hx k (by omega)).wide (by omega) (by omega) (Nat.le_refl _)⟩
  have no : Hid (may = false → F = ⟨f, ls⟩ ∧ bb = false) := fun e => ⟨by rw [Hv.out, e]; rfl, by rw [Hb.out, e]; rfl⟩
  have AP1 := fun (w : World) => implPlace n host w (by omega)
  have Hp1 : Hid (inB 0 ((n : Int) - 1) host = true ↔ 0 ≤ host ∧ host ≤ (n : Int) - 1) := inB_true
  generalize inB 0 ((n : Int) - 1) host = p1 at AP1 Hp1
  have AP1' : Hid _ := AP1
  clear AP1
  have cb : w3.cell? ⟨w.heap.size, 1, none⟩ = some (.slice a n c) := X3.out.1.cell 1 rfl
  cases p1
  · obtain ⟨e1, e2⟩ := no.out (by rw [Hm.out]; exact decide_eq_false (fun g => by have := Hp1.out.2 ⟨g.1.1, by omega⟩; cases this))
    subst e1 e2
    go_wp2_with fail
    refine (AP1'.out _).mono ?_
    rintro e w4 ⟨rfl, hw4⟩
    have B4 : Hid (Below w3.heap.size w3 w4) := by rw [hw4]; exact (Below.refl _ _).alloc (Nat.le_refl _) _
    have X4 : Hid _ := lift.out w4 B4.out
    clear hw4 cb
    go_upto_region 5 with fail
    go_wp2_with (first | (refine wpList_load_row rfl 26 (.tmp 8) rfl B rfl _ _ _ _ X4.out.2.2.1 Try.underlying26 rfl (by kernel_rfl) ?_) | (refine wpList_store_row rfl 26 (.tmp 6) (.tmp _) rfl (w.heap.size + 1) #[.int .i64 f, .slice vx n vc] rfl rfl _ _ X4.out.2.1 (by kernel_rfl) rfl (by simp [Value.oneCell']) ?_))
    exact bodyPost_ret (results_row_tmp Try.results18 _ _ (w.heap.size + 1) _ _ _ _ (.bool false) rfl rfl (setRow_heap _ (w.heap.size + 1) _ _ _ _ X4.out.2.1) Try.underlying26 rfl (by kernel_rfl)) rfl ⟨⟨_, rfl, fin.out _ _ B4.out (fun k hk => setRow_other _ _ _ _ hk) (by rw [size_setRow]; exact Nat.le_refl _)⟩, below_setRow X4.out.2.2.2 (by omega) _⟩

  obtain ⟨g1, g2⟩ := Hp1.out.1 (by first | exact trivial | exact rfl)
  obtain ⟨H, hH⟩ : ∃ H : Nat, host = H := ⟨host.toNat, by omega⟩
  subst hH
  rw [Int.toNat_natCast] at Hm Hv
  have hHl : H < n := by omega
  have hHl' : H < ls.length := by rw [Hn.out]; exact hHl
  have g2' : (H : Int) < (n : Int) := by omega
  go_wp2_with fail
  refine (AP1'.out _).mono ?_
  rintro e w4 ⟨rfl, hw4⟩
  have B4 : Hid (Below w3.heap.size w3 w4) := by rw [hw4]; exact (Below.refl _ _).alloc (Nat.le_refl _) _
  have X4 : Hid _ := lift.out w4 B4.out
  clear hw4 cb AP1' Hp1
  have cb : w4.cell? ⟨w.heap.size, 1, none⟩ = some (.slice a n c) := X4.out.1.cell 1 rfl
  obtain ⟨b, off, ak, ck, ha, hb, ⟨c0, c1⟩, -, -⟩ := (Y3.out.1.below B4.out) H hHl'
  subst ha
  have Rd : Hid (∀ x, Below w4.heap.size w4 x → ∃ ak2 ck2, x.cell? ⟨b, off + H * 2 + 1, none⟩ = some (.slice ak2 (hsAt ls H).flows.length ck2) ∧ IntsAt x ak2 (hsAt ls H).flows) := fun x g => by
    obtain ⟨b', off', ak', ck', ha', -, ⟨-, c1'⟩, hr', -⟩ := ((Y3.out.1.below B4.out).below g) H hHl'
    cases ha'
    exact ⟨ak', ck', c1', hr'⟩
  have hin := (Hs.ok_iff.1 (HG.out H hHl)).1.2
  have hval := (Hs.ok_iff.1 (HG.out H hHl)).2.2
  obtain ⟨a1, e1c, ev, -⟩ := Y3.out.2.1.cap H hHl'
  have Put : Hid (∀ (W : World), Below w3.heap.size w3 W → ∀ {i : Nat}, i < (hsAt ls H).flows.length → ∀ {x off c : Nat}, (hsrAt rs H).hd = .slice (some ⟨x, off, none⟩) (hsAt ls H).flows.length c → ∀ z : Int, HsV (w1.heap.size + 2) B (W.setCell ⟨x, off + i, none⟩ (.int .i64 z)) (.slice vx n vc) rs (ls.set H ⟨(hsAt ls H).turn, (hsAt ls H).flows.set i z⟩)) := fun W bW i hi x off c e z => (Y3.out.2.1.below bW).put hHl' hi e z
  have Rw : Hid (∀ W, Below w3.heap.size w3 W → IntIn (w1.heap.size + 2) B W (hsrAt rs H).hd (hsAt ls H).flows) := fun W bW => (Y3.out.2.1.below bW).row H hHl'
  have hcl := hscells_length rs
  have hrl : rs.length = n := Y3.out.2.1.len.trans Hn.out
  have hne : hscells rs ≠ [] := by intro e; rw [e] at hcl; simp at hcl; omega
  have ho0 : SlIn (w1.heap.size + 2) B w3 (.slice vx n vc) n (hscells rs) := by have := Y3.out.2.1.outer; rw [Hn.out] at this; exact this
  obtain ⟨xg, xo, exv, -, -, -⟩ := ho0.some hne
  subst exv
  have Oc : Hid (∀ W, Below w3.heap.size w3 W → W.cell? ⟨xg, xo + H * 2 + 1, none⟩ = some (hsrAt rs H).hd) := fun W bW => by
    have ho := (Y3.out.2.1.below bW).outer
    rw [Hn.out] at ho
    have := (ho.cells (H * 2 + 1) (by omega)).1
    rw [(hscells_get rs H (by omega)).2] at this
    rw [Nat.add_assoc]
    exact this
  rw [ev] at Oc
  have Hmore : Hid ((hsAt ls H).more flow.toNat = ⟨(hsAt ls H).turn, (hsAt ls H).flows.set flow.toNat (flAt (hsAt ls H).flows flow.toNat + 1)⟩) := rfl
  generalize (hsAt ls H).more flow.toNat = mr at Hv Hmore
  generalize hq : hsAt ls H = q at c0 c1 hin hval ev Put Rw Oc Hmore Hm Rd
  obtain ⟨t, fl⟩ := q
  simp only at c0 c1 hin hval ev Put Rw Oc Hmore Hm Rd
  obtain ⟨m, hml⟩ : ∃ m, fl.length = m := ⟨_, rfl⟩
  have Hml : Hid (fl.length = m) := hml
  rw [hml] at c1 hin ev Oc Hm Rd
  have Hval : Hid (∀ x ∈ fl, 0 ≤ x ∧ x ≤ 1000) := hval
  clear hml hval hq c0 hcl hrl hne ho0
  have AP2 := fun (w : World) => implPlace m flow w (by omega)
  have Hp2 : Hid (inB 0 ((m : Int) - 1) flow = true ↔ 0 ≤ flow ∧ flow ≤ (m : Int) - 1) := inB_true
  generalize inB 0 ((m : Int) - 1) flow = p2 at AP2 Hp2
  have AP2' : Hid _ := AP2
  clear AP2
  cases p2
  · obtain ⟨e1, e2⟩ := no.out (by rw [Hm.out]; exact decide_eq_false (fun g => by have := Hp2.out.2 ⟨g.2.1.1, by omega⟩; cases this))
    subst e1 e2
    go_wp2_with fail
    refine (AP2'.out _).mono ?_
    rintro e w5 ⟨rfl, hw5⟩
    have B5 : Hid (Below w3.heap.size w3 w5) := by rw [hw5]; exact B4.out.alloc B4.out.size _
    have X5 : Hid _ := lift.out w5 B5.out
    clear hw5 cb c1
    go_upto_region 5 with fail
    go_wp2_with (first | (refine wpList_load_row rfl 26 (.tmp 8) rfl B rfl _ _ _ _ X5.out.2.2.1 Try.underlying26 rfl (by kernel_rfl) ?_) | (refine wpList_store_row rfl 26 (.tmp 6) (.tmp _) rfl (w.heap.size + 1) #[.int .i64 f, .slice (some ⟨xg, xo, none⟩) n vc] rfl rfl _ _ X5.out.2.1 (by kernel_rfl) rfl (by simp [Value.oneCell']) ?_))
    exact bodyPost_ret (results_row_tmp Try.results18 _ _ (w.heap.size + 1) _ _ _ _ (.bool false) rfl rfl (setRow_heap _ (w.heap.size + 1) _ _ _ _ X5.out.2.1) Try.underlying26 rfl (by kernel_rfl)) rfl ⟨⟨_, rfl, fin.out _ _ B5.out (fun k hk => setRow_other _ _ _ _ hk) (by rw [size_setRow]; exact Nat.le_refl _)⟩, below_setRow X5.out.2.2.2 (by omega) _⟩

  obtain ⟨g3, g4⟩ := Hp2.out.1 (by first | exact trivial | exact rfl)
  obtain ⟨L, hL⟩ : ∃ L : Nat, flow = L := ⟨flow.toNat, by omega⟩
  subst hL
  rw [Int.toNat_natCast] at Hm Hmore
  have hLl : L < m := by omega
  have hLl' : L < fl.length := by rw [Hml.out]; exact hLl
  have g4' : (L : Int) < (m : Int) := by omega
  go_wp2_with fail
  refine (AP2'.out _).mono ?_
  rintro e w5 ⟨rfl, hw5⟩
  have B45 : Hid (Below w4.heap.size w4 w5) := by rw [hw5]; exact (Below.refl _ _).alloc (Nat.le_refl _) _
  have B5 : Hid (Below w3.heap.size w3 w5) := B4.out.trans (B45.out.mono B4.out.size)
  have X5 : Hid _ := lift.out w5 B5.out
  clear hw5 cb c1 AP2' Hp2
  have cb : w5.cell? ⟨w.heap.size, 1, none⟩ = some (.slice (some ⟨b, off, none⟩) n c) := X5.out.1.cell 1 rfl
  obtain ⟨ak5, ck5, c1, hr⟩ := Rd.out w5 B45.out
  obtain ⟨b5, o5, ha5, hb5, c5⟩ := hr L hLl'
  subst ha5
  have e5 : fl[L]?.getD 0 = flAt fl L := rfl
  rw [e5] at c5
  have hz := Hval.out _ (flAt_mem hLl')
  have hRw := Rw.out w5 B5.out
  unfold IntIn at hRw
  rw [ev, Hml.out] at hRw
  obtain ⟨yg, yo, eya, -, -, -⟩ := SlIn.some hRw (by intro e; have := congrArg List.length e; rw [List.length_map, List.length_nil] at this; omega)
  subst eya
  have yc := SlIn.cells hRw L (by rw [List.length_map]; exact hLl')
  rw [show ((fl.map (Value.int .i64))[L]?.getD undef) = .int .i64 (flAt fl L) by rw [List.getElem?_map, flAt, List.getElem?_eq_getElem hLl']; rfl] at yc
  obtain ⟨yc1, yc2⟩ := yc
  have P4 := fun z => Put.out w5 B5.out hLl' (by rw [ev, Hml.out]) z
  have oc := Oc.out w5 B5.out
  generalize hfz : flAt fl L = z at c5 hz yc1 Hm Hmore
  have P5 : Hid (HsV (w1.heap.size + 2) B (w5.setCell ⟨yg, yo + L, none⟩ (.int .i64 (z + 1))) (.slice (some ⟨xg, xo, none⟩) n vc) rs (ls.set H ⟨t, fl.set L (z + 1)⟩)) := P4 (z + 1)
  have yb := SlIn.in hRw (k := yg) (o := yo + L) ⟨yo, m, e1c, rfl, by omega, by rw [List.length_map]; omega⟩
  clear e5 hRw P4 Put hfz hr Rd Rw Oc
  by_cases g5 : z = 1000
  · obtain ⟨e1, e2⟩ := no.out (by rw [Hm.out]; exact decide_eq_false (fun g => g.2.2 g5))
    subst e1 e2
    subst g5
    go_upto_region 5 with fail
    go_wp2_with (first | (refine wpList_load_row rfl 26 (.tmp 8) rfl B rfl _ _ _ _ X5.out.2.2.1 Try.underlying26 rfl (by kernel_rfl) ?_) | (refine wpList_store_row rfl 26 (.tmp 6) (.tmp _) rfl (w.heap.size + 1) #[.int .i64 f, .slice (some ⟨xg, xo, none⟩) n vc] rfl rfl _ _ X5.out.2.1 (by kernel_rfl) rfl (by simp [Value.oneCell']) ?_))
    exact bodyPost_ret (results_row_tmp Try.results18 _ _ (w.heap.size + 1) _ _ _ _ (.bool false) rfl rfl (setRow_heap _ (w.heap.size + 1) _ _ _ _ X5.out.2.1) Try.underlying26 rfl (by kernel_rfl)) rfl ⟨⟨_, rfl, fin.out _ _ B5.out (fun k hk => setRow_other _ _ _ _ hk) (by rw [size_setRow]; exact Nat.le_refl _)⟩, below_setRow X5.out.2.2.2 (by omega) _⟩

  have d5 : (z == 1000) = false := by simpa using g5
  have e1 : F = ⟨f, ls.set H ⟨t, fl.set L (z + 1)⟩⟩ := by
    rw [Hv.out, show may = true by rw [Hm.out]; exact decide_eq_true ⟨⟨by omega, by omega⟩, ⟨by omega, by omega⟩, g5⟩, Hmore.out]
    rfl
  have e2 : bb = true := by rw [Hb.out, show may = true by rw [Hm.out]; exact decide_eq_true ⟨⟨by omega, by omega⟩, ⟨by omega, by omega⟩, g5⟩]; rfl
  subst e1 e2
  obtain ⟨z0, z1⟩ := hz
  have kw : IntKind.i64.wrap (z + 1) = z + 1 := by rw [IntKind.wrap_i64]; omega
  have co : w5.cell? ⟨B, 1, none⟩ = some (.slice (some ⟨xg, xo, none⟩) n vc) := X5.out.2.2.1.cell 1 rfl
  have yl : yg < w5.heap.size := Nat.lt_trans yb.2 X5.out.2.2.1.under
  have X6 : Hid (Boxed (w5.setCell ⟨yg, yo + L, none⟩ (.int .i64 (z + 1))) w.heap.size #[.int .i64 f, .slice (some ⟨b, off, none⟩) n c] 26 ∧ Boxed (w5.setCell ⟨yg, yo + L, none⟩ (.int .i64 (z + 1))) (w.heap.size + 1) #[.int .i64 0, .slice none 0 0] 26 ∧ Boxed (w5.setCell ⟨yg, yo + L, none⟩ (.int .i64 (z + 1))) B #[.int .i64 f, .slice (some ⟨xg, xo, none⟩) n vc] 26 ∧ Below w.heap.size w (w5.setCell ⟨yg, yo + L, none⟩ (.int .i64 (z + 1)))) := by
    have h1 := Y3.out.2.2
    exact ⟨X5.out.1.far (by omega) _ _, X5.out.2.1.far (by omega) _ _, X5.out.2.2.1.far (by omega) _ _, X5.out.2.2.2.setCell (by show w.heap.size ≤ yg; omega) _⟩
  have fin2 : Hid (∀ x : World, (∀ k, k ≠ w.heap.size + 1 → x.heap[k]? = (w5.setCell ⟨yg, yo + L, none⟩ (.int .i64 (z + 1))).heap[k]?) → (w5.setCell ⟨yg, yo + L, none⟩ (.int .i64 (z + 1))).heap.size ≤ x.heap.size → DlIn w.heap.size x.heap.size x (.agg #[.int .i64 f, .slice (some ⟨xg, xo, none⟩) n vc]) ⟨f, ls.set H ⟨t, fl.set L (z + 1)⟩⟩) := fun x hx hs => by
    refine ⟨some ⟨xg, xo, none⟩, vc, by simp [Dl.val, Hn.out], ?_⟩
    show HssIn _ _ _ (.slice (some ⟨xg, xo, none⟩) (ls.set H ⟨t, fl.set L (z + 1)⟩).length vc) _
    rw [List.length_set, Hn.out]
    have h1 := Y3.out.2.2
    have h2 := X6.out.2.2.1.under
    exact ⟨rs, (P5.out.keep hs fun k k1 k2 => hx k (by omega)).wide (by omega) (by omega) (Nat.le_refl _)⟩
  go_upto_region 7 with fail
  generalize w5.setCell ⟨yg, yo + L, none⟩ (.int .i64 (z + 1)) = w6 at X6 fin2 ⊢
  go_wp2_with (first | (refine wpList_load_row rfl 26 (.tmp 8) rfl B rfl _ _ _ _ X6.out.2.2.1 Try.underlying26 rfl (by kernel_rfl) ?_) | (refine wpList_store_row rfl 26 (.tmp 6) (.tmp _) rfl (w.heap.size + 1) #[.int .i64 f, .slice (some ⟨xg, xo, none⟩) n vc] rfl rfl _ _ X6.out.2.1 (by kernel_rfl) rfl (by simp [Value.oneCell']) ?_))
  exact bodyPost_ret (results_row_tmp Try.results18 _ _ (w.heap.size + 1) _ _ _ _ (.bool true) rfl rfl (setRow_heap _ (w.heap.size + 1) _ _ _ _ X6.out.2.1) Try.underlying26 rfl (by kernel_rfl)) rfl ⟨⟨_, rfl, fin2.out _ (fun k hk => setRow_other _ _ _ _ hk) (by rw [size_setRow]; exact Nat.le_refl _)⟩, below_setRow X6.out.2.2.2 (by omega) _⟩
end Go.Proofs.Ytojmghnbekneiaa
