/-
  The walk of the program's Went. By the verifier, by program.
-/
import Derived.Test.YtojmghnbekneiaaDlImW
import Derived.Test.YtojmghnbekneiaaDlOwn
import Derived.Test.YtojmghnbekneiaaDlWho
import Derived.Test.YtojmghnbekneiaaDlFacts
import Derived.Test.YtojmghnbekneiaaDlWentS
namespace Go.Proofs.Ytojmghnbekneiaa
open Go.RowKit

theorem Dl.at_facts {d : Dl} (hk : d.ok = true) (hh : d.has = true) : d.at' < d.hosts.length ∧ (hsAt d.hosts d.at').at' < (hsAt d.hosts d.at').flows.length ∧ 0 < flAt (hsAt d.hosts d.at').flows (hsAt d.hosts d.at').at' ∧ flAt (hsAt d.hosts d.at').flows (hsAt d.hosts d.at').at' ≤ 1000 := by
  have h1 := Dl.at_lt hk
  have h2 := Dl.ok_at hk h1
  have hfar : d.far < d.hosts.length := of_decide_eq_true hh
  have h3 : (hsAt d.hosts d.at').some = true := seek_is (p := fun i => (hsAt d.hosts i).some) hfar
  have h4 := Hs.first h2 h3
  have h5 := Hs.at_lt h2
  exact ⟨h1, h5, h4.2.2, ((Hs.ok_iff.1 h2).2.2 _ (flAt_mem h5)).2⟩
theorem Dl.some_waits {d : Dl} (hk : d.ok = true) (hh : d.has = true) : d.waiting ≠ 0 := by
  intro h0
  unfold Dl.waiting at h0
  rw [if_pos hk] at h0
  unfold Dl.waits at h0
  have h1 := (tot_zero (l := d.hosts.map Hs.sum) (fun x hx => by
    obtain ⟨y, hy, rfl⟩ := List.mem_map.1 hx
    exact (Hs.sum_in ((Dl.ok_iff.1 hk).2.2 y hy)).1)).1 h0
  have hfar : d.far < d.hosts.length := of_decide_eq_true hh
  have h3 : (hsAt d.hosts d.at').some = true := seek_is (p := fun i => (hsAt d.hosts i).some) hfar
  have h4 := Dl.at_lt hk
  have h5 := h1 (hsAt d.hosts d.at').sum (List.mem_map.2 ⟨_, by rw [hsAt_lt h4]; exact List.getElem_mem h4, rfl⟩)
  rw [Hs.some_false.2 h5] at h3
  cases h3

set_option maxHeartbeats 6400000 in
set_option maxRecDepth 100000 in
theorem implWent (d : Dl) (v : Value) (w : World) (hB : d.big ≤ 1048576) (h : Hid (DlAt w v d)) :
    Calls Try.prog 7 #[v] w fun e w' => (∃ v', e = .returned (.tuple #[v', .int .i64 d.wentH, .int .i64 d.wentF]) ∧ DlIn w.heap.size w'.heap.size w' v' d.went) ∧ Below w.heap.size w w' := by
  have A1 := fun v w h => implDealOk d v w hB h
  have A3 := fun a c w h => implOwnDeal d a c w hB h
  obtain ⟨a, c, rfl, k1⟩ := h.out
  clear h
  have Hv : Hid (d.went = if d.ok = true then (if d.has = true then ⟨((d.at' + 1) % d.hosts.length : Nat), d.hosts.set d.at' (hsAt d.hosts d.at').less⟩ else d) else ⟨0, []⟩) := rfl
  have HH : Hid (d.wentH = if d.ok = true ∧ d.has = true then ((d.at' : Nat) : Int) else -1) := rfl
  have HF : Hid (d.wentF = if d.ok = true ∧ d.has = true then (((hsAt d.hosts d.at').at' : Nat) : Int) else -1) := rfl
  have HA : Hid (d.ok = true → d.has = true → d.at' < d.hosts.length ∧ (hsAt d.hosts d.at').at' < (hsAt d.hosts d.at').flows.length ∧ 0 < flAt (hsAt d.hosts d.at').flows (hsAt d.hosts d.at').at' ∧ flAt (hsAt d.hosts d.at').flows (hsAt d.hosts d.at').at' ≤ 1000) := fun hk hh => Dl.at_facts hk hh
  have HW0 : Hid (d.ok = true → (d.has = false → d.waiting = 0) ∧ (d.has = true → d.waiting ≠ 0)) := fun hk => ⟨fun hh => Dl.none_waits hk hh, fun hh => Dl.some_waits hk hh⟩
  have A4 := fun v w h => implWaiting d v w hB h
  have A5 := fun (hk : d.ok = true) (hh : d.has = true) a c w h => implWhose d a c w hk hh h
  have Hg : Hid (d.ok = true → (1 ≤ d.hosts.length ∧ d.hosts.length ≤ 8) ∧ (0 ≤ d.turn ∧ d.turn < (d.hosts.length : Int)) ∧ ∀ k, k < d.hosts.length → (hsAt d.hosts k).ok = true) := fun hk => ⟨(Dl.ok_iff.1 hk).1, (Dl.ok_iff.1 hk).2.1, fun k h => Dl.ok_at hk h⟩
  generalize d.went = T at Hv ⊢
  generalize d.wentH = th at HH ⊢
  generalize d.wentF = tf at HF ⊢
  have A2 : ∀ a c w, HssAt w a d.hosts → Calls Try.prog 10 #[.agg #[.int .i64 d.turn, .slice a d.hosts.length c]] w fun e w' => e = .returned (.bool d.ok) ∧ Below w.heap.size w w' := fun a c w h => A1 _ w ⟨a, c, rfl, h⟩
  have A6 : ∀ a c w, HssAt w a d.hosts → Calls Try.prog 12 #[.agg #[.int .i64 d.turn, .slice a d.hosts.length c]] w fun e w' => e = .returned (.int .i64 d.waiting) ∧ Below w.heap.size w w' := fun a c w h => A4 _ w ⟨a, c, rfl, h⟩
  clear A4
  generalize d.waiting = wt at A6 HW0
  generalize d.has = has at Hv HH HF HA HW0 A5
  generalize d.at' = at0 at Hv HH HF HA A5
  generalize d.ok = ok at A2 Hv HH HF Hg HA HW0 A5
  clear A1 hB
  obtain ⟨f, ls⟩ := d
  simp only [Dl.val] at A2 A3 A5 A6 Hv HF Hg HA k1 ⊢
  obtain ⟨n, hn⟩ : ∃ n, ls.length = n := ⟨_, rfl⟩
  have Hn : Hid (ls.length = n) := hn
  rw [hn] at A2 A3 A5 A6 Hg HA Hv ⊢
  clear hn
  have A2' : Hid _ := A2
  have A3' : Hid _ := A3
  have A5' : Hid _ := A5
  have A6' : Hid _ := A6
  clear A2 A3 A5 A6
  have X : Hid (HssAt ((w.alloc (.cells #[.int .i64 f, .slice a n c] 26)).alloc (.cells #[.int .i64 0, .slice none 0 0] 26)) a ls ∧ Boxed ((w.alloc (.cells #[.int .i64 f, .slice a n c] 26)).alloc (.cells #[.int .i64 0, .slice none 0 0] 26)) w.heap.size #[.int .i64 f, .slice a n c] 26 ∧ Boxed ((w.alloc (.cells #[.int .i64 f, .slice a n c] 26)).alloc (.cells #[.int .i64 0, .slice none 0 0] 26)) (w.heap.size + 1) #[.int .i64 0, .slice none 0 0] 26 ∧ Below w.heap.size w ((w.alloc (.cells #[.int .i64 f, .slice a n c] 26)).alloc (.cells #[.int .i64 0, .slice none 0 0] 26))) := by
    refine ⟨(k1.alloc _).alloc _, (Boxed.new w _ _).more _, ?_, ((Below.refl _ _).alloc (Nat.le_refl _) _).alloc (by simp) _⟩
    have := Boxed.new (w.alloc (.cells #[.int .i64 f, .slice a n c] 26)) #[.int .i64 0, .slice none 0 0] 26
    simpa using this
  clear k1
  go_enter Try.func7, Try.ntmps7
  go_wp2_with (refine wpList_load_row rfl 26 (.tmp 1) rfl w.heap.size rfl _ _ _ _ X.out.2.1 Try.underlying26 rfl (by kernel_rfl) ?_)
  refine (A2'.out _ _ _ X.out.1).mono ?_
  rintro e w1 ⟨rfl, q⟩
  have X1 : Hid (HssAt w1 a ls ∧ Boxed w1 w.heap.size #[.int .i64 f, .slice a n c] 26 ∧ Boxed w1 (w.heap.size + 1) #[.int .i64 0, .slice none 0 0] 26 ∧ Below w.heap.size w w1) := ⟨X.out.1.below q, X.out.2.1.below X.out.2.1.under q, X.out.2.2.1.below X.out.2.2.1.under q, X.out.2.2.2.trans (q.mono X.out.2.2.2.size)⟩
  clear q X A2'
  cases ok
  · have e1 : T = ⟨0, []⟩ := by rw [Hv.out]; rfl
    have e2 : th = -1 := by rw [HH.out, if_neg (fun h => by cases h.1)]
    have e3 : tf = -1 := by rw [HF.out, if_neg (fun h => by cases h.1)]
    subst e1 e2 e3
    go_wp2_with (refine wpList_store_row rfl 26 (.tmp 2) (.tmp 12) rfl (w.heap.size + 1) #[.int .i64 0, .slice none 0 0] rfl rfl _ _ X1.out.2.2.1 (by kernel_rfl) rfl (by simp [Value.oneCell']) ?_)
    exact bodyPost_ret (results_row_tmp2w Try.results7 _ _ (w.heap.size + 1) _ _ _ _ (.int .i64 (-1)) (.int .i64 (-1)) rfl rfl rfl (setRow_heap _ (w.heap.size + 1) _ _ _ _ X1.out.2.2.1) Try.underlying26 rfl (by kernel_rfl)) rfl ⟨⟨_, rfl, none, 0, rfl, HssIn.none _ _ _⟩, below_setRow X1.out.2.2.2 (by omega) _⟩
  go_wp2_with (refine wpList_load_row rfl 26 (.tmp 1) rfl w.heap.size rfl _ _ _ _ X1.out.2.1 Try.underlying26 rfl (by kernel_rfl) ?_)
  refine (A3'.out _ _ _ X1.out.1).mono ?_
  rintro e w2 ⟨⟨vv, rs, rfl, hG⟩, q⟩
  obtain ⟨vx, vc, ev⟩ := hsrows_shape hG.outer
  rw [Hn.out] at ev
  subst ev
  have N : Hid (Boxed (w2.alloc (.cells #[.int .i64 0, .slice none 0 0] 26)) w2.heap.size #[.int .i64 0, .slice none 0 0] 26) := Boxed.new _ _ _
  obtain ⟨w3, hw3⟩ : ∃ w3, (w2.alloc (.cells #[.int .i64 0, .slice none 0 0] 26)).setRow w2.heap.size #[.int .i64 f, .slice vx n vc] = w3 := ⟨_, rfl⟩
  obtain ⟨B, hB⟩ : ∃ B, w2.heap.size = B := ⟨_, rfl⟩
  have b3 : Below w2.heap.size w2 w3 := by rw [← hw3]; exact below_setRow ((Below.refl _ _).alloc (Nat.le_refl _) _) (Nat.le_refl _) _
  have X3 : Hid (Boxed w3 w.heap.size #[.int .i64 f, .slice a n c] 26 ∧ Boxed w3 (w.heap.size + 1) #[.int .i64 0, .slice none 0 0] 26 ∧ Boxed w3 B #[.int .i64 f, .slice vx n vc] 26 ∧ Below w.heap.size w w3) := by
    have u1 := X1.out.2.2.1.under
    have u2 := q.size
    refine ⟨(X1.out.2.1.below X1.out.2.1.under q).below (by omega) b3, (X1.out.2.2.1.below u1 q).below (by omega) b3, ?_, (X1.out.2.2.2.trans (q.mono X1.out.2.2.2.size)).trans (b3.mono (by have := X1.out.2.2.2.size; omega))⟩
    rw [← hB, ← hw3]
    exact setRow_heap _ _ _ _ _ _ N.out
  have Y3 : Hid (HssAt w3 a ls ∧ HsV (w1.heap.size + 2) B w3 (.slice vx n vc) rs ls ∧ w.heap.size + 2 ≤ w1.heap.size ∧ w1.heap.size ≤ B) := ⟨(X1.out.1.below q).below b3, by rw [← hB]; exact (hG.done).below b3, X1.out.2.2.1.under, by rw [← hB]; exact q.size⟩
  have HB : Hid _ := hB
  have H3 : Hid _ := hw3
  clear hB hw3 b3 hG q X1
  go_upto_region 4 with (refine wpList_store_row rfl 26 (.tmp 5) (.tmp 14) rfl w2.heap.size #[.int .i64 f, .slice vx n vc] rfl rfl _ _ N.out (by kernel_rfl) rfl (by simp [Value.oneCell']) ?_)
  rw [H3.out, HB.out]
  clear N H3 HB A3'
  obtain ⟨⟨hl1, hl8⟩, hf, hg⟩ := Hg.out (by first | exact trivial | exact rfl)
  have HG : Hid _ := hg
  clear hg Hg hf
  have Bsz : Hid (w.heap.size + 2 ≤ B ∧ B < w3.heap.size) := ⟨by have := Y3.out.2.2; omega, X3.out.2.2.1.under⟩
  have lift : Hid (∀ x, Below w3.heap.size w3 x → Boxed x w.heap.size #[.int .i64 f, .slice a n c] 26 ∧ Boxed x (w.heap.size + 1) #[.int .i64 0, .slice none 0 0] 26 ∧ Boxed x B #[.int .i64 f, .slice vx n vc] 26 ∧ Below w.heap.size w x) := fun x g => by
    have hb := Bsz.out
    exact ⟨X3.out.1.below (by omega) g, X3.out.2.1.below (by omega) g, X3.out.2.2.1.below (by omega) g, X3.out.2.2.2.trans (g.mono X3.out.2.2.2.size)⟩
  have fin : Hid (∀ x y : World, Below w3.heap.size w3 y → (∀ k, k ≠ w.heap.size + 1 → x.heap[k]? = y.heap[k]?) → y.heap.size ≤ x.heap.size → DlIn w.heap.size x.heap.size x (.agg #[.int .i64 f, .slice vx n vc]) ⟨f, ls⟩) := fun x y g hx hs => by
    refine ⟨vx, vc, by simp [Dl.val, Hn.out], ?_⟩
    show HssIn _ _ _ (.slice vx ls.length vc) ls
    rw [Hn.out]
    have h1 := Y3.out.2.2
    have h2 := Bsz.out
    have h3 := g.size
    exact ⟨rs, ((Y3.out.2.1.below g).keep hs fun k k1 k2 => hx k (by omega)).wide (by omega) (by omega) (Nat.le_refl _)⟩
  obtain ⟨hw0, hw1⟩ := HW0.out (by first | exact trivial | exact rfl)
  have HW1 : Hid (has = false → wt = 0) := hw0
  have HW2 : Hid (has = true → wt ≠ 0) := hw1
  clear hw0 hw1 HW0
  go_upto_region 4 with fail
  go_wp2_with (refine wpList_load_row rfl 26 (.tmp 1) rfl w.heap.size rfl _ _ _ _ X3.out.1 Try.underlying26 rfl (by kernel_rfl) ?_)
  refine (A6'.out _ _ _ Y3.out.1).mono ?_
  rintro e w4 ⟨rfl, q⟩
  have B4 : Hid (Below w3.heap.size w3 w4) := q
  have X4 : Hid _ := lift.out w4 q
  clear q A6'
  cases has
  · have e0 : wt = 0 := HW1.out (by first | exact trivial | exact rfl)
    have e1 : T = ⟨f, ls⟩ := by rw [Hv.out]; rfl
    have e2 : th = -1 := by rw [HH.out, if_neg (fun h => by have h2 := h.2; first | cases h2 | exact h2)]
    have e3 : tf = -1 := by rw [HF.out, if_neg (fun h => by have h2 := h.2; first | cases h2 | exact h2)]
    subst e0 e1 e2 e3
    go_upto_region 5 with fail
    go_wp2_with (first | (refine wpList_load_row rfl 26 (.tmp 5) rfl B rfl _ _ _ _ X4.out.2.2.1 Try.underlying26 rfl (by kernel_rfl) ?_) | (refine wpList_store_row rfl 26 (.tmp 2) (.tmp 18) rfl (w.heap.size + 1) #[.int .i64 f, .slice vx n vc] rfl rfl _ _ X4.out.2.1 (by kernel_rfl) rfl (by simp [Value.oneCell']) ?_))
    exact bodyPost_ret (results_row_tmp2w Try.results7 _ _ (w.heap.size + 1) _ _ _ _ (.int .i64 (-1)) (.int .i64 (-1)) rfl rfl rfl (setRow_heap _ (w.heap.size + 1) _ _ _ _ X4.out.2.1) Try.underlying26 rfl (by kernel_rfl)) rfl ⟨⟨_, rfl, fin.out _ _ B4.out (fun k hk => setRow_other _ _ _ _ hk) (by rw [size_setRow]; exact Nat.le_refl _)⟩, below_setRow X4.out.2.2.2 (by omega) _⟩
  have hwt : ¬ wt = 0 := HW2.out (by first | exact trivial | exact rfl)
  have dwt : (wt == 0) = false := by simpa using hwt
  obtain ⟨hI, hJ, hpos, hle⟩ := HA.out (by first | exact trivial | exact rfl) (by first | exact trivial | exact rfl)
  have e1 : T = ⟨(((at0 + 1) % n : Nat) : Int), ls.set at0 (hsAt ls at0).less⟩ := by rw [Hv.out]; rfl
  have e2 : th = (at0 : Int) := by rw [HH.out, if_pos ⟨by first | exact trivial | exact rfl, by first | exact trivial | exact rfl⟩]
  have e3 : tf = ((hsAt ls at0).at' : Int) := by rw [HF.out, if_pos ⟨by first | exact trivial | exact rfl, by first | exact trivial | exact rfl⟩]
  have hI' : at0 < ls.length := by rw [Hn.out]; exact hI
  have A7 := A5'.out (by first | exact trivial | exact rfl) (by first | exact trivial | exact rfl)
  clear HA HW1 HW2 Hv HH HF A5' fin
  have hcl := hscells_length rs
  have hrl : rs.length = n := Y3.out.2.1.len.trans Hn.out
  have hne : hscells rs ≠ [] := by intro e; rw [e] at hcl; simp at hcl; omega
  have ho0 : SlIn (w1.heap.size + 2) B w3 (.slice vx n vc) n (hscells rs) := by have := Y3.out.2.1.outer; rw [Hn.out] at this; exact this
  obtain ⟨xg, xo, exv, xg1, xg2, -⟩ := ho0.some hne
  subst exv
  have Hxg : Hid (w1.heap.size + 2 ≤ xg ∧ xg < B) := ⟨xg1, xg2⟩
  obtain ⟨a1, e1c, ev, -⟩ := Y3.out.2.1.cap at0 hI'
  have Put : Hid (∀ (i : Nat), i < (hsAt ls at0).flows.length → ∀ (x off c : Nat), (hsrAt rs at0).hd = .slice (some ⟨x, off, none⟩) (hsAt ls at0).flows.length c → ∀ (W : World), Below w3.heap.size w3 W → ∀ z : Int, HsV (w1.heap.size + 2) B (W.setCell ⟨x, off + i, none⟩ (.int .i64 z)) (.slice (some ⟨xg, xo, none⟩) n vc) rs (ls.set at0 ⟨(hsAt ls at0).turn, (hsAt ls at0).flows.set i z⟩)) := fun i hi x off c e W bW z => (Y3.out.2.1.below bW).put hI' hi e z
  have PutT : Hid (∀ (W : World) (fl : List Int) (tt : Int), HsV (w1.heap.size + 2) B W (.slice (some ⟨xg, xo, none⟩) n vc) rs (ls.set at0 ⟨tt, fl⟩) → ∀ zt : Int, HsV (w1.heap.size + 2) B (W.setCell ⟨xg, xo + at0 * 2, none⟩ (.int .i64 zt)) (.slice (some ⟨xg, xo, none⟩) n vc) (rs.set at0 ⟨zt, (hsrAt rs at0).hd⟩) (ls.set at0 ⟨zt, fl⟩)) := fun W fl tt V0 zt => by
    have V1 := V0.putTurn (j := at0) (by rw [List.length_set]; exact hI') (x := xg) (off := xo) (c := vc) (by rw [List.length_set, Hn.out]) zt
    rw [List.set_set, hsAt_set hI'] at V1
    exact V1
  have Cell : Hid (∀ (W : World) (r : Hs), HsV (w1.heap.size + 2) B W (.slice (some ⟨xg, xo, none⟩) n vc) rs (ls.set at0 r) → W.cell? ⟨xg, xo + at0 * 2, none⟩ = some (.int .i64 r.turn) ∧ W.frozen? ⟨xg, xo + at0 * 2, none⟩ = false ∧ W.cell? ⟨xg, xo + at0 * 2 + 1, none⟩ = some (hsrAt rs at0).hd) := fun W r V0 => by
    have ho := V0.outer
    rw [List.length_set, Hn.out] at ho
    have h0 := ho.cells (at0 * 2) (by omega)
    have h1 := (ho.cells (at0 * 2 + 1) (by omega)).1
    have hnum := V0.num at0 (by rw [List.length_set]; exact hI')
    rw [hsAt_set hI'] at hnum
    rw [(hscells_get rs at0 (by omega)).1, Option.getD_some, hnum] at h0
    rw [(hscells_get rs at0 (by omega)).2, Option.getD_some, ← Nat.add_assoc] at h1
    exact ⟨h0.1, h0.2, h1⟩
  have Same : Hid (∀ W, Below w3.heap.size w3 W → HsV (w1.heap.size + 2) B W (.slice (some ⟨xg, xo, none⟩) n vc) rs (ls.set at0 (hsAt ls at0))) := fun W bW => by
    rw [hsAt_lt hI', List.set_getElem_self]
    exact Y3.out.2.1.below bW
  have Rw : Hid (∀ W, Below w3.heap.size w3 W → IntIn (w1.heap.size + 2) B W (hsrAt rs at0).hd (hsAt ls at0).flows) := fun W bW => (Y3.out.2.1.below bW).row at0 hI'
  have hm8 := (Hs.ok_iff.1 (HG.out at0 hI)).1
  have Hless : Hid ((hsAt ls at0).less = ⟨(((hsAt ls at0).at' + 1) % (hsAt ls at0).flows.length : Nat), (hsAt ls at0).flows.set (hsAt ls at0).at' (flAt (hsAt ls at0).flows (hsAt ls at0).at' - 1)⟩) := rfl
  rw [ev] at Put Cell Rw
  generalize hq : hsAt ls at0 = q at ev Put Cell Same Rw hm8 Hless hJ hpos hle A7 e1 e3
  generalize q.less = lss at Hless e1
  generalize q.at' = J at Hless A7 hJ hpos hle e3
  obtain ⟨t, fl⟩ := q
  simp only at ev Put Cell Same Rw hm8 Hless hJ hpos hle
  obtain ⟨m, hml⟩ : ∃ m, fl.length = m := ⟨_, rfl⟩
  have Hml : Hid (fl.length = m) := hml
  rw [hml] at ev Put Cell Rw hm8 Hless hJ
  have He1 : Hid (T = ⟨(((at0 + 1) % n : Nat) : Int), ls.set at0 lss⟩) := e1
  have A7' : Hid _ := A7
  clear hml hq hcl hrl hne ho0 xg1 xg2 e1 A7
  subst e2 e3
  go_upto_region 6 with fail
  go_wp2_with (refine wpList_load_row rfl 26 (.tmp 1) rfl w.heap.size rfl _ _ _ _ X4.out.1 Try.underlying26 rfl (by kernel_rfl) ?_)
  refine (A7'.out _ _ _ (Y3.out.1.below B4.out)).mono ?_
  rintro e w5 ⟨rfl, q⟩
  have B5 : Hid (Below w3.heap.size w3 w5) := B4.out.trans (q.mono B4.out.size)
  have X5 : Hid _ := lift.out w5 B5.out
  clear q A7' B4 X4 lift
  have hJl : J < fl.length := by rw [Hml.out]; exact hJ
  have hRw := Rw.out w5 B5.out
  unfold IntIn at hRw
  rw [Hml.out] at hRw
  obtain ⟨yg, yo, eya, -, -, -⟩ := SlIn.some hRw (by intro e; have := congrArg List.length e; rw [List.length_map, List.length_nil] at this; omega)
  subst eya
  have yc := SlIn.cells hRw J (by rw [List.length_map]; exact hJl)
  rw [show ((fl.map (Value.int .i64))[J]?.getD undef) = .int .i64 (flAt fl J) by rw [List.getElem?_map, flAt, List.getElem?_eq_getElem hJl]; rfl] at yc
  obtain ⟨yc1, yc2⟩ := yc
  have yb := SlIn.in hRw (k := yg) (o := yo + J) ⟨yo, m, e1c, rfl, by omega, by rw [List.length_map]; omega⟩
  have yl : yg < w5.heap.size := Nat.lt_trans yb.2 X5.out.2.2.1.under
  obtain ⟨-, -, c1⟩ := Cell.out w5 _ (Same.out w5 B5.out)
  have co : w5.cell? ⟨B, 1, none⟩ = some (.slice (some ⟨xg, xo, none⟩) n vc) := X5.out.2.2.1.cell 1 rfl
  have V6 := Put.out J hJ yg yo e1c rfl w5 B5.out (flAt fl J - 1)
  generalize flAt fl J = z at yc1 hpos hle V6 Hless
  have P6 : Hid (HsV (w1.heap.size + 2) B (w5.setCell ⟨yg, yo + J, none⟩ (.int .i64 (z - 1))) (.slice (some ⟨xg, xo, none⟩) n vc) rs (ls.set at0 ⟨t, fl.set J (z - 1)⟩)) := V6
  have kw7 : IntKind.i64.wrap (z - 1) = z - 1 := by rw [IntKind.wrap_i64]; omega
  have hI2 : (at0 : Int) < (n : Int) := by omega
  have hJ2 : (J : Int) < (m : Int) := by omega
  have xl : xg < w5.heap.size := Nat.lt_trans Hxg.out.2 X5.out.2.2.1.under
  have X6 : Hid (Boxed (w5.setCell ⟨yg, yo + J, none⟩ (.int .i64 (z - 1))) w.heap.size #[.int .i64 f, .slice a n c] 26 ∧ Boxed (w5.setCell ⟨yg, yo + J, none⟩ (.int .i64 (z - 1))) (w.heap.size + 1) #[.int .i64 0, .slice none 0 0] 26 ∧ Boxed (w5.setCell ⟨yg, yo + J, none⟩ (.int .i64 (z - 1))) B #[.int .i64 f, .slice (some ⟨xg, xo, none⟩) n vc] 26 ∧ Below w.heap.size w (w5.setCell ⟨yg, yo + J, none⟩ (.int .i64 (z - 1)))) := by
    have h1 := Y3.out.2.2
    exact ⟨X5.out.1.far (by omega) _ _, X5.out.2.1.far (by omega) _ _, X5.out.2.2.1.far (by omega) _ _, X5.out.2.2.2.setCell (by show w.heap.size ≤ yg; omega) _⟩
  have xl6 : Hid (xg < (w5.setCell ⟨yg, yo + J, none⟩ (.int .i64 (z - 1))).heap.size) := by show xg < Array.size _; simpa [World.setCell] using xl
  clear V6 hRw Put Same Rw
  go_upto_region 9 with fail
  generalize w5.setCell ⟨yg, yo + J, none⟩ (.int .i64 (z - 1)) = w6 at P6 X6 xl6 ⊢
  clear yc1 yc2 yb yl c1 co xl B5 X5
  obtain ⟨c0, z0, c1⟩ := Cell.out w6 _ P6.out
  have B9 := fun (w : World) => implBehind J m w hJ (by omega)
  generalize (J + 1) % m = J3 at B9 Hless
  have B9' : Hid _ := B9
  have x6 := xl6.out
  have P7 : Hid (HsV (w1.heap.size + 2) B (w6.setCell ⟨xg, xo + at0 * 2, none⟩ (.int .i64 (J3 : Int))) (.slice (some ⟨xg, xo, none⟩) n vc) (rs.set at0 ⟨(J3 : Int), (hsrAt rs at0).hd⟩) (ls.set at0 lss)) := by
    rw [Hless.out]
    exact PutT.out _ _ _ P6.out _
  have X7 : Hid (Boxed (w6.setCell ⟨xg, xo + at0 * 2, none⟩ (.int .i64 (J3 : Int))) w.heap.size #[.int .i64 f, .slice a n c] 26 ∧ Boxed (w6.setCell ⟨xg, xo + at0 * 2, none⟩ (.int .i64 (J3 : Int))) (w.heap.size + 1) #[.int .i64 0, .slice none 0 0] 26 ∧ Boxed (w6.setCell ⟨xg, xo + at0 * 2, none⟩ (.int .i64 (J3 : Int))) B #[.int .i64 f, .slice (some ⟨xg, xo, none⟩) n vc] 26 ∧ Below w.heap.size w (w6.setCell ⟨xg, xo + at0 * 2, none⟩ (.int .i64 (J3 : Int)))) := by
    have h1 := Y3.out.2.2
    have h2 := Hxg.out
    exact ⟨X6.out.1.far (by omega) _ _, X6.out.2.1.far (by omega) _ _, X6.out.2.2.1.far (by omega) _ _, X6.out.2.2.2.setCell (by show w.heap.size ≤ xg; omega) _⟩
  clear B9 PutT Cell
  go_wp2_with fail
  refine (B9'.out _).mono ?_
  rintro e w' ⟨rfl, hw'⟩
  obtain rfl := hw'.symm
  go_upto_region 10 with fail
  generalize w6.setCell ⟨xg, xo + at0 * 2, none⟩ (.int .i64 (J3 : Int)) = w7 at P7 X7 ⊢
  clear c0 c1 z0 x6 xl6 P6 X6 B9'
  have co : w7.cell? ⟨B, 1, none⟩ = some (.slice (some ⟨xg, xo, none⟩) n vc) := X7.out.2.2.1.cell 1 rfl
  have cB0 : w7.cell? ⟨B, 0, none⟩ = some (.int .i64 f) := X7.out.2.2.1.cell 0 rfl
  have zB0 := X7.out.2.2.1.ice 0
  have lB : B < w7.heap.size := X7.out.2.2.1.under
  have B9 := fun (w : World) => implBehind at0 n w hI (by omega)
  obtain ⟨I3, hI3⟩ : ∃ I3, (at0 + 1) % n = I3 := ⟨_, rfl⟩
  have e1 : T = ⟨(I3 : Int), ls.set at0 lss⟩ := by rw [He1.out, hI3]
  rw [hI3] at B9
  have B9' : Hid _ := B9
  clear hI3 He1 B9
  subst e1
  have X8 : Hid (Boxed (w7.setCell ⟨B, 0, none⟩ (.int .i64 (I3 : Int))) w.heap.size #[.int .i64 f, .slice a n c] 26 ∧ Boxed (w7.setCell ⟨B, 0, none⟩ (.int .i64 (I3 : Int))) (w.heap.size + 1) #[.int .i64 0, .slice none 0 0] 26 ∧ Boxed (w7.setCell ⟨B, 0, none⟩ (.int .i64 (I3 : Int))) B #[.int .i64 (I3 : Int), .slice (some ⟨xg, xo, none⟩) n vc] 26 ∧ Below w.heap.size w (w7.setCell ⟨B, 0, none⟩ (.int .i64 (I3 : Int)))) := by
    have h1 := Y3.out.2.2
    exact ⟨X7.out.1.far (by omega) _ _, X7.out.2.1.far (by omega) _ _, X7.out.2.2.1.put 0 _, X7.out.2.2.2.setCell (by show w.heap.size ≤ B; omega) _⟩
  have fin2 : Hid (∀ x : World, (∀ k, k ≠ w.heap.size + 1 → x.heap[k]? = (w7.setCell ⟨B, 0, none⟩ (.int .i64 (I3 : Int))).heap[k]?) → (w7.setCell ⟨B, 0, none⟩ (.int .i64 (I3 : Int))).heap.size ≤ x.heap.size → DlIn w.heap.size x.heap.size x (.agg #[.int .i64 (I3 : Int), .slice (some ⟨xg, xo, none⟩) n vc]) ⟨(I3 : Int), ls.set at0 lss⟩) := fun x hx hs => by
    refine ⟨some ⟨xg, xo, none⟩, vc, by simp [Dl.val, Hn.out], ?_⟩
    show HssIn _ _ _ (.slice (some ⟨xg, xo, none⟩) (ls.set at0 lss).length vc) _
    rw [List.length_set, Hn.out]
    have h1 := Y3.out.2.2
    have h2 : (w7.setCell ⟨B, 0, none⟩ (.int .i64 (I3 : Int))).heap.size = w7.heap.size := by simp [World.setCell]
    exact ⟨_, (P7.out.keep (by omega) fun k k1 k2 => (hx k (by omega)).trans (Below.heap_setCell _ _ _ _ (by show k ≠ B; omega))).wide (by omega) (by omega) (Nat.le_refl _)⟩
  go_wp2_with fail
  refine (B9'.out _).mono ?_
  rintro e w' ⟨rfl, hw'⟩
  obtain rfl := hw'.symm
  go_upto_region 11 with fail
  generalize w7.setCell ⟨B, 0, none⟩ (.int .i64 (I3 : Int)) = w8 at X8 fin2 ⊢
  go_wp2_with (first | (refine wpList_load_row rfl 26 (.tmp 5) rfl B rfl _ _ _ _ X8.out.2.2.1 Try.underlying26 rfl (by kernel_rfl) ?_) | (refine wpList_store_row rfl 26 (.tmp 2) (.tmp 53) rfl (w.heap.size + 1) #[.int .i64 (I3 : Int), .slice (some ⟨xg, xo, none⟩) n vc] rfl rfl _ _ X8.out.2.1 (by kernel_rfl) rfl (by simp [Value.oneCell']) ?_))
  exact bodyPost_ret (results_row_tmp2w Try.results7 _ _ (w.heap.size + 1) _ _ _ _ (.int .i64 (at0 : Int)) (.int .i64 (J : Int)) rfl rfl rfl (setRow_heap _ (w.heap.size + 1) _ _ _ _ X8.out.2.1) Try.underlying26 rfl (by kernel_rfl)) rfl ⟨⟨_, rfl, fin2.out _ (fun k hk => setRow_other _ _ _ _ hk) (by rw [size_setRow]; exact Nat.le_refl _)⟩, below_setRow X8.out.2.2.2 (by omega) _⟩
end Go.Proofs.Ytojmghnbekneiaa
