/-
  The walk of the model's Went. By the verifier, by program.
-/
import Derived.Test.YtojmghnbekneiaaDlCameS
import Derived.Test.YtojmghnbekneiaaDlSpecR
namespace Go.Proofs.Ytojmghnbekneiaa
open Go.RowKit

/-- Results: a struct's variable and two slots. -/
theorem results_row_tmp2w {P : Program} {fn : Func} {p q r : Tmp} {ty : TypeId} (h : fn.results = #[.cell p ty, .tmp q, .tmp r]) (tmps : Array Value) (w : World) (g : Nat) (t : TypeId) (cs : Array Value) (fr : Nat × Nat) (d : TypeDesc) (v u : Value)
    (hp : tmps.getD p undef = .pointer (some ⟨g, 0, none⟩)) (hv : tmps.getD q undef = v) (hu' : tmps.getD r undef = u) (hg : w.heap[g]? = some (.cells cs t fr))
    (hu : P.underlying ty = some d) (hd : (match d with | .struct _ | .array _ _ => true | _ => false) = true) (hi : (P.info? ty).map (·.size) = some cs.size) :
    (results fn tmps).run P w = .ok (.tuple #[.agg cs, v, u]) w := by
  have hp' : tmps[p]?.getD undef = .pointer (some ⟨g, 0, none⟩) := by simpa using hp
  have hv' : tmps[q]?.getD undef = v := by simpa using hv
  have hw' : tmps[r]?.getD undef = u := by simpa using hu'
  simp [results, h, hp', hv', hw', asAddr, run_loadVar_row w g t ty cs fr d hg hu hd hi]
theorem tmod_nat2 (i k n : Nat) : Int.tmod ((i : Int) + (k : Int)) (n : Int) = (((i + k) % n : Nat) : Int) := by
  rw [show (i : Int) + (k : Int) = ((i + k : Nat) : Int) by push_cast; rfl]
  rfl

set_option maxHeartbeats 6400000 in
set_option maxRecDepth 100000 in
theorem specWent (d : Dl) (v : Value) (w : World) (hB : d.big ≤ 1048576) (h : Hid (DlAt w v d)) :
    Calls Try.prog 8 #[v] w fun e w' => (∃ v', e = .returned (.tuple #[v', .int .i64 d.wentH, .int .i64 d.wentF]) ∧ DlIn w.heap.size w'.heap.size w' v' d.went) ∧ Below w.heap.size w w' := by
  have A1 := fun v w h => specDealOk d v w hB h
  have A3 := fun a c w h => specCopyD d a c w hB h
  obtain ⟨a, c, rfl, k1⟩ := h.out
  clear h
  have Hv : Hid (d.went = if d.ok = true then (if d.has = true then ⟨((d.at' + 1) % d.hosts.length : Nat), d.hosts.set d.at' (hsAt d.hosts d.at').less⟩ else d) else ⟨0, []⟩) := rfl
  have HH : Hid (d.wentH = if d.ok = true ∧ d.has = true then ((d.at' : Nat) : Int) else -1) := rfl
  have HF : Hid (d.wentF = if d.ok = true ∧ d.has = true then (((hsAt d.hosts d.at').at' : Nat) : Int) else -1) := rfl
  have Hyes : Hid (∀ k, k < d.hosts.length → (hsAt d.hosts ((d.turn.toNat + k) % d.hosts.length)).some = true → (∀ j, j < k → (hsAt d.hosts ((d.turn.toNat + j) % d.hosts.length)).some = false) → d.has = true ∧ d.at' = (d.turn.toNat + k) % d.hosts.length) := fun k hk h1 h2 => by
    have e : d.far = k := seek_eq hk h1 h2
    exact ⟨by unfold Dl.has; rw [e]; exact decide_eq_true hk, by unfold Dl.at'; rw [e]⟩
  have Hno : Hid ((∀ j, j < d.hosts.length → (hsAt d.hosts ((d.turn.toNat + j) % d.hosts.length)).some = false) → d.has = false) := fun h => by
    have e : d.far = d.hosts.length := seek_none h
    unfold Dl.has
    rw [e]
    exact decide_eq_false (Nat.lt_irrefl _)
  have Hg : Hid (d.ok = true → (1 ≤ d.hosts.length ∧ d.hosts.length ≤ 8) ∧ (0 ≤ d.turn ∧ d.turn < (d.hosts.length : Int)) ∧ ∀ k, k < d.hosts.length → (hsAt d.hosts k).ok = true) := fun hk => ⟨(Dl.ok_iff.1 hk).1, (Dl.ok_iff.1 hk).2.1, fun k h => Dl.ok_at hk h⟩
  generalize d.went = T at Hv ⊢
  generalize d.wentH = th at HH ⊢
  generalize d.wentF = tf at HF ⊢
  have A2 : ∀ a c w, HssAt w a d.hosts → Calls Try.prog 11 #[.agg #[.int .i64 d.turn, .slice a d.hosts.length c]] w fun e w' => e = .returned (.bool d.ok) ∧ Below w.heap.size w w' := fun a c w h => A1 _ w ⟨a, c, rfl, h⟩
  generalize d.has = has at Hv HH HF Hyes Hno
  generalize d.at' = at0 at Hv HH HF Hyes
  generalize d.ok = ok at A2 Hv HH HF Hg
  clear A1 hB
  obtain ⟨f, ls⟩ := d
  simp only [Dl.val] at A2 A3 Hv HF Hg Hyes Hno k1 ⊢
  obtain ⟨n, hn⟩ : ∃ n, ls.length = n := ⟨_, rfl⟩
  have Hn : Hid (ls.length = n) := hn
  rw [hn] at A2 A3 Hg Hyes Hno Hv ⊢
  clear hn
  have A2' : Hid _ := A2
  have A3' : Hid _ := A3
  clear A2 A3
  have X : Hid (HssAt ((w.alloc (.cells #[.int .i64 f, .slice a n c] 26)).alloc (.cells #[.int .i64 0, .slice none 0 0] 26)) a ls ∧ Boxed ((w.alloc (.cells #[.int .i64 f, .slice a n c] 26)).alloc (.cells #[.int .i64 0, .slice none 0 0] 26)) w.heap.size #[.int .i64 f, .slice a n c] 26 ∧ Boxed ((w.alloc (.cells #[.int .i64 f, .slice a n c] 26)).alloc (.cells #[.int .i64 0, .slice none 0 0] 26)) (w.heap.size + 1) #[.int .i64 0, .slice none 0 0] 26 ∧ Below w.heap.size w ((w.alloc (.cells #[.int .i64 f, .slice a n c] 26)).alloc (.cells #[.int .i64 0, .slice none 0 0] 26))) := by
    refine ⟨(k1.alloc _).alloc _, (Boxed.new w _ _).more _, ?_, ((Below.refl _ _).alloc (Nat.le_refl _) _).alloc (by simp) _⟩
    have := Boxed.new (w.alloc (.cells #[.int .i64 f, .slice a n c] 26)) #[.int .i64 0, .slice none 0 0] 26
    simpa using this
  clear k1
  go_enter Try.func8, Try.ntmps8
  go_wp2_with (refine wpList_load_row rfl 26 (.tmp 1) rfl w.heap.size rfl _ _ _ _ X.out.2.1 Try.underlying26 rfl (by kernel_rfl) ?_)
  refine (A2'.out _ _ _ X.out.1).mono ?_
  rintro e w1 ⟨rfl, q⟩
  have X1 : Hid (HssAt w1 a ls ∧ Boxed w1 w.heap.size #[.int .i64 f, .slice a n c] 26 ∧ Boxed w1 (w.heap.size + 1) #[.int .i64 0, .slice none 0 0] 26 ∧ Below w.heap.size w w1) := ⟨X.out.1.below q, X.out.2.1.below X.out.2.1.under q, X.out.2.2.1.below X.out.2.2.1.under q, X.out.2.2.2.trans (q.mono X.out.2.2.2.size)⟩
  clear q X A2'
  cases ok
  · have e1 : T = ⟨0, []⟩ := by rw [Hv.out]; rfl
    have e2 : th = -1 := by rw [HH.out, if_neg (fun h => by cases h.1)]
    have e3 : tf = -1 := by rw [HF.out, if_neg (fun h => by cases h.1)]
    subst e1 e2 e3
    go_wp2_with (refine wpList_store_row rfl 26 (.tmp 2) (.tmp 15) rfl (w.heap.size + 1) #[.int .i64 0, .slice none 0 0] rfl rfl _ _ X1.out.2.2.1 (by kernel_rfl) rfl (by simp [Value.oneCell']) ?_)
    exact bodyPost_ret (results_row_tmp2w Try.results8 _ _ (w.heap.size + 1) _ _ _ _ (.int .i64 (-1)) (.int .i64 (-1)) rfl rfl rfl (setRow_heap _ (w.heap.size + 1) _ _ _ _ X1.out.2.2.1) Try.underlying26 rfl (by kernel_rfl)) rfl ⟨⟨_, rfl, none, 0, rfl, HssIn.none _ _ _⟩, below_setRow X1.out.2.2.2 (by omega) _⟩
  go_wp2_with (refine wpList_load_row rfl 26 (.tmp 1) rfl w.heap.size rfl _ _ _ _ X1.out.2.1 Try.underlying26 rfl (by kernel_rfl) ?_)
  refine (A3'.out _ _ _ X1.out.1).mono ?_
  rintro e w2 ⟨⟨vv, rs, rfl, hG⟩, q⟩
  obtain ⟨vx, vc, ev⟩ := hsrows_shape hG.outer
  rw [Hn.out] at ev
  subst ev
  have N : Hid (Boxed (w2.alloc (.cells #[.int .i64 0, .slice none 0 0] 26)) w2.heap.size #[.int .i64 0, .slice none 0 0] 26) := Boxed.new _ _ _
  obtain ⟨w3, hw3⟩ : ∃ w3, (w2.alloc (.cells #[.int .i64 0, .slice none 0 0] 26)).setRow w2.heap.size #[.int .i64 f, .slice vx n vc] = w3 := ⟨_, rfl⟩
  obtain ⟨B, hB⟩ : ∃ B, w2.heap.size = B := ⟨_, rfl⟩
  have b3 : Below w2.heap.size w2 w3 := by rw [← hw3]; exact below_setRow ((Below.refl _ _).alloc (Nat.le_refl _) _) (Nat.le_refl _) _
  have X3 : Hid (Boxed w3 w.heap.size #[.int .i64 f, .slice a n c] 26 ∧ Boxed w3 (w.heap.size + 1) #[.int .i64 0, .slice none 0 0] 26 ∧ Boxed w3 B #[.int .i64 f, .slice vx n vc] 26 ∧ Below w.heap.size w w3) := by
    have u1 := X1.out.2.2.1.under
    have u2 := q.size
    refine ⟨(X1.out.2.1.below X1.out.2.1.under q).below (by omega) b3, (X1.out.2.2.1.below u1 q).below (by omega) b3, ?_, (X1.out.2.2.2.trans (q.mono X1.out.2.2.2.size)).trans (b3.mono (by have := X1.out.2.2.2.size; omega))⟩
    rw [← hB, ← hw3]
    exact setRow_heap _ _ _ _ _ _ N.out
  have Y3 : Hid (HsV (w1.heap.size + 3) B w3 (.slice vx n vc) rs ls ∧ w.heap.size + 2 ≤ w1.heap.size ∧ w1.heap.size ≤ B) := ⟨by rw [← hB]; exact (hG.done).below b3, X1.out.2.2.1.under, by rw [← hB]; exact q.size⟩
  have HB : Hid _ := hB
  have H3 : Hid _ := hw3
  clear hB hw3 b3 hG q X1
  go_upto_region 4 with (refine wpList_store_row rfl 26 (.tmp 5) (.tmp 17) rfl w2.heap.size #[.int .i64 f, .slice vx n vc] rfl rfl _ _ N.out (by kernel_rfl) rfl (by simp [Value.oneCell']) ?_)
  rw [H3.out, HB.out]
  clear N H3 HB A3'
  obtain ⟨hl8, hf, hg⟩ := Hg.out (by first | exact trivial | exact rfl)
  have HG : Hid _ := hg
  obtain ⟨F, hF⟩ : ∃ F : Nat, f = F := ⟨f.toNat, by omega⟩
  subst hF
  rw [Int.toNat_natCast] at Hyes Hno
  have hFl : F < n := by omega
  clear hg Hg hf
  have hcl := hscells_length rs
  have hrl : rs.length = n := Y3.out.1.len.trans Hn.out
  have hne : hscells rs ≠ [] := by intro e; rw [e] at hcl; simp at hcl; omega
  have ho0 : SlIn (w1.heap.size + 3) B w3 (.slice vx n vc) n (hscells rs) := by have := Y3.out.1.outer; rw [Hn.out] at this; exact this
  obtain ⟨xg, xo, exv, xg1, xg2, -⟩ := ho0.some hne
  subst exv
  have Hxg : Hid (w1.heap.size + 3 ≤ xg ∧ xg < B) := ⟨xg1, xg2⟩
  clear hne ho0 xg1 xg2
  have Rd : Hid (HssAt w3 (some ⟨xg, xo, none⟩) ls) := by
    have := Y3.out.1
    rw [← Hn.out] at this
    exact this.at
  have fin : Hid (∀ x : World, (∀ k, k ≠ w.heap.size + 1 → k < w3.heap.size → x.heap[k]? = w3.heap[k]?) → w3.heap.size ≤ x.heap.size → DlIn w.heap.size x.heap.size x (.agg #[.int .i64 F, .slice (some ⟨xg, xo, none⟩) n vc]) ⟨F, ls⟩) := fun x hx hs => by
    refine ⟨some ⟨xg, xo, none⟩, vc, by simp [Dl.val, Hn.out], ?_⟩
    show HssIn _ _ _ (.slice (some ⟨xg, xo, none⟩) ls.length vc) ls
    rw [Hn.out]
    have h1 := Y3.out.2
    have h2 := X3.out.2.2.1.under
    exact ⟨rs, (Y3.out.1.keep hs fun k k1 k2 => hx k (by omega) (by omega)).wide (by omega) (by omega) (Nat.le_refl _)⟩
  have cb : w3.cell? ⟨w.heap.size, 1, none⟩ = some (.slice a n c) := X3.out.1.cell 1 rfl
  go_wp2
  clear cb
  have uu3 : Hid (w.heap.size + 1 < B ∧ B < w3.heap.size) := ⟨by have h1 := Y3.out.2; omega, X3.out.2.2.1.under⟩
  go_loopw [7] (fun kv wr => ∃ k : Nat, k ≤ n ∧ kv = .int .i64 k ∧ Hid ((∀ j, j < k → (hsAt ls ((F + j) % n)).some = false) ∧ Below w3.heap.size w3 wr)) (fun kv _ => n - (intOf kv).toNat)
  case atStart => exact ⟨0, Nat.zero_le _, rfl, fun j hj => by omega, Below.refl _ _⟩
  case round =>
    obtain ⟨k, hk, rfl, HK⟩ := hrel
    have Xr : Hid (Boxed wr w.heap.size #[.int .i64 F, .slice a n c] 26 ∧ Boxed wr (w.heap.size + 1) #[.int .i64 0, .slice none 0 0] 26 ∧ Boxed wr B #[.int .i64 F, .slice (some ⟨xg, xo, none⟩) n vc] 26 ∧ Below w.heap.size w wr) := by
      have u := uu3.out
      have b1 := HK.out.2
      exact ⟨X3.out.1.below (by omega) b1, X3.out.2.1.below (by omega) b1, X3.out.2.2.1.below (by omega) b1, X3.out.2.2.2.trans (b1.mono X3.out.2.2.2.size)⟩
    by_cases hlt : k < n
    · obtain ⟨I, hI⟩ : ∃ I, (F + k) % n = I := ⟨_, rfl⟩
      have hIl : I < n := by rw [← hI]; exact Nat.mod_lt _ (by omega)
      have hIl' : I < ls.length := by rw [Hn.out]; exact hIl
      have hI' : (I : Int) < (n : Int) := by omega
      have HI : Hid ((F + k) % n = I) := hI
      have kt : Int.tmod ((F : Int) + (k : Int)) (n : Int) = (I : Int) := by rw [tmod_nat2, hI]
      have kw1 : IntKind.i64.wrap ((F : Int) + (k : Int)) = (F : Int) + (k : Int) := by rw [IntKind.wrap_i64]; omega
      have kw2 : IntKind.i64.wrap (I : Int) = (I : Int) := by rw [IntKind.wrap_i64]; omega
      have hnz : ¬ (n : Int) = 0 := by omega
      have cf : wr.cell? ⟨w.heap.size, 0, none⟩ = some (.int .i64 F) := Xr.out.1.cell 0 rfl
      have co : wr.cell? ⟨B, 1, none⟩ = some (.slice (some ⟨xg, xo, none⟩) n vc) := Xr.out.2.2.1.cell 1 rfl
      clear hI
      obtain ⟨b9, off9, ak, ck, ha9, hb9, ⟨c0, c1⟩, hr, -, -⟩ := (Rd.out.below HK.out.2) I hIl'
      cases ha9
      have hok := HG.out I hIl
      have A4 := fun w h => specHost (hsAt ls I) ak ck w hok h
      have Hsm : Hid ((hsAt ls I).some = decide ((hsAt ls I).sum ≠ 0)) := rfl
      have Hfar : Hid ((hsAt ls I).some = true → ∀ q, q < (hsAt ls I).flows.length → flAt (hsAt ls I).flows (((hsAt ls I).turn.toNat + q) % (hsAt ls I).flows.length) ≠ 0 → (∀ j, j < q → flAt (hsAt ls I).flows (((hsAt ls I).turn.toNat + j) % (hsAt ls I).flows.length) = 0) → (hsAt ls I).at' = ((hsAt ls I).turn.toNat + q) % (hsAt ls I).flows.length) := fun _ q hq h1 h2 => by
        have e : (hsAt ls I).far = q := seek_eq hq (decide_eq_true h1) fun j hj => decide_eq_false (fun h => h (h2 j hj))
        unfold Hs.at'
        rw [e]
      have Hfl : Hid ((hsAt ls I).some = true → (hsAt ls I).far < (hsAt ls I).flows.length ∧ ∀ q, q < (hsAt ls I).far → flAt (hsAt ls I).flows (((hsAt ls I).turn.toNat + q) % (hsAt ls I).flows.length) = 0) := fun hs => ⟨Hs.far_lt hok hs, fun q hq => by simpa using seek_not hq⟩
      have Hfn : Hid ((hsAt ls I).some = true → flAt (hsAt ls I).flows (((hsAt ls I).turn.toNat + (hsAt ls I).far) % (hsAt ls I).flows.length) ≠ 0) := fun hs => of_decide_eq_true (seek_is (p := fun j => decide (flAt (hsAt ls I).flows j ≠ 0)) (s := (hsAt ls I).turn.toNat) (n := (hsAt ls I).flows.length) (Hs.far_lt hok hs))
      have Hless : Hid ((hsAt ls I).less = ⟨(((hsAt ls I).at' + 1) % (hsAt ls I).flows.length : Nat), (hsAt ls I).flows.set (hsAt ls I).at' (flAt (hsAt ls I).flows (hsAt ls I).at' - 1)⟩) := rfl
      have hk1 := Hs.ok_iff.1 hok
      have Hv2 : Hid ((hsAt ls I).some = true → T = ⟨((I + 1) % n : Nat), ls.set I (hsAt ls I).less⟩ ∧ th = (I : Int) ∧ tf = ((hsAt ls I).at' : Int)) := fun hs => by
        obtain ⟨e1, e2⟩ := Hyes.out k hlt (by rw [HI.out]; exact hs) HK.out.1
        rw [HI.out] at e2
        refine ⟨by rw [Hv.out, e1, e2]; rfl, by rw [HH.out, if_pos ⟨by first | exact trivial | exact rfl, e1⟩, e2], by rw [HF.out, if_pos ⟨by first | exact trivial | exact rfl, e1⟩, e2]⟩
      have Hcont : Hid ((hsAt ls I).some = false → ∀ j, j < k + 1 → (hsAt ls ((F + j) % n)).some = false) := fun hs j hj => by
        by_cases e : j = k
        · rw [e, HI.out]; exact hs
        · exact HK.out.1 j (by omega)
      have Put : Hid (∀ (i : Nat), i < (hsAt ls I).flows.length → ∀ (x off c : Nat), (hsrAt rs I).hd = .slice (some ⟨x, off, none⟩) (hsAt ls I).flows.length c → ∀ (W : World), Below w3.heap.size w3 W → ∀ z zt : Int, HsV (w1.heap.size + 3) B ((W.setCell ⟨x, off + i, none⟩ (.int .i64 z)).setCell ⟨xg, xo + I * 2, none⟩ (.int .i64 zt)) (.slice (some ⟨xg, xo, none⟩) n vc) (rs.set I ⟨zt, (hsrAt rs I).hd⟩) (ls.set I ⟨zt, (hsAt ls I).flows.set i z⟩)) := fun i hi x off c e W bW z zt => by
        have V0 := (Y3.out.1.below bW).put hIl' hi e z
        have V1 := V0.putTurn (j := I) (by rw [List.length_set]; exact hIl') (x := xg) (off := xo) (c := vc) (by rw [List.length_set, Hn.out]) zt
        rw [List.set_set, hsAt_set hIl'] at V1
        exact V1
      have Put0 : Hid (∀ (i : Nat), i < (hsAt ls I).flows.length → ∀ (x off c : Nat), (hsrAt rs I).hd = .slice (some ⟨x, off, none⟩) (hsAt ls I).flows.length c → ∀ (W : World), Below w3.heap.size w3 W → ∀ z : Int, (W.setCell ⟨x, off + i, none⟩ (.int .i64 z)).cell? ⟨xg, xo + I * 2, none⟩ = some (.int .i64 (hsAt ls I).turn) ∧ (W.setCell ⟨x, off + i, none⟩ (.int .i64 z)).frozen? ⟨xg, xo + I * 2, none⟩ = false) := fun i hi x off c e W bW z => by
        have V0 := (Y3.out.1.below bW).put hIl' hi e z
        have ho := V0.outer
        rw [List.length_set, Hn.out] at ho
        have hc := ho.cells (I * 2) (by omega)
        rw [(hscells_get rs I (by omega)).1, Option.getD_some, Y3.out.1.num I hIl'] at hc
        exact hc
      have Rw : Hid (IntIn (w1.heap.size + 3) B w3 (hsrAt rs I).hd (hsAt ls I).flows) := Y3.out.1.row I hIl'
      obtain ⟨a1, e1c, ev, -⟩ := Y3.out.1.cap I hIl'
      have c1' : some (hsrAt rs I).hd = wr.cell? ⟨xg, xo + I * 2 + 1, none⟩ := by
        have ho := (Y3.out.1.below HK.out.2).outer
        rw [Hn.out] at ho
        have := (ho.cells (I * 2 + 1) (by omega)).1
        rw [(hscells_get rs I (by omega)).2] at this
        rw [← Nat.add_assoc] at this
        exact this.symm
      rw [c1, ev] at c1'
      obtain ⟨ea, el, ec⟩ : a1 = ak ∧ (hsAt ls I).flows.length = (hsAt ls I).flows.length ∧ e1c = ck := by simpa using c1'
      subst ea ec
      clear c1' el
      generalize hq : hsAt ls I = q at c0 c1 hr A4 Hsm Hfar Hfl Hfn Hless hk1 Hv2 Hcont Put Put0 Rw ev
      clear hq hok
      generalize q.sum = y at A4 Hsm
      generalize q.some = sm at Hsm Hfar Hfl Hfn Hv2 Hcont
      generalize q.less = lss at Hless Hv2
      generalize q.at' = qa at Hfar Hless Hv2
      generalize q.far = qf at Hfl Hfn
      obtain ⟨t, fl⟩ := q
      simp only [Hs.val] at c0 c1 hr A4 Hfar Hfl Hfn Hless hk1 Put Put0 Rw ev
      obtain ⟨m, hml⟩ : ∃ m, fl.length = m := ⟨_, rfl⟩
      have Hml : Hid (fl.length = m) := hml
      rw [hml] at c1 A4 Hfar Hfl Hfn Hless hk1 Put Put0 ev
      obtain ⟨hm8, ht, hval⟩ := hk1
      have Hval : Hid _ := hval
      have Hr : Hid (IntsAt wr a1 fl) := hr
      have A4' : Hid _ := A4
      clear hml hr hval A4
      have hlt' : (k : Int) < (n : Int) := by omega
      go_wp2_with fail
      refine (A4'.out _ Hr.out).mono ?_
      rintro e w4 ⟨rfl, q⟩
      have B4 : Hid (Below w3.heap.size w3 w4 ∧ IntsAt w4 a1 fl) := ⟨HK.out.2.trans (q.mono HK.out.2.size), Hr.out.below q⟩
      have X4 : Hid (Boxed w4 w.heap.size #[.int .i64 F, .slice a n c] 26 ∧ Boxed w4 (w.heap.size + 1) #[.int .i64 0, .slice none 0 0] 26 ∧ Boxed w4 B #[.int .i64 F, .slice (some ⟨xg, xo, none⟩) n vc] 26 ∧ Below w.heap.size w w4) := ⟨Xr.out.1.below Xr.out.1.under q, Xr.out.2.1.below Xr.out.2.1.under q, Xr.out.2.2.1.below Xr.out.2.2.1.under q, Xr.out.2.2.2.trans (q.mono Xr.out.2.2.2.size)⟩
      have c0' : w4.cell? ⟨xg, xo + I * 2, none⟩ = some (.int .i64 t) := by rw [q.cell (p := ⟨xg, xo + I * 2, none⟩) hb9]; exact c0
      have c1' : w4.cell? ⟨xg, xo + I * 2 + 1, none⟩ = some (.slice a1 m e1c) := by rw [q.cell (p := ⟨xg, xo + I * 2 + 1, none⟩) hb9]; exact c1
      have hb4 : xg < w4.heap.size := Nat.lt_of_lt_of_le hb9 q.size
      clear q c0 c1 cf co A4' Hr Xr
      by_cases hy : y = 0
      · subst hy
        have hs : sm = false := by rw [Hsm.out]; rfl
        have K2 : Hid ((∀ j, j < k + 1 → (hsAt ls ((F + j) % n)).some = false) ∧ Below w3.heap.size w3 w4) := ⟨Hcont.out hs, B4.out.1⟩
        go_wp2
        go_roundw
        case rel => exact ⟨k + 1, by omega, by go_num, K2⟩
        case measure => simp [intOf]; omega
      have hs : sm = true := by rw [Hsm.out]; exact decide_eq_true hy
      subst hs
      obtain ⟨e1, e2, e3⟩ := Hv2.out rfl
      obtain ⟨hf1, hf2⟩ := Hfl.out rfl
      have hf3 := Hfn.out rfl
      have Hfar2 : Hid _ := Hfar.out rfl
      obtain ⟨tn, htn⟩ : ∃ tn : Nat, t = tn := ⟨t.toNat, by omega⟩
      subst htn
      rw [Int.toNat_natCast] at hf2 hf3 Hfar2
      have Hf2 : Hid _ := hf2
      have Hf3 : Hid _ := hf3
      have htl : tn < m := by omega
      have He1 : Hid (T = ⟨(((I + 1) % n : Nat) : Int), ls.set I lss⟩) := e1
      clear e1
      subst e2 e3
      have dy : (y == 0) = false := by simpa using hy
      clear Hsm Hcont Hfl Hfn Hfar Hv2 hf2 hf3 HK ht
      go_wp2
      clear hy dy
      have mz : ¬ (m : Int) = 0 := by omega
      go_loop [11] (fun jv => ∃ (qq J : Nat), qq ≤ qf ∧ jv = .int .i64 J ∧ Hid (J = (tn + qq) % m)) (fun jv => qf - ((intOf jv).toNat + m - tn) % m)
      case atStart => exact ⟨0, tn, Nat.zero_le _, rfl, by show tn = _; rw [Nat.add_zero, Nat.mod_eq_of_lt htl]⟩
      case round =>
        obtain ⟨qq, J, hqq, rfl, HJ⟩ := hrel
        have hJ : J < m := by rw [HJ.out]; exact Nat.mod_lt _ (by omega)
        have hJ' : (J : Int) < (m : Int) := by omega
        have hJl : J < fl.length := by rw [Hml.out]; exact hJ
        obtain ⟨b5, o5, ha5, hb5, c5⟩ := B4.out.2 J hJl
        subst ha5
        have e5 : fl[J]?.getD 0 = flAt fl J := rfl
        rw [e5] at c5
        by_cases hend : qq = qf
        · have hnz5 := Hf3.out
          rw [← hend, ← HJ.out] at hnz5
          have eqa : qa = J := by
            rw [HJ.out]
            exact Hfar2.out qq (by omega) (by rw [← HJ.out]; exact hnz5) fun j hj => Hf2.out j (by omega)
          subst eqa
          have Hl : Hid (lss = ⟨((qa + 1) % m : Nat), fl.set qa (flAt fl qa - 1)⟩) := Hless.out
          have hv5 := Hval.out _ (flAt_mem hJl)
          have P0 := Put0.out qa hJ b5 o5 e1c ev w4 B4.out.1
          have P1 := fun z zt => Put.out qa hJ b5 o5 e1c ev w4 B4.out.1 z zt
          have hRw := SlIn.below Rw.out B4.out.1
          rw [ev, Hml.out] at hRw
          have yz := (SlIn.cells hRw qa (by rw [List.length_map]; exact hJl)).2
          have yb := SlIn.in hRw (k := b5) (o := o5 + qa) ⟨o5, m, e1c, rfl, by omega, by rw [List.length_map]; omega⟩
          generalize flAt fl qa = y5 at c5 hnz5 Hl hv5
          obtain ⟨v50, v51⟩ := hv5
          obtain ⟨p00, p01⟩ := P0 (y5 - 1)
          have kt2 : Int.tmod ((qa : Int) + 1) (m : Int) = (((qa + 1) % m : Nat) : Int) := tmod_nat qa m
          have kl : (qa + 1) % m < m := Nat.mod_lt _ (by omega)
          have kw3 : IntKind.i64.wrap ((qa : Int) + 1) = (qa : Int) + 1 := by rw [IntKind.wrap_i64]; omega
          have kw4 : IntKind.i64.wrap (((qa + 1) % m : Nat) : Int) = (((qa + 1) % m : Nat) : Int) := by rw [IntKind.wrap_i64]; omega
          have kt6 : Int.tmod ((I : Int) + 1) (n : Int) = (((I + 1) % n : Nat) : Int) := tmod_nat I n
          have kl6 : (I + 1) % n < n := Nat.mod_lt _ (by omega)
          have kw5 : IntKind.i64.wrap ((I : Int) + 1) = (I : Int) + 1 := by rw [IntKind.wrap_i64]; omega
          have kw6 : IntKind.i64.wrap (((I + 1) % n : Nat) : Int) = (((I + 1) % n : Nat) : Int) := by rw [IntKind.wrap_i64]; omega
          have kw7 : IntKind.i64.wrap (y5 - 1) = y5 - 1 := by rw [IntKind.wrap_i64]; omega
          generalize (qa + 1) % m = J3 at kt2 kl kw4 Hl
          obtain ⟨I3, hI3⟩ : ∃ I3, (I + 1) % n = I3 := ⟨_, rfl⟩
          have e1 : T = ⟨(I3 : Int), ls.set I lss⟩ := by rw [He1.out, hI3]
          rw [hI3] at kt6 kl6 kw6
          clear hI3 He1
          subst e1
          have P2 : Hid (HsV (w1.heap.size + 3) B ((w4.setCell ⟨b5, o5 + qa, none⟩ (.int .i64 (y5 - 1))).setCell ⟨xg, xo + I * 2, none⟩ (.int .i64 (J3 : Int))) (.slice (some ⟨xg, xo, none⟩) n vc) (rs.set I ⟨(J3 : Int), (hsrAt rs I).hd⟩) (ls.set I lss)) := by
            rw [Hl.out]
            exact P1 (y5 - 1) (J3 : Int)
          have X5 : Hid (Boxed ((w4.setCell ⟨b5, o5 + qa, none⟩ (.int .i64 (y5 - 1))).setCell ⟨xg, xo + I * 2, none⟩ (.int .i64 (J3 : Int))) w.heap.size #[.int .i64 F, .slice a n c] 26 ∧ Boxed ((w4.setCell ⟨b5, o5 + qa, none⟩ (.int .i64 (y5 - 1))).setCell ⟨xg, xo + I * 2, none⟩ (.int .i64 (J3 : Int))) (w.heap.size + 1) #[.int .i64 0, .slice none 0 0] 26 ∧ Boxed ((w4.setCell ⟨b5, o5 + qa, none⟩ (.int .i64 (y5 - 1))).setCell ⟨xg, xo + I * 2, none⟩ (.int .i64 (J3 : Int))) B #[.int .i64 F, .slice (some ⟨xg, xo, none⟩) n vc] 26 ∧ Below w.heap.size w ((w4.setCell ⟨b5, o5 + qa, none⟩ (.int .i64 (y5 - 1))).setCell ⟨xg, xo + I * 2, none⟩ (.int .i64 (J3 : Int)))) := by
            have h1 := Y3.out.2
            have h2 := Hxg.out
            exact ⟨(X4.out.1.far (by omega) _ _).far (by omega) _ _, (X4.out.2.1.far (by omega) _ _).far (by omega) _ _, (X4.out.2.2.1.far (by omega) _ _).far (by omega) _ _, (X4.out.2.2.2.setCell (by show w.heap.size ≤ b5; omega) _).setCell (by show w.heap.size ≤ xg; omega) _⟩
          have hy0 : ¬ y5 = 0 := hnz5
          have dy5 : (y5 == 0) = false := by simpa using hnz5
          have l5 : b5 < w4.heap.size := hb5
          clear hnz5 P0 P1 hRw Hf2 Hf3 Hfar2 Hless Put Put0 e5
          go_upto_region 15 with fail
          go_region
          have q00 : (w4.setCell ⟨b5, o5 + qa, none⟩ (.int .i64 (y5 - 1))).drew.cell? ⟨xg, xo + I * 2, none⟩ = some (.int .i64 tn) := p00
          have q01 : (w4.setCell ⟨b5, o5 + qa, none⟩ (.int .i64 (y5 - 1))).drew.frozen? ⟨xg, xo + I * 2, none⟩ = false := p01
          have q02 : xg < (w4.setCell ⟨b5, o5 + qa, none⟩ (.int .i64 (y5 - 1))).drew.heap.size := by simpa [World.setCell, World.drew] using hb4
          have X6 : Hid (Boxed ((w4.setCell ⟨b5, o5 + qa, none⟩ (.int .i64 (y5 - 1))).setCell ⟨xg, xo + I * 2, none⟩ (.int .i64 (J3 : Int))).drew w.heap.size #[.int .i64 F, .slice a n c] 26 ∧ Boxed ((w4.setCell ⟨b5, o5 + qa, none⟩ (.int .i64 (y5 - 1))).setCell ⟨xg, xo + I * 2, none⟩ (.int .i64 (J3 : Int))).drew (w.heap.size + 1) #[.int .i64 0, .slice none 0 0] 26 ∧ Boxed ((w4.setCell ⟨b5, o5 + qa, none⟩ (.int .i64 (y5 - 1))).setCell ⟨xg, xo + I * 2, none⟩ (.int .i64 (J3 : Int))).drew B #[.int .i64 F, .slice (some ⟨xg, xo, none⟩) n vc] 26 ∧ Below w.heap.size w ((w4.setCell ⟨b5, o5 + qa, none⟩ (.int .i64 (y5 - 1))).setCell ⟨xg, xo + I * 2, none⟩ (.int .i64 (J3 : Int))).drew) := ⟨X5.out.1, X5.out.2.1, X5.out.2.2.1, X5.out.2.2.2.drew⟩
          have P6 : Hid (HsV (w1.heap.size + 3) B ((w4.setCell ⟨b5, o5 + qa, none⟩ (.int .i64 (y5 - 1))).setCell ⟨xg, xo + I * 2, none⟩ (.int .i64 (J3 : Int))).drew (.slice (some ⟨xg, xo, none⟩) n vc) (rs.set I ⟨(J3 : Int), (hsrAt rs I).hd⟩) (ls.set I lss)) := P2.out.keep (Nat.le_refl _) fun _ _ _ => rfl
          go_upto_region 17 with fail
          generalize ((w4.setCell ⟨b5, o5 + qa, none⟩ (.int .i64 (y5 - 1))).setCell ⟨xg, xo + I * 2, none⟩ (.int .i64 (J3 : Int))).drew = w5 at X6 P6 ⊢
          clear P2 X5 p00 p01 q00 q01 q02 c0' c1' c5 yz X4 B4
          have cB0 : w5.cell? ⟨B, 0, none⟩ = some (.int .i64 F) := X6.out.2.2.1.cell 0 rfl
          have zB0 := X6.out.2.2.1.ice 0
          have lB : B < w5.heap.size := X6.out.2.2.1.under
          have X7 : Hid (Boxed (w5.setCell ⟨B, 0, none⟩ (.int .i64 (I3 : Int))) w.heap.size #[.int .i64 F, .slice a n c] 26 ∧ Boxed (w5.setCell ⟨B, 0, none⟩ (.int .i64 (I3 : Int))) (w.heap.size + 1) #[.int .i64 0, .slice none 0 0] 26 ∧ Boxed (w5.setCell ⟨B, 0, none⟩ (.int .i64 (I3 : Int))) B #[.int .i64 (I3 : Int), .slice (some ⟨xg, xo, none⟩) n vc] 26 ∧ Below w.heap.size w (w5.setCell ⟨B, 0, none⟩ (.int .i64 (I3 : Int)))) := by
            have h1 := Y3.out.2
            exact ⟨X6.out.1.far (by omega) _ _, X6.out.2.1.far (by omega) _ _, X6.out.2.2.1.put 0 _, X6.out.2.2.2.setCell (by show w.heap.size ≤ B; omega) _⟩
          have fin2 : Hid (∀ x : World, (∀ k, k ≠ w.heap.size + 1 → x.heap[k]? = (w5.setCell ⟨B, 0, none⟩ (.int .i64 (I3 : Int))).heap[k]?) → w5.heap.size ≤ x.heap.size → DlIn w.heap.size x.heap.size x (.agg #[.int .i64 (I3 : Int), .slice (some ⟨xg, xo, none⟩) n vc]) ⟨(I3 : Int), ls.set I lss⟩) := fun x hx hs => by
            refine ⟨some ⟨xg, xo, none⟩, vc, by simp [Dl.val, Hn.out], ?_⟩
            show HssIn _ _ _ (.slice (some ⟨xg, xo, none⟩) (ls.set I lss).length vc) _
            rw [List.length_set, Hn.out]
            have h1 := Y3.out.2
            exact ⟨_, (P6.out.keep hs fun k k1 k2 => (hx k (by omega)).trans (Below.heap_setCell _ _ _ _ (by show k ≠ B; omega))).wide (by omega) (by omega) (Nat.le_refl _)⟩
          go_upto_region 18 with fail
          have hz6 : Hid ((w5.setCell ⟨B, 0, none⟩ (.int .i64 (I3 : Int))).heap.size = w5.heap.size) := by show Array.size _ = _; simp [World.setCell]
          generalize w5.setCell ⟨B, 0, none⟩ (.int .i64 (I3 : Int)) = w6 at X7 fin2 hz6 ⊢
          go_wp2_with (first | (refine wpList_load_row rfl 26 (.tmp 5) rfl B rfl _ _ _ _ X7.out.2.2.1 Try.underlying26 rfl (by kernel_rfl) ?_) | (refine wpList_store_row rfl 26 (.tmp 2) (.tmp 88) rfl (w.heap.size + 1) #[.int .i64 (I3 : Int), .slice (some ⟨xg, xo, none⟩) n vc] rfl rfl _ _ X7.out.2.1 (by kernel_rfl) rfl (by simp [Value.oneCell']) ?_))
          exact bodyPost_ret (results_row_tmp2w Try.results8 _ _ (w.heap.size + 1) _ _ _ _ (.int .i64 (I : Int)) (.int .i64 (qa : Int)) rfl rfl rfl (setRow_heap _ (w.heap.size + 1) _ _ _ _ X7.out.2.1) Try.underlying26 rfl (by kernel_rfl)) rfl ⟨⟨_, rfl, fin2.out _ (fun k hk => setRow_other _ _ _ _ hk) (by have e := hz6.out; simp only [size_setRow]; omega)⟩, below_setRow X7.out.2.2.2 (by omega) _⟩
        · have hz := Hf2.out qq (by omega)
          rw [← HJ.out] at hz
          rw [hz] at c5
          have kt2 : Int.tmod ((J : Int) + 1) (m : Int) = (((J + 1) % m : Nat) : Int) := tmod_nat J m
          have kl : (J + 1) % m < m := Nat.mod_lt _ (by omega)
          have kw3 : IntKind.i64.wrap ((J : Int) + 1) = (J : Int) + 1 := by rw [IntKind.wrap_i64]; omega
          have kw4 : IntKind.i64.wrap (((J + 1) % m : Nat) : Int) = (((J + 1) % m : Nat) : Int) := by rw [IntKind.wrap_i64]; omega
          have HJ2 : Hid ((J + 1) % m = (tn + (qq + 1)) % m) := by show (J + 1) % m = _; rw [HJ.out]; exact next_step
          have HM : Hid (qf - ((J + 1) % m + m - tn) % m < qf - (J + m - tn) % m) := by
            show qf - _ < qf - _
            rw [HJ2.out, back_step htl (show qq + 1 < m by omega), HJ.out, back_step htl (show qq < m by omega)]
            omega
          generalize (J + 1) % m = J2 at kt2 kl kw4 HJ2 HM
          clear hz e5
          go_wp2
          go_round
          case rel => exact ⟨qq + 1, J2, by omega, by first | rfl | simp only [kt2, kw4], HJ2⟩
          case measure => simpa [intOf] using HM.out
    · obtain rfl : n = k := by omega
      have hno := Hno.out HK.out.1
      have e1 : T = ⟨(F : Int), ls⟩ := by rw [Hv.out, hno]; rfl
      have e2 : th = -1 := by rw [HH.out, if_neg (fun h => by have h2 := h.2; rw [hno] at h2; cases h2)]
      have e3 : tf = -1 := by rw [HF.out, if_neg (fun h => by have h2 := h.2; rw [hno] at h2; cases h2)]
      subst e1 e2 e3
      have hbw : Hid (∀ j : Nat, j < w3.heap.size → wr.heap[j]? = w3.heap[j]?) := fun j hj => HK.out.2.block j hj
      have hbs : Hid (w3.heap.size ≤ wr.heap.size) := HK.out.2.size
      clear HK
      go_upto_region 19 with fail
      go_wp2_with (first | (refine wpList_load_row rfl 26 (.tmp 5) rfl B rfl _ _ _ _ Xr.out.2.2.1 Try.underlying26 rfl (by kernel_rfl) ?_) | (refine wpList_store_row rfl 26 (.tmp 2) (.tmp 91) rfl (w.heap.size + 1) #[.int .i64 F, .slice (some ⟨xg, xo, none⟩) n vc] rfl rfl _ _ Xr.out.2.1 (by kernel_rfl) rfl (by simp [Value.oneCell']) ?_))
      exact bodyPost_ret (results_row_tmp2w Try.results8 _ _ (w.heap.size + 1) _ _ _ _ (.int .i64 (-1)) (.int .i64 (-1)) rfl rfl rfl (setRow_heap _ (w.heap.size + 1) _ _ _ _ Xr.out.2.1) Try.underlying26 rfl (by kernel_rfl)) rfl ⟨⟨_, rfl, fin.out _ (fun k hk hk2 => (setRow_other _ _ _ _ hk).trans (hbw.out k hk2)) (by rw [size_setRow]; exact hbs.out)⟩, below_setRow Xr.out.2.2.2 (by omega) _⟩
end Go.Proofs.Ytojmghnbekneiaa
