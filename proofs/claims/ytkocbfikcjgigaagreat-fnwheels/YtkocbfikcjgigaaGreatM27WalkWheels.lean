import Derived.Test.YtkocbfikcjgigaaGreatM26HpTake
import Derived.Test.YtkocbfikcjgigaaGreatLawWheels
import Derived.Test.YtkocbfikcjgigaaGreatWhToW
import Derived.Test.YtkocbfikcjgigaaGreatWhPtI
import Derived.Test.YtkocbfikcjgigaaGreatWhTkI
import Derived.Test.YtkocbfikcjgigaaGreatWhOkW
import Derived.Test.YtkocbfikcjgigaaGreatM22DzCat
/-
  The walk of the program's ToHeap, the whole. By the verifier.
-/
namespace Go.Proofs.YtkocbfikcjgigaaGreat
open Go.RowKit Go.Shelf

set_option maxHeartbeats 3200000 in
set_option maxRecDepth 100000 in
theorem implToHeap (r : Wh) (v : Value) (w : World) (hB : r.big ≤ 1048576) (h : Hid (WhAt w v r)) :
    Calls Tryz.prog 12 #[v] w fun e w' => (∃ v', e = .returned (.tuple #[v', .bool (r.ok)]) ∧ DuRow w.heap.size w' v' (toH r)) ∧ Below w.heap.size w w' := by
  have A1 := fun (w : World) (hh : Hid (WhAt w v r)) => implWheelOk r v w hB hh
  have A2 := fun (w : World) (hh : Hid (WhAt w v r)) => implAllIn r v w hB hh
  have HI : Hid (∀ w', Below w.heap.size w w' → WhAt w' v r) := fun w' g => h.out.below g
  have P1 : Hid (r.ok = false → toH r = []) := fun e => by unfold toH; rw [e]; rfl
  have P2 : Hid (r.ok = true → ∀ l : List Du, l.Perm r.slots.flatten → Sorted l → l.length ≤ 60 ∧ toH r = l.foldl hput []) := fun e l hp hs => ⟨by rw [hp.length_eq]; exact (Wh.ok_is.1 e).2.2.1, toH_sorted e hp hs⟩
  obtain ⟨a, c, ev, -⟩ := h.out
  obtain ⟨f, ls⟩ := r
  simp only [Wh.val] at ev
  subst ev
  generalize (⟨f, ls⟩ : Wh).ok = ok at A1 P1 P2 ⊢
  generalize toH ⟨f, ls⟩ = rl at P1 P2 ⊢
  generalize ls.length = n at A1 A2 HI ⊢
  simp only [] at A2 P2
  have A1' : Hid _ := A1
  have A2' : Hid _ := A2
  clear A1 A2 h hB
  obtain ⟨W, hW⟩ : ∃ W, W = w.alloc (.cells #[.int .i64 f, .slice a n c] 29) := ⟨_, rfl⟩
  have X : Hid (Boxed W w.heap.size #[.int .i64 f, .slice a n c] 29 ∧ Below w.heap.size w W) := by rw [hW]; exact ⟨Boxed.new _ _ _, (Below.refl _ _).alloc (Nat.le_refl _) _⟩
  have HWe : Hid (W = _) := hW
  clear hW
  go_enter Tryz.func12, Tryz.ntmps12
  go_upto_region 1 with fail
  rw [← HWe.out]
  clear HWe
  have d0 : W.cell? ⟨w.heap.size, 0, none⟩ = some (.int .i64 f) := X.out.1.cell 0 rfl
  have d1 : W.cell? ⟨w.heap.size, 1, none⟩ = some (.slice a n c) := X.out.1.cell 1 rfl
  go_wp2_with fail
  refine (A1'.out _ (HI.out _ X.out.2)).mono ?_
  rintro e w1 ⟨rfl, q⟩
  have X1 : Hid (Boxed w1 w.heap.size #[.int .i64 f, .slice a n c] 29 ∧ Below w.heap.size w w1) := ⟨X.out.1.below X.out.1.under q, X.out.2.trans (q.mono X.out.2.size)⟩
  clear q X A1' d0 d1
  cases ok
  · have e := P1.out (by first | exact trivial | exact rfl)
    subst e
    go_wp2
    go_ret2
    exact ⟨⟨_, rfl, du_built w1 _ X1.out.2.size⟩, X1.out.2.alloc X1.out.2.size _⟩
  have P2' := P2.out (by first | exact trivial | exact rfl)
  have Q2 : Hid _ := P2'
  clear P2 P2' P1
  have X2 : Hid (HpV w.heap.size (w1.heap.size + 1) w1.heap.size 0 [] ((w1.alloc (.cells #[] 33)).alloc (.cells #[.slice (some ⟨w1.heap.size, 0, none⟩) 0 0] 67)) ∧ Boxed ((w1.alloc (.cells #[] 33)).alloc (.cells #[.slice (some ⟨w1.heap.size, 0, none⟩) 0 0] 67)) w.heap.size #[.int .i64 f, .slice a n c] 29 ∧ Below w.heap.size w ((w1.alloc (.cells #[] 33)).alloc (.cells #[.slice (some ⟨w1.heap.size, 0, none⟩) 0 0] 67))) := by
    have hs := X1.out.2.size
    refine ⟨⟨?_, (du_built w1 _ hs).alloc _, by omega⟩, (X1.out.1.more _).more _, (X1.out.2.alloc hs _).alloc (by simp; omega) _⟩
    have := Boxed.new (w1.alloc (.cells #[] 33)) #[.slice (some ⟨w1.heap.size, 0, none⟩) 0 0] 67
    simpa using this
  go_upto_region 4 with fail
  generalize (w1.alloc (.cells #[] 33)).alloc (.cells #[.slice (some ⟨w1.heap.size, 0, none⟩) 0 0] 67) = w2 at X2 ⊢
  generalize w1.heap.size = g0 at X2 ⊢
  clear X1
  obtain ⟨B, hBe⟩ : ∃ B, g0 + 1 = B := ⟨_, rfl⟩
  rw [hBe] at X2 ⊢
  clear hBe
  have d0 : w2.cell? ⟨w.heap.size, 0, none⟩ = some (.int .i64 f) := X2.out.2.1.cell 0 rfl
  have d1 : w2.cell? ⟨w.heap.size, 1, none⟩ = some (.slice a n c) := X2.out.2.1.cell 1 rfl
  go_wp2_with fail
  refine (A2'.out _ (HI.out _ X2.out.2.2)).mono ?_
  rintro e w3 ⟨gl, l, rfl, p1, p2, p3, p4⟩
  have L0 : Hid (HtL w.heap.size B gl ((l.take 0).foldl hput []) l w w3) := by
    have h1 := X2.out.1.lt
    have h2 := X2.out.1.box.under
    have h3 := (p3.lt gl rfl).1
    have h4 := X2.out.2.2.size
    exact ⟨⟨g0, 0, X2.out.1.below p4, by omega⟩, p3.mono h4, by omega, X2.out.2.2.trans (p4.mono h4), Nat.le_trans h4 p4.size⟩
  obtain ⟨hn60, hfin⟩ := Q2.out l p1 p2
  have HF : Hid (rl = l.foldl hput []) := hfin
  clear hfin Q2 d0 d1 X2 p1 p2 p3 p4 A2' HI
  obtain ⟨m, hm⟩ : ∃ m, l.length = m := ⟨_, rfl⟩
  have Hm : Hid (l.length = m) := hm
  rw [hm] at hn60 ⊢
  obtain ⟨al, hal⟩ : ∃ al, al = some (⟨gl, 0, none⟩ : Addr) := ⟨_, rfl⟩
  rw [← hal]
  have Hal : Hid (al = some (⟨gl, 0, none⟩ : Addr)) := hal
  clear hm hal
  go_wp2_with fail
  go_loopw [15] (fun s wr => ∃ k : Nat, k ≤ m ∧ s = .int .i64 k ∧ Hid (HtL w.heap.size B gl ((l.take k).foldl hput []) l w wr)) (fun s _ => m - (intOf s).toNat)
  case atStart => exact ⟨0, Nat.zero_le _, rfl, L0.out⟩
  case round =>
    obtain ⟨k, hk, rfl, HK⟩ := hrel
    clear L0
    obtain ⟨wo, rfl⟩ : ∃ wo, wo = wr := ⟨_, rfl⟩
    obtain ⟨g, cap, hv, hg⟩ := HK.out.hp
    have HV : Hid (HpV w.heap.size B g cap ((l.take k).foldl hput []) wo ∧ gl ≠ g) := ⟨hv, hg⟩
    clear hv hg
    have hlk : Hid (((l.take k).foldl hput []).length = k) := foldl_len k (by rw [Hm.out]; exact hk)
    by_cases hlt : k < m
    case neg =>
      obtain rfl : k = m := by omega
      have e : l.take k = l := List.take_of_length_le (by rw [Hm.out]; exact Nat.le_refl _)
      have hc := HV.out.1.cell
      rw [hlk.out] at hc
      have F : Hid (DuRow w.heap.size wo (.slice (some ⟨g, 0, none⟩) k cap) rl ∧ Below w.heap.size w wo) := by
        have h1 := HV.out.1.row
        rw [hlk.out, e, ← HF.out] at h1
        exact ⟨h1, HK.out.bel⟩
      clear e HV HK
      go_wp2
      go_ret2
      exact ⟨⟨_, rfl, F.out.1⟩, F.out.2⟩
    have hkl : k < l.length := by rw [Hm.out]; exact hlt
    have hlt' : (k : Int) < (m : Int) := by omega
    have hat : DusAt wo al l := by rw [Hal.out]; exact HK.out.row.at
    obtain ⟨b1, o1, ha1, -, -⟩ := hat k hkl
    subst ha1
    obtain ⟨c0, c1⟩ := hat.cells hkl
    clear hat
    have Nx : Hid ((l.take (k + 1)).foldl hput [] = hput ((l.take k).foldl hput []) (duAt l k)) := foldl_next hkl
    have A3 := fun (w' : World) (hh : HpV w.heap.size B g cap ((l.take k).foldl hput []) w') => implPutM w.heap.size B g cap ((l.take k).foldl hput []) (duAt l k) w' (by rw [hlk.out]; omega) hh
    rw [← Nx.out] at A3
    obtain ⟨d, hd⟩ : ∃ d, duAt l k = d := ⟨_, rfl⟩
    rw [hd] at c0 c1 A3
    unfold Du.val at A3
    have A3' : Hid _ := A3
    have b0 : Below wo.heap.size wo (wo.alloc (.cells #[.int .i64 d.time, .int .i64 d.id] 33)) := (Below.refl _ _).alloc (Nat.le_refl _) _
    have Y : Hid (HtL w.heap.size B gl ((l.take k).foldl hput []) l w (wo.alloc (.cells #[.int .i64 d.time, .int .i64 d.id] 33)) ∧ HpV w.heap.size B g cap ((l.take k).foldl hput []) (wo.alloc (.cells #[.int .i64 d.time, .int .i64 d.id] 33)) ∧ gl ≠ g) := ⟨HK.out.below b0, HV.out.1.below b0, HV.out.2⟩
    clear A3 hd b0 HK HV hlk Nx
    go_wp2_with fail
    refine (A3'.out _ Y.out.2.1).mono ?_
    rintro e w4 ⟨rfl, q⟩
    have Z : Hid (HtL w.heap.size B gl ((l.take (k + 1)).foldl hput []) l w w4) := Y.out.1.put Y.out.2.2 q
    clear q Y A3' c0 c1
    go_wp2
    go_roundw
    case rel => exact ⟨k + 1, by omega, by go_num, Z.out⟩
    case measure => simp [intOf]; omega
end Go.Proofs.YtkocbfikcjgigaaGreat

/-
  The walk of the program's HeapTake. By the verifier.
-/
namespace Go.Proofs.YtkocbfikcjgigaaGreat
open Go.RowKit Go.Shelf

/-- Results: a slot, a struct's variable, a slot. -/
theorem results_v_row_v {P : Program} {fn : Func} {p q q2 : Tmp} {ty : TypeId} (h : fn.results = #[.tmp q, .cell p ty, .tmp q2]) (tmps : Array Value) (w : World) (g : Nat) (t : TypeId) (cs : Array Value) (fr : Nat × Nat) (d : TypeDesc) (v v2 : Value)
    (hp : tmps.getD p undef = .pointer (some ⟨g, 0, none⟩)) (hv : tmps.getD q undef = v) (hv2 : tmps.getD q2 undef = v2) (hg : w.heap[g]? = some (.cells cs t fr))
    (hu : P.underlying ty = some d) (hd : (match d with | .struct _ | .array _ _ => true | _ => false) = true) (hi : (P.info? ty).map (·.size) = some cs.size) :
    (results fn tmps).run P w = .ok (.tuple #[v, .agg cs, v2]) w := by
  have hp' : tmps[p]?.getD undef = .pointer (some ⟨g, 0, none⟩) := by simpa using hp
  have hv' : tmps[q]?.getD undef = v := by simpa using hv
  have hv2' : tmps[q2]?.getD undef = v2 := by simpa using hv2
  simp [results, h, hp', hv', hv2', asAddr, run_loadVar_row w g t ty cs fr d hg hu hd hi]
/-- What lies when the first one has been taken. -/
structure HtX (w : World) (R F B g cap : Nat) (l : List Du) (z0 z1 t i : Int) (x : World) : Prop where
  res : Boxed x R #[.int .i64 z0, .int .i64 z1] 33
  due : Boxed x F #[.int .i64 t, .int .i64 i] 33
  hp : HpV (w.heap.size + 1) B g cap l x
  bel : Below w.heap.size w x
  lo : w.heap.size ≤ R
  rf : R < F ∧ R < B ∧ R < g
theorem HtX.put {w : World} {R F B g cap : Nat} {l : List Du} {z0 z1 t i y0 y1 : Int} {x : World} (h : HtX w R F B g cap l z0 z1 t i x) : HtX w R F B g cap l y0 y1 t i (x.setRow R #[.int .i64 y0, .int .i64 y1]) := by
  have o : ∀ k, k ≠ R → (x.setRow R #[.int .i64 y0, .int .i64 y1]).heap[k]? = x.heap[k]? := fun k hk => setRow_other _ _ _ _ hk
  obtain ⟨r1, r2, r3⟩ := h.rf
  refine ⟨setRow_heap _ _ _ _ _ _ h.res, ?_, ⟨?_, ?_, h.hp.lo⟩, below_setRow h.bel h.lo _, h.lo, h.rf⟩
  · unfold Boxed; rw [o F (by omega)]; exact h.due
  · unfold Boxed; rw [o B (by omega)]; exact h.hp.box
  · refine h.hp.row.carry fun k hk _ => o k ?_
    have : some g = some k := hk
    cases this
    omega
set_option maxHeartbeats 3200000 in
set_option maxRecDepth 100000 in
theorem implHeapTake (l : List Du) (a : Option Addr) (cap : Nat) (w : World) (hT : l.length ≤ 1048576) (_hcap : l.length ≤ cap) (_hnil : a = none → cap = 0) (h : Hid (DusAt w a l)) :
    Calls Tryz.prog 22 #[.slice a l.length cap] w fun e w' => (∃ v, e = .returned (.tuple #[v, (takeD l).val, .bool (mayTake l)]) ∧ DuRow w.heap.size w' v (takeH l)) ∧ Below w.heap.size w w' := by
  have A1 := fun (w : World) (hh : DusAt w a l) => implHeapOk l a cap w hT hh
  have A2 := fun (w : World) (hh : DusAt w a l) => implCopyDu a cap l w hT hh
  have A3 : Hid (l.length ≠ 0 → ∀ base B g c w, HpV base B g c l w → Calls Tryz.prog 54 #[.pointer (some ⟨B, 0, none⟩)] w fun e w' => e = .returned (duAt l 0).val ∧ HpV base B g c (htake l) w' ∧ Kq base g B w w') := fun hk base B g c w hv => implTakeM base B g c l w hT (by omega) hv
  have P1 : Hid ((hok l && !decide (l.length = 0)) = false → mayTake l = false ∧ takeH l = [] ∧ takeD l = ⟨0, 0⟩) := fun e => by
    have e' : mayTake l = false := e
    unfold takeH takeD
    rw [e']
    exact ⟨rfl, rfl, rfl⟩
  have P2 : Hid ((hok l && !decide (l.length = 0)) = true → mayTake l = true ∧ takeH l = htake l ∧ takeD l = duAt l 0) := fun e => by
    have e' : mayTake l = true := e
    unfold takeH takeD
    rw [e']
    exact ⟨rfl, rfl, rfl⟩
  have HI : Hid (∀ w', Below w.heap.size w w' → DusAt w' a l) := fun w' g => h.out.below g
  have HW : Hid (∀ base w g c, DuRow base w (.slice (some ⟨g, 0, none⟩) l.length c) l → base ≤ w.heap.size → HpV base w.heap.size g c l (w.alloc (.cells #[.slice (some ⟨g, 0, none⟩) l.length c] 67))) := fun base w g c hr hb => hp_new hr hb
  generalize hok l = b1 at A1 P1 P2
  generalize mayTake l = rb at P1 P2 ⊢
  generalize takeH l = rl at P1 P2 ⊢
  generalize takeD l = rd at P1 P2 ⊢
  generalize htake l = hl at A3 P2
  generalize duAt l 0 = d0 at A3 P2
  generalize l.length = n at A1 A2 A3 P1 P2 HW ⊢
  have A1' : Hid _ := A1
  have A2' : Hid _ := A2
  clear A1 A2 h hT
  obtain ⟨W, hW⟩ : ∃ W, W = w.alloc (.cells #[.int .i64 0, .int .i64 0] 33) := ⟨_, rfl⟩
  have X : Hid (Boxed W w.heap.size #[.int .i64 0, .int .i64 0] 33 ∧ Below w.heap.size w W) := by rw [hW]; exact ⟨Boxed.new _ _ _, (Below.refl _ _).alloc (Nat.le_refl _) _⟩
  have HWe : Hid (W = _) := hW
  clear hW
  go_enter Tryz.func22, Tryz.ntmps22
  go_upto_region 1 with fail
  rw [← HWe.out]
  clear HWe
  go_wp2_with fail
  refine (A1'.out _ (HI.out _ X.out.2)).mono ?_
  rintro e w1 ⟨rfl, q⟩
  have X1 : Hid (Boxed w1 w.heap.size #[.int .i64 0, .int .i64 0] 33 ∧ Below w.heap.size w w1) := ⟨X.out.1.below X.out.1.under q, X.out.2.trans (q.mono X.out.2.size)⟩
  clear q X A1'
  have Bad : Hid (∀ z : Act, z.tmps.getD 3 undef = .pointer (some ⟨w.heap.size, 0, none⟩) → z.tmps.getD 2 undef = .slice (some ⟨w1.heap.size, 0, none⟩) 0 0 → z.tmps.getD 4 undef = .bool false → z.defers = [] →
      bodyPost Tryz.prog Tryz.f22 (fun e w' => (∃ v, e = .returned (.tuple #[v, Du.val ⟨0, 0⟩, .bool false]) ∧ DuRow w.heap.size w' v []) ∧ Below w.heap.size w w') .ret z ((w1.alloc (.cells #[] 33)).setRow w.heap.size #[.int .i64 0, .int .i64 0])) := fun z z3 z2 z4 zd => by
    have bx : Boxed (w1.alloc (.cells #[] 33)) w.heap.size #[.int .i64 0, .int .i64 0] 33 := X1.out.1.more _
    have hr : DuRow w.heap.size ((w1.alloc (.cells #[] 33)).setRow w.heap.size #[.int .i64 0, .int .i64 0]) (.slice (some ⟨w1.heap.size, 0, none⟩) 0 0) [] := by
      refine (du_built w1 w.heap.size X1.out.2.size).carry fun k hk _ => setRow_other _ _ _ _ ?_
      have : some w1.heap.size = some k := hk
      cases this
      have := X1.out.1.under
      omega
    exact bodyPost_ret (results_v_row_v Tryz.results22 _ _ w.heap.size _ _ _ _ _ _ z3 z2 z4 (setRow_heap _ w.heap.size _ _ _ _ bx) Tryz.underlying33 rfl (by kernel_rfl)) zd ⟨⟨_, rfl, hr⟩, below_setRow (X1.out.2.alloc X1.out.2.size _) (Nat.le_refl _) _⟩
  have bx1 : Boxed (w1.alloc (.cells #[] 33)) w.heap.size #[.int .i64 0, .int .i64 0] 33 := X1.out.1.more _
  have Bx1 : Hid _ := bx1
  clear bx1
  cases b1
  · obtain ⟨e1, e2, e3⟩ := P1.out (by first | exact trivial | exact rfl)
    subst e1 e2 e3
    go_wp2_with (refine wpList_store_row rfl 33 (.tmp 3) (.tmp 16) rfl w.heap.size #[.int .i64 0, .int .i64 0] rfl rfl _ _ Bx1.out (by kernel_rfl) rfl (by simp [Value.oneCell']) ?_)
    exact Bad.out _ rfl rfl rfl rfl
  by_cases hn : n = 0
  · obtain ⟨e1, e2, e3⟩ := P1.out (by rw [decide_eq_true hn]; rfl)
    subst e1 e2 e3
    have hd : ((n : Int) == 0) = true := by simpa using hn
    clear hn
    go_wp2_with (refine wpList_store_row rfl 33 (.tmp 3) (.tmp 16) rfl w.heap.size #[.int .i64 0, .int .i64 0] rfl rfl _ _ Bx1.out (by kernel_rfl) rfl (by simp [Value.oneCell']) ?_)
    exact Bad.out _ rfl rfl rfl rfl
  obtain ⟨e1, e2, e3⟩ := P2.out (by rw [decide_eq_false hn]; rfl)
  subst e1 e2 e3
  have Hn : Hid (n ≠ 0) := hn
  have hd : ((n : Int) == 0) = false := by simpa using (by omega : ¬ (n : Int) = 0)
  have hd' : ¬ (n : Int) = 0 := by omega
  clear hn Bad Bx1 P1 P2
  go_wp2_with fail
  refine (A2'.out _ (HI.out _ X1.out.2)).mono ?_
  rintro e w2 ⟨g, rfl, q1, q2⟩
  have X2 : Hid (HpV (w.heap.size + 1) w2.heap.size g n l (w2.alloc (.cells #[.slice (some ⟨g, 0, none⟩) n n] 67)) ∧ Boxed (w2.alloc (.cells #[.slice (some ⟨g, 0, none⟩) n n] 67)) w.heap.size #[.int .i64 0, .int .i64 0] 33 ∧ Below w.heap.size w (w2.alloc (.cells #[.slice (some ⟨g, 0, none⟩) n n] 67)) ∧ w.heap.size < g ∧ w.heap.size < w2.heap.size) := by
    have hu := X1.out.1.under
    have hs2 := q2.size
    have hb2 : Boxed w2 w.heap.size #[.int .i64 0, .int .i64 0] 33 := X1.out.1.below X1.out.1.under q2
    have bw := X1.out.2.trans (q2.mono (by omega))
    have hg := World.ownsRow.lt q1 g rfl
    exact ⟨HW.out _ _ _ _ (q1.mono (by omega)) (by omega), hb2.more _, bw.alloc (by omega) _, by omega, by omega⟩
  clear q1 q2 A2' X1
  go_upto_region 4 with fail
  generalize w2.alloc (.cells #[.slice (some ⟨g, 0, none⟩) n n] 67) = w3 at X2 ⊢
  generalize w2.heap.size = B at X2 ⊢
  have C3 := fun (_ : Nat) => A3.out Hn.out _ _ _ _ _ X2.out.1
  have C3' : Hid _ := C3
  clear C3 A3
  obtain ⟨t, i⟩ := rd
  simp only [Du.val] at C3' ⊢
  go_wp2_with fail
  refine (C3'.out 0).mono ?_
  rintro e w4 ⟨rfl, q1, q2⟩
  have X4 : Hid (HtX w w.heap.size w4.heap.size B g n rl 0 0 t i (w4.alloc (.cells #[.int .i64 t, .int .i64 i] 33))) := by
    have hr : Boxed w4 w.heap.size #[.int .i64 0, .int .i64 0] 33 := by
      unfold Boxed
      rw [q2.2 w.heap.size (by have := X2.out.2.2.2.1; omega) (by have := X2.out.2.2.2.2; omega) X2.out.2.1.under]
      exact X2.out.2.1
    have bw : Below w.heap.size w w4 := X2.out.2.2.1.trans (q2.1.mono (by omega))
    exact ⟨hr.more _, Boxed.new _ _ _, q1.below ((Below.refl _ _).alloc (Nat.le_refl _) _), bw.alloc bw.size _, Nat.le_refl _, hr.under, X2.out.2.2.2.2, X2.out.2.2.2.1⟩
  clear q1 q2 C3' X2
  go_upto_region 5 with fail
  generalize w4.alloc (.cells #[.int .i64 t, .int .i64 i] 33) = w5 at X4 ⊢
  generalize w4.heap.size = F at X4 ⊢
  refine region_lists (G := Unit) (by kernel_rfl) (by kernel_rfl) (by kernel_rfl) (fun _ => 99) (fun (L : Nat → Bool) (_ : Unit) (x : World) => (L 3 = false → HtX w w.heap.size F B g n rl 0 0 t i x) ∧ (L 3 = true → HtX w w.heap.size F B g n rl t i t i x)) (fun _ _ _ _ _ => True) (fun k y x u => ([fun _ _ u => u = .slice (some ⟨g, 0, none⟩) rl.length n, fun _ _ u => u = .agg #[.int .i64 t, .int .i64 i], fun _ _ u => u = .slice (some ⟨g, 0, none⟩) rl.length n, fun _ _ _ => True, fun _ _ u => u = .bool true] : List (Unit → World → Value → Prop)).getD k (fun _ _ _ => True) y x u) ?hR () ?h0 ?step ?last
  case hR =>
    intro i' j' y y' x x' u hi1 hj1 hne hu h1 h2 hp hr
    have hj' : j' < 5 := hj1
    have hcases : j' = 0 ∨ j' = 1 ∨ j' = 2 ∨ j' = 3 ∨ j' = 4 := by omega
    rcases hcases with rfl | rfl | rfl | rfl | rfl <;> exact hp
  case h0 => exact ⟨fun _ => ⟨X4.out.res, X4.out.due, X4.out.hp.below (Below.refl _ _).drew, X4.out.bel.drew, X4.out.lo, X4.out.rf⟩, fun h => by cases h⟩
  case step =>
    intro q o hq ho L a y x hLi hwt hre hkp hI hp
    have s5 : a.tmps.getD 5 undef = .pointer (some ⟨B, 0, none⟩) := hkp.slot 5 (by kernel_rfl)
    have s6 : a.tmps.getD 6 undef = .pointer (some ⟨F, 0, none⟩) := hkp.slot 6 (by kernel_rfl)
    have s3 : a.tmps.getD 3 undef = .pointer (some ⟨w.heap.size, 0, none⟩) := hkp.slot 3 (by kernel_rfl)
    have hI' : ∀ k : Nat, k ≠ 3 → ((if (3 : Nat) = k then true else L 3) = false → HtX w w.heap.size F B g n rl 0 0 t i x) ∧ ((if (3 : Nat) = k then true else L 3) = true → HtX w w.heap.size F B g n rl t i t i x) := by
      intro k n1
      have e1 : (if (3 : Nat) = k then true else L 3) = L 3 := if_neg (fun e => n1 e.symm)
      rw [e1]
      exact hI
    have any : ∃ z0 z1, HtX w w.heap.size F B g n rl z0 z1 t i x := by
      cases z : L 3
      · exact ⟨_, _, hI.1 z⟩
      · exact ⟨_, _, hI.2 z⟩
    obtain ⟨z0, z1, hx⟩ := any
    have hq' : q < 5 := hq
    have hcases : q = 0 ∨ q = 1 ∨ q = 2 ∨ q = 3 ∨ q = 4 := by omega
    rcases hcases with rfl | rfl | rfl | rfl | rfl
    · cases ho
      exact ⟨wanted_none rfl, op_loadHp 5 rfl s5 hx.hp.cell ⟨_, (), rfl, trivial, hI' 0 (by decide), fun u hu => hu (fun h => by cases h)⟩⟩
    · cases ho
      exact ⟨wanted_none rfl, wp_load_row 33 (.tmp 6) rfl F s6 _ _ _ _ hx.due Tryz.underlying33 rfl (by kernel_rfl) ⟨_, (), rfl, trivial, hI' 1 (by decide), fun u hu => hu (fun h => by cases h)⟩⟩
    · cases ho
      have e0 : a.tmps.getD 20 undef = .slice (some ⟨g, 0, none⟩) rl.length n := hp 0 (of_decide_eq_true (by kernel_rfl)) (.inr (by decide))
      refine ⟨wanted_none rfl, op_assignZ 20 rfl ?_⟩
      rw [e0]
      exact ⟨_, (), rfl, trivial, hI' 2 (by decide), fun u hu => hu (fun h => by cases h)⟩
    · cases ho
      have e1 : a.tmps.getD 21 undef = .agg #[.int .i64 t, .int .i64 i] := hp 1 (of_decide_eq_true (by kernel_rfl)) (.inr (by decide))
      exact ⟨wanted_none rfl, wp_store_row 33 (.tmp 3) (.tmp 21) rfl w.heap.size #[.int .i64 t, .int .i64 i] s3 e1 _ _ hx.res (by kernel_rfl) rfl (by simp [Value.oneCell']) ⟨undef, (), rfl, trivial, ⟨(fun z => by simp at z), fun _ => hx.put⟩, fun _ _ => trivial⟩⟩
    · cases ho
      refine ⟨wanted_none rfl, op_valZ (v := .bool true) (w' := x) rfl ⟨_, (), rfl, trivial, hI' 4 (by decide), fun u hu => hu (fun h => by cases h)⟩⟩
  case last =>
    intro L a y x hall hkp hI hp
    have e2 : a.tmps.getD 2 undef = .slice (some ⟨g, 0, none⟩) rl.length n := hp 2 (by decide) (by decide)
    have e4 : a.tmps.getD 4 undef = .bool true := hp 4 (by decide) (by decide)
    have s3 : a.tmps.getD 3 undef = .pointer (some ⟨w.heap.size, 0, none⟩) := hkp.slot 3 (by kernel_rfl)
    have hx := hI.2 (hall 3 (by decide))
    have Y : Hid (HtX w w.heap.size F B g n rl t i t i x) := hx
    have kd := hkp.defers
    clear hp hI hx
    go_wp2
    exact bodyPost_ret (results_v_row_v Tryz.results22 _ _ w.heap.size _ _ _ _ _ _ s3 e2 e4 Y.out.res Tryz.underlying33 rfl (by kernel_rfl)) kd ⟨⟨_, rfl, Y.out.hp.row.mono (by omega)⟩, Y.out.bel⟩
end Go.Proofs.YtkocbfikcjgigaaGreat

/-
  The law Wheels, walked with what the program answers. By the verifier.
-/
namespace Go.Proofs.YtkocbfikcjgigaaGreat
open Go.RowKit

theorem fnWheels_walk (a : Option Addr) (len cap : Nat) (w : World) (hcode : ∀ k, k < len → ∃ b off z, a = some ⟨b, off, none⟩ ∧ b < w.heap.size ∧ w.cell? ⟨b, off + k, none⟩ = some (.int .u8 z) ∧ 0 ≤ z ∧ z ≤ 255) :
    Calls Tryz.prog 3 #[.slice a len cap] w fun e w' => e = .returned (.bool true) ∧ Below w.heap.size w w' :=
  fnWheels_law implToWheel implWheelPut implWheelTake implToHeap implWheelOk implHeapOkX implHeapTake a len cap w hcode
end Go.Proofs.YtkocbfikcjgigaaGreat
