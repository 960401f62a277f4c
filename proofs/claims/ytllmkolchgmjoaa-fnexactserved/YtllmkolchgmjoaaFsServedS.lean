/-
  The walk of the model's Served. By the verifier.
-/
import Derived.Test.YtllmkolchgmjoaaFsServe
namespace Go.Proofs.Ytllmkolchgmjoaa
open Go.RowKit

/-- What lies around: what came in, the answer's variable. -/
structure SvX (w : World) (f : Int) (a : Option Addr) (n c base B : Nat) (x : World) : Prop where
  box : Boxed x w.heap.size #[.int .i64 f, .slice a n c] 26
  res : Boxed x (w.heap.size + 1) #[.int .i64 0, .slice none 0 0] 26
  bel : Below w.heap.size w x
  lo : w.heap.size + 2 ≤ base
  hi : w.heap.size + 2 ≤ B
theorem SvX.fr {w : World} {f : Int} {a : Option Addr} {n c base B : Nat} {x x' : World} (h : SvX w f a n c base B x) (g : FrB base B x x') : SvX w f a n c base B x' := by
  have h1 := h.lo
  have h2 := h.hi
  exact ⟨(g.block _ (by omega) (by omega)).trans h.box, (g.block _ (by omega) (by omega)).trans h.res, h.bel.trans (g.below (by omega) (by omega)), h1, h2⟩
theorem SvX.below {w : World} {f : Int} {a : Option Addr} {n c base B : Nat} {x x' : World} (h : SvX w f a n c base B x) (g : Below x.heap.size x x') : SvX w f a n c base B x' :=
  ⟨h.box.below h.box.under g, h.res.below h.res.under g, h.bel.trans (g.mono h.bel.size), h.lo, h.hi⟩
/-- The answer, once it is laid. -/
theorem SvX.fin {w : World} {f : Int} {a : Option Addr} {n c base B : Nat} {x x' : World} {v : Value} {rs : List Fwr} {z : Fs} (h : SvX w f a n c base B x) (G : FwG base v rs z.flows x) (o : ∀ k, k ≠ w.heap.size + 1 → x'.heap[k]? = x.heap[k]?) :
    FsIn w.heap.size x'.heap.size x' (.agg #[.int .i64 z.now, v]) z := by
  have h1 := h.lo
  have G2 : FwG base v rs z.flows x' := G.other fun k hk _ => o k (by omega)
  obtain ⟨p, q, e⟩ := fwrows_shape G2.outer
  subst e
  exact ⟨p, q, rfl, rs, G2.done.wide (by omega) (Nat.le_refl _) (Nat.le_refl _)⟩
theorem fsIn_zero (b t : Nat) (w : World) : FsIn b t w (.agg #[.int .i64 0, .slice none 0 0]) ⟨0, []⟩ :=
  ⟨none, 0, rfl, [], ⟨SlIn.nil _ _ _ _ _ _, rfl, fun i hi => by simp at hi, fun i hi => by simp at hi, fun i hi => by simp at hi, fun i j k o hi => by simp at hi, fun i k o hi => by simp at hi⟩⟩
theorem results_row_two {P : Program} {fn : Func} {p q r : Tmp} {ty : TypeId} (h : fn.results = #[.cell p ty, .tmp q, .tmp r]) (tmps : Array Value) (w : World) (g : Nat) (t : TypeId) (cs : Array Value) (fr : Nat × Nat) (d : TypeDesc) (v u : Value)
    (hp : tmps.getD p undef = .pointer (some ⟨g, 0, none⟩)) (hv : tmps.getD q undef = v) (hu' : tmps.getD r undef = u) (hg : w.heap[g]? = some (.cells cs t fr))
    (hu : P.underlying ty = some d) (hd : (match d with | .struct _ | .array _ _ => true | _ => false) = true) (hi : (P.info? ty).map (·.size) = some cs.size) :
    (results fn tmps).run P w = .ok (.tuple #[.agg cs, v, u]) w := by
  have hp' : tmps[p]?.getD undef = .pointer (some ⟨g, 0, none⟩) := by simpa using hp
  have hv' : tmps[q]?.getD undef = v := by simpa using hv
  have hu2 : tmps[r]?.getD undef = u := by simpa using hu'
  simp [results, h, hp', hv', hu2, asAddr, run_loadVar_row w g t ty cs fr d hg hu hd hi]

set_option maxHeartbeats 6400000 in
set_option maxRecDepth 100000 in
theorem specServed (d : Fs) (v : Value) (w : World) (hB : d.big ≤ 1048576) (h : Hid (FsAt w v d)) :
    Calls Try.prog 10 #[v] w fun e w' => (∃ v', e = .returned (.tuple #[v', .int .i64 d.servedI, .int .i64 d.servedN]) ∧ FsIn w.heap.size w'.heap.size w' v' d.served) ∧ Below w.heap.size w w' := by
  have A1 := fun v w h => specFairOk d v w hB h
  have A3 := fun a c w h => specCopyF d a c w hB h
  have A4 := fun v w h => specChosen d v w hB h
  have A5 := fun base B v rs i w hk hi hw h1 h2 h3 => specServe d base B v rs i w hk hi hw h1 h2 h3
  obtain ⟨a, c, rfl, k1⟩ := h.out
  clear h
  have Ok : Hid (d.ok = true → 1 ≤ d.flows.length ∧ d.flows.length ≤ 8) := fun hk => (Fs.ok_iff.1 hk).2.1
  have Ch : Hid (d.ok = true → 0 ≤ d.chosen → ∃ b : Nat, d.chosen = b ∧ b < d.flows.length ∧ d.waits b = true) := fun hk h0 => by
    obtain ⟨b, e, h1, h2, _⟩ := Fs.chosen_is hk h0
    exact ⟨b, e, h1, h2⟩
  have Hwt : Hid (∀ i, d.waits i = decide (0 < (fwAt d.flows i).sizes.length)) := fun _ => rfl
  have Hbad : Hid (d.ok = false → d.served = ⟨0, []⟩ ∧ d.servedI = -1 ∧ d.servedN = 0) := fun hk => by
    unfold Fs.served Fs.servedI Fs.servedN Fs.can
    rw [hk]
    exact ⟨rfl, rfl, rfl⟩
  have Hno : Hid (d.ok = true → (d.chosen < 0 ∨ ¬ d.endOf d.chosen.toNat ≤ 1125899906842624) → d.served = d ∧ d.servedI = -1 ∧ d.servedN = 0) := fun hk hn => by
    have hc : d.can = false := by
      unfold Fs.can
      rw [hk, Bool.true_and, Bool.and_eq_false_iff]
      rcases hn with hn | hn
      · left; exact decide_eq_false (by omega)
      · right; exact decide_eq_false hn
    unfold Fs.served Fs.servedI Fs.servedN
    rw [hk, hc]
    exact ⟨rfl, rfl, rfl⟩
  have Hyes : Hid (d.ok = true → 0 ≤ d.chosen → d.endOf d.chosen.toNat ≤ 1125899906842624 → d.served = d.serve d.chosen.toNat ∧ d.servedI = d.chosen ∧ d.servedN = szAt (fwAt d.flows d.chosen.toNat).sizes 0) := fun hk h0 h1 => by
    have hc : d.can = true := by
      unfold Fs.can
      rw [hk, decide_eq_true h0, decide_eq_true h1]
      rfl
    unfold Fs.served Fs.servedI Fs.servedN
    rw [hk, hc]
    exact ⟨rfl, rfl, rfl⟩
  generalize d.served = R at Hbad Hno Hyes ⊢
  generalize d.servedI = RI at Hbad Hno Hyes ⊢
  generalize d.servedN = RN at Hbad Hno Hyes ⊢
  have A2 : ∀ a c w, FwsAt w a d.flows → Calls Try.prog 13 #[.agg #[.int .i64 d.now, .slice a d.flows.length c]] w fun e w' => e = .returned (.bool d.ok) ∧ Below w.heap.size w w' := fun a c w h => A1 _ w ⟨a, c, rfl, h⟩
  have A6 : ∀ a c w, FwsAt w a d.flows → Calls Try.prog 15 #[.agg #[.int .i64 d.now, .slice a d.flows.length c]] w fun e w' => e = .returned (.int .i64 d.chosen) ∧ Below w.heap.size w w' := fun a c w h => A4 _ w ⟨a, c, rfl, h⟩
  generalize d.ok = ok at A2 A5 Ok Ch Hbad Hno Hyes
  generalize d.chosen = ch at A6 Ch Hno Hyes
  generalize d.serve = sv at A5 Hyes
  generalize d.endOf = en at A5 Hno Hyes
  generalize d.waits = wt at A5 Ch Hwt
  clear A1 A4 hB
  obtain ⟨f, ls⟩ := d
  simp only [Fs.val] at A2 A3 A5 A6 Ok Ch Hwt Hno Hyes k1 ⊢
  have A5' : Hid _ := A5
  have HK : Hid (FwsAt w a ls) := k1
  obtain ⟨n, hn⟩ : ∃ n, ls.length = n := ⟨_, rfl⟩
  have Hn : Hid (ls.length = n) := hn
  rw [hn] at A2 A3 A6 Ok Ch ⊢
  have A2' : Hid _ := A2
  have A3' : Hid _ := A3
  have A6' : Hid _ := A6
  clear A2 A3 A5 A6 hn
  have X : Hid (Boxed ((w.alloc (.cells #[.int .i64 f, .slice a n c] 26)).alloc (.cells #[.int .i64 0, .slice none 0 0] 26)) w.heap.size #[.int .i64 f, .slice a n c] 26 ∧ Boxed ((w.alloc (.cells #[.int .i64 f, .slice a n c] 26)).alloc (.cells #[.int .i64 0, .slice none 0 0] 26)) (w.heap.size + 1) #[.int .i64 0, .slice none 0 0] 26 ∧ Below w.heap.size w ((w.alloc (.cells #[.int .i64 f, .slice a n c] 26)).alloc (.cells #[.int .i64 0, .slice none 0 0] 26))) := by
    refine ⟨(Boxed.new w _ _).more _, ?_, ((Below.refl _ _).alloc (Nat.le_refl _) _).alloc (by simp) _⟩
    have := Boxed.new (w.alloc (.cells #[.int .i64 f, .slice a n c] 26)) #[.int .i64 0, .slice none 0 0] 26
    simpa using this
  clear k1
  go_enter Try.func10, Try.ntmps10
  go_wp2_with (refine wpList_load_row rfl 26 (.tmp 1) rfl w.heap.size rfl _ _ _ _ X.out.1 Try.underlying26 rfl (by kernel_rfl) ?_)
  refine (A2'.out _ _ _ (HK.out.below X.out.2.2)).mono ?_
  rintro e w1 ⟨rfl, q⟩
  have X1 : Hid (Boxed w1 w.heap.size #[.int .i64 f, .slice a n c] 26 ∧ Boxed w1 (w.heap.size + 1) #[.int .i64 0, .slice none 0 0] 26 ∧ Below w.heap.size w w1) := ⟨X.out.1.below X.out.1.under q, X.out.2.1.below X.out.2.1.under q, X.out.2.2.trans (q.mono X.out.2.2.size)⟩
  clear q X A2'
  cases ok
  · obtain ⟨e1, e2, e3⟩ := Hbad.out (by first | exact trivial | exact rfl)
    subst e1 e2 e3
    go_wp2_with (refine wpList_store_row rfl 26 (.tmp 2) (.tmp 10) rfl (w.heap.size + 1) #[.int .i64 0, .slice none 0 0] rfl rfl _ _ X1.out.2.1 (by kernel_rfl) rfl (by simp [Value.oneCell']) ?_)
    exact bodyPost_ret (results_row_two Try.results10 _ _ (w.heap.size + 1) _ _ _ _ (.int .i64 (-1)) (.int .i64 0) rfl rfl rfl (setRow_heap _ (w.heap.size + 1) _ _ _ _ X1.out.2.1) Try.underlying26 rfl (by kernel_rfl)) rfl ⟨⟨_, rfl, fsIn_zero _ _ _⟩, below_setRow X1.out.2.2 (by omega) _⟩
  have hok : Hid ((true : Bool) = true) := rfl
  obtain ⟨hn1, hn8⟩ := Ok.out (by first | exact trivial | exact rfl)
  go_wp2_with (refine wpList_load_row rfl 26 (.tmp 1) rfl w.heap.size rfl _ _ _ _ X1.out.1 Try.underlying26 rfl (by kernel_rfl) ?_)
  refine (A3'.out _ _ _ (HK.out.below X1.out.2.2)).mono ?_
  rintro e w2 ⟨⟨vv, rs, rfl, hG⟩, q⟩
  obtain ⟨vx, vc, ev⟩ := fwrows_shape hG.outer
  rw [Hn.out] at ev
  subst ev
  have N : Hid (Boxed (w2.alloc (.cells #[.int .i64 0, .slice none 0 0] 26)) w2.heap.size #[.int .i64 0, .slice none 0 0] 26) := Boxed.new _ _ _
  have b3 : Below w2.heap.size w2 ((w2.alloc (.cells #[.int .i64 0, .slice none 0 0] 26)).setRow w2.heap.size #[.int .i64 f, .slice vx n vc]) := below_setRow ((Below.refl _ _).alloc (Nat.le_refl _) _) (Nat.le_refl _) _
  have X3 : Hid (SvX w f a n c (w1.heap.size + 3) w2.heap.size ((w2.alloc (.cells #[.int .i64 0, .slice none 0 0] 26)).setRow w2.heap.size #[.int .i64 f, .slice vx n vc]) ∧ FwG (w1.heap.size + 3) (.slice vx n vc) rs ls ((w2.alloc (.cells #[.int .i64 0, .slice none 0 0] 26)).setRow w2.heap.size #[.int .i64 f, .slice vx n vc]) ∧ Boxed ((w2.alloc (.cells #[.int .i64 0, .slice none 0 0] 26)).setRow w2.heap.size #[.int .i64 f, .slice vx n vc]) w2.heap.size #[.int .i64 f, .slice vx n vc] 26) := by
    have u1 := X1.out.2.1.under
    have u2 := q.size
    refine ⟨⟨(X1.out.1.below X1.out.1.under q).below (by omega) b3, (X1.out.2.1.below u1 q).below (by omega) b3, (X1.out.2.2.trans (q.mono X1.out.2.2.size)).trans (b3.mono (by have := X1.out.2.2.size; omega)), by omega, by omega⟩, hG.below b3, setRow_heap _ _ _ _ _ _ N.out⟩
  clear q X1 A3' hG b3
  go_upto_region 4 with (refine wpList_store_row rfl 26 (.tmp 5) (.tmp 12) rfl w2.heap.size #[.int .i64 f, .slice vx n vc] rfl rfl _ _ N.out (by kernel_rfl) rfl (by simp [Value.oneCell']) ?_)
  generalize (w2.alloc (.cells #[.int .i64 0, .slice none 0 0] 26)).setRow w2.heap.size #[.int .i64 f, .slice vx n vc] = w3 at X3 ⊢
  clear N
  generalize w2.heap.size = B at X3 ⊢
  generalize w1.heap.size + 3 = base at X3
  go_wp2_with (refine wpList_load_row rfl 26 (.tmp 1) rfl w.heap.size rfl _ _ _ _ X3.out.1.box Try.underlying26 rfl (by kernel_rfl) ?_)
  refine (A6'.out _ _ _ (HK.out.below X3.out.1.bel)).mono ?_
  rintro e w4 ⟨rfl, q⟩
  have X4 : Hid (SvX w f a n c base B w4 ∧ FwG base (.slice vx n vc) rs ls w4 ∧ Boxed w4 B #[.int .i64 f, .slice vx n vc] 26) := ⟨X3.out.1.below q, X3.out.2.1.below q, X3.out.2.2.below X3.out.2.2.under q⟩
  clear q X3 A6'
  by_cases hc : ch < 0
  · obtain ⟨e1, e2, e3⟩ := Hno.out (by first | exact trivial | exact rfl) (.inl hc)
    subst e1 e2 e3
    go_wp2_with (first | (refine wpList_load_row rfl 26 (.tmp 5) rfl B rfl _ _ _ _ X4.out.2.2 Try.underlying26 rfl (by kernel_rfl) ?_) | (refine wpList_store_row rfl 26 (.tmp 2) (.tmp 22) rfl (w.heap.size + 1) #[.int .i64 f, .slice vx n vc] rfl rfl _ _ X4.out.1.res (by kernel_rfl) rfl (by simp [Value.oneCell']) ?_))
    exact bodyPost_ret (results_row_two Try.results10 _ _ (w.heap.size + 1) _ _ _ _ (.int .i64 (-1)) (.int .i64 0) rfl rfl rfl (setRow_heap _ (w.heap.size + 1) _ _ _ _ X4.out.1.res) Try.underlying26 rfl (by kernel_rfl)) rfl ⟨⟨_, rfl, X4.out.1.fin (z := ⟨f, ls⟩) X4.out.2.1 (fun k hk => setRow_other _ _ _ _ hk)⟩, below_setRow X4.out.1.bel (by omega) _⟩
  obtain ⟨b, eb, hbn, hwb⟩ := Ch.out (by first | exact trivial | exact rfl) (by omega)
  subst eb
  rw [Int.toNat_natCast] at Hno Hyes
  have hdc : decide ((b : Int) < 0) = false := decide_eq_false hc
  have S5 := fun (_ : Nat) => A5'.out base B (.slice vx n vc) rs b w4 (by first | exact trivial | exact rfl) (by rw [Hn.out]; exact hbn) hwb X4.out.2.1 X4.out.2.2 (by
    obtain ⟨g', cap', _, h1, h2⟩ := X4.out.2.1.place (j := b) (by rw [Hn.out]; exact hbn)
    omega)
  have hw00 : 0 < (fwAt ls b).sizes.length := of_decide_eq_true ((Hwt.out b).symm.trans hwb)
  have Hw0 : Hid (0 < (fwAt ls b).sizes.length) := hw00
  clear hw00
  have Hno2 : Hid (¬ en b ≤ 1125899906842624 → R = ⟨f, ls⟩ ∧ RI = -1 ∧ RN = 0) := fun hx => Hno.out (by first | exact trivial | exact rfl) (.inr (by omega))
  have Hyes2 : Hid (en b ≤ 1125899906842624 → R = sv b ∧ RI = (b : Int) ∧ RN = szAt (fwAt ls b).sizes 0) := fun hx => Hyes.out (by first | exact trivial | exact rfl) (by omega) hx
  have S5' : Hid _ := S5
  clear S5 A5' Hno Hyes hwb Hwt Ch Ok Hbad
  go_wp2_with fail
  refine (S5'.out 0).mono ?_
  rintro e w5 ⟨rfl, hS⟩
  have X5 : Hid (SvX w f a n c base B w5 ∧ SvP base B (.slice vx n vc) (if en b ≤ 1125899906842624 then sv b else ⟨f, ls⟩) w4 w5) := ⟨X4.out.1.fr hS.2, hS⟩
  clear hS X4 S5'
  by_cases hle : en b ≤ 1125899906842624
  case neg =>
    obtain ⟨e1, e2, e3⟩ := Hno2.out (by omega)
    subst e1 e2 e3
    rw [if_neg hle] at X5
    rw [decide_eq_false hle]
    obtain ⟨rs5, G5, B5⟩ := X5.out.2.1
    have Y5 : Hid (SvX w f a n c base B w5 ∧ FwG base (.slice vx n vc) rs5 ls w5 ∧ Boxed w5 B #[.int .i64 f, .slice vx n vc] 26) := ⟨X5.out.1, G5, B5⟩
    clear hle X5 G5 B5 Hno2 Hyes2
    go_wp2_with (first | (refine wpList_load_row rfl 26 (.tmp 5) rfl B rfl _ _ _ _ Y5.out.2.2 Try.underlying26 rfl (by kernel_rfl) ?_) | (refine wpList_store_row rfl 26 (.tmp 2) (.tmp 22) rfl (w.heap.size + 1) #[.int .i64 f, .slice vx n vc] rfl rfl _ _ Y5.out.1.res (by kernel_rfl) rfl (by simp [Value.oneCell']) ?_))
    exact bodyPost_ret (results_row_two Try.results10 _ _ (w.heap.size + 1) _ _ _ _ (.int .i64 (-1)) (.int .i64 0) rfl rfl rfl (setRow_heap _ (w.heap.size + 1) _ _ _ _ Y5.out.1.res) Try.underlying26 rfl (by kernel_rfl)) rfl ⟨⟨_, rfl, Y5.out.1.fin (z := ⟨f, ls⟩) Y5.out.2.1 (fun k hk => setRow_other _ _ _ _ hk)⟩, below_setRow Y5.out.1.bel (by omega) _⟩
  obtain ⟨e1, e2, e3⟩ := Hyes2.out (by omega)
  subst e1
  rw [if_pos hle] at X5
  rw [decide_eq_true hle]
  obtain ⟨rs5, G5, B5⟩ := X5.out.2.1
  have Y5 : Hid (SvX w f a n c base B w5 ∧ FwG base (.slice vx n vc) rs5 (sv b).flows w5 ∧ Boxed w5 B #[.int .i64 (sv b).now, .slice vx n vc] 26) := ⟨X5.out.1, G5, B5⟩
  clear hle X5 G5 B5 Hno2 Hyes2
  have Fin : Hid (∀ x', (∀ k, k ≠ w.heap.size + 1 → x'.heap[k]? = w5.heap[k]?) → FsIn w.heap.size x'.heap.size x' (.agg #[.int .i64 (sv b).now, .slice vx n vc]) (sv b)) := fun x' o => Y5.out.1.fin Y5.out.2.1 o
  generalize (sv b).now = zn at Y5 Fin
  obtain ⟨b1, o1, ak, ck, ea, hb1, ⟨-, -, c2⟩, hr, -⟩ := HK.out b (by rw [Hn.out]; exact hbn)
  subst ea
  obtain ⟨b2, o2, ea2, hb2, c3⟩ := hr 0 Hw0.out
  subst ea2
  have c2 := (Y5.out.1.bel.cell (p := ⟨b1, o1 + b * 3 + 2, none⟩) hb1).trans c2
  have c3 := (Y5.out.1.bel.cell (p := ⟨b2, o2 + 0, none⟩) hb2).trans c3
  have n1 : ¬ b1 = w.heap.size + 1 := by omega
  have n2 : ¬ b2 = w.heap.size + 1 := by omega
  have n3 : ¬ B = w.heap.size + 1 := by have := Y5.out.1.hi; omega
  have e4 : (fwAt ls b).sizes[0]?.getD 0 = szAt (fwAt ls b).sizes 0 := rfl
  rw [e4, ← e3, Nat.add_zero] at c3
  subst e2
  have hw0 := Hw0.out
  generalize (fwAt ls b).sizes.length = m at c2 hw0
  have o0 : w5.cell? ⟨B, 0, none⟩ = some (.int .i64 zn) := Y5.out.2.2.cell 0 rfl
  have o1' : w5.cell? ⟨B, 1, none⟩ = some (.slice vx n vc) := Y5.out.2.2.cell 1 rfl
  have s1 : w5.cell? ⟨w.heap.size, 1, none⟩ = some (.slice (some ⟨b1, o1, none⟩) n c) := Y5.out.1.box.cell 1 rfl
  have t0 : w5.cell? ⟨w.heap.size + 1, 0, none⟩ = some (.int .i64 0) := Y5.out.1.res.cell 0 rfl
  have t1 : w5.cell? ⟨w.heap.size + 1, 1, none⟩ = some (.slice none 0 0) := Y5.out.1.res.cell 1 rfl
  have t2 := Y5.out.1.res.ice 0
  have t3 := Y5.out.1.res.ice 1
  have hbn' : (b : Int) < (n : Int) := by omega
  have hm' : (0 : Int) < (m : Int) := by omega
  have Done : Hid (Boxed ((w5.setCell ⟨w.heap.size + 1, 0, none⟩ (.int .i64 zn)).setCell ⟨w.heap.size + 1, 1, none⟩ (.slice vx n vc)) (w.heap.size + 1) #[.int .i64 zn, .slice vx n vc] 26 ∧ (∀ k, k ≠ w.heap.size + 1 → ((w5.setCell ⟨w.heap.size + 1, 0, none⟩ (.int .i64 zn)).setCell ⟨w.heap.size + 1, 1, none⟩ (.slice vx n vc)).heap[k]? = w5.heap[k]?) ∧ w5.heap.size ≤ ((w5.setCell ⟨w.heap.size + 1, 0, none⟩ (.int .i64 zn)).setCell ⟨w.heap.size + 1, 1, none⟩ (.slice vx n vc)).heap.size ∧ Below w.heap.size w ((w5.setCell ⟨w.heap.size + 1, 0, none⟩ (.int .i64 zn)).setCell ⟨w.heap.size + 1, 1, none⟩ (.slice vx n vc))) := by
    have bb : Below w.heap.size w ((w5.setCell ⟨w.heap.size + 1, 0, none⟩ (.int .i64 zn)).setCell ⟨w.heap.size + 1, 1, none⟩ (.slice vx n vc)) := (Y5.out.1.bel.setCell (by show w.heap.size ≤ w.heap.size + 1; omega) _).setCell (by show w.heap.size ≤ w.heap.size + 1; omega) _
    exact ⟨(Y5.out.1.res.put 0 _).put 1 _, fun k hk => (Below.heap_setCell _ _ _ _ hk).trans (Below.heap_setCell _ _ _ _ hk), by simp [World.setCell], bb⟩
  clear hr e3 e4 Hw0 HK
  go_wp2_with fail
  go_region
  all_goals (
    go_wp2_with fail
    generalize (w5.setCell ⟨w.heap.size + 1, 0, none⟩ (.int .i64 zn)).setCell ⟨w.heap.size + 1, 1, none⟩ (.slice vx n vc) = XX at Done ⊢
    exact bodyPost_ret (results_row_two Try.results10 _ _ (w.heap.size + 1) _ _ _ _ (.int .i64 (b : Int)) (.int .i64 RN) rfl rfl rfl (by exact Done.out.1) Try.underlying26 rfl (by kernel_rfl)) rfl ⟨⟨_, rfl, Fin.out XX.drew (fun k hk => Done.out.2.1 k hk)⟩, Done.out.2.2.2.drew⟩)
end Go.Proofs.Ytllmkolchgmjoaa
