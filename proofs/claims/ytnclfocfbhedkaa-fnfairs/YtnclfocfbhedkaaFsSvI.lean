/-
  The walk of the program's Served. By the verifier, by program.
-/
import Derived.Test.YtnclfocfbhedkaaFsRest
import Derived.Test.YtnclfocfbhedkaaFsOwn
import Derived.Test.YtnclfocfbhedkaaFsServedS
import Derived.Test.YtnclfocfbhedkaaRegList
import Derived.Test.YtnclfocfbhedkaaRegPick
import Derived.Test.YtnclfocfbhedkaaOpStep
import Derived.Deep.DeepCutAuto
namespace Go.Proofs.Ytnclfocfbhedkaa
open Go.RowKit

theorem FwG.unl {base : Nat} {v : Value} {rs : List Fwr} {l : List Fw} {x x' : World} {B : Nat} {cs : Array Value} (h : FwG base v rs l x) (hb : Boxed x B cs 26) (hx : ∀ k, k ≠ B → x'.heap[k]? = x.heap[k]?) : FwG base v rs l x' := by
  have far : ∀ {b : Nat} {e : TypeId} {c n : Nat} {v : Value} {xs : List Value}, e ≠ 26 → x.ownsRow b e c v n xs → ∀ k, v.ownBlock = some k → k ≠ B := fun he ho k hk e => by
    subst e
    rcases ho.2 with ⟨rfl, _⟩ | ⟨g, cap, cur, rfl, _, hg, _⟩
    · cases hk
    · cases hk
      unfold Boxed at hb
      rw [hg] at hb
      simp only [Option.some.injEq, Obj.cells.injEq] at hb
      exact he hb.2.1
  exact ⟨fwrows_carry h.outer fun k hk _ => hx k (far (by decide) h.outer k hk), h.len, h.num, fun i hi => fwrows_carry (h.row i hi) fun k hk _ => hx k (far (by decide) (h.row i hi) k hk), h.apart⟩
theorem FwG.base_mono {base b' : Nat} {v : Value} {rs : List Fwr} {l : List Fw} {x : World} (h : FwG base v rs l x) (hb : b' ≤ base) : FwG b' v rs l x :=
  ⟨⟨h.outer.1, h.outer.2.imp id fun ⟨g, cap, cur, h1, h2, h3⟩ => ⟨g, cap, cur, h1, Nat.le_trans hb h2, h3⟩⟩, h.len, h.num, fun i hi => (h.row i hi).mono hb, h.apart⟩

set_option maxHeartbeats 6400000 in
set_option maxRecDepth 100000 in
theorem implServed (d : Fs) (v : Value) (w : World) (hB : d.big ≤ 1048576) (h : Hid (FsAt w v d)) :
    Calls Try.prog 7 #[v] w fun e w' => (∃ v', e = .returned (.tuple #[v', .int .i64 d.servedI, .int .i64 d.servedN]) ∧ FsIn w.heap.size w'.heap.size w' v' d.served) ∧ Below w.heap.size w w' := by
  have A1 := fun v w h => implFairOk d v w hB h
  have A3 := fun a c w h => implOwnFair d a c w hB h
  have A4 := fun v w h => implChosen d v w hB h
  obtain ⟨a, c, rfl, k1⟩ := h.out
  clear h
  have Ok : Hid (d.ok = true → 1 ≤ d.flows.length ∧ d.flows.length ≤ 8) := fun hk => (Fs.ok_iff.1 hk).2.1
  have Ch : Hid (d.ok = true → 0 ≤ d.chosen → ∃ b : Nat, d.chosen = b ∧ b < d.flows.length ∧ d.waits b = true) := fun hk h0 => by
    obtain ⟨b, e, h1, h2, _⟩ := Fs.chosen_is hk h0
    exact ⟨b, e, h1, h2⟩
  have Hwt : Hid (∀ i, d.waits i = decide (0 < (fwAt d.flows i).sizes.length)) := fun _ => rfl
  have Hbad : Hid (d.ok = false → d.served = ⟨0, []⟩ ∧ d.servedI = -1 ∧ d.servedN = 0) := fun hk => by
    unfold Fs.served Fs.servedI Fs.servedN Fs.can
    rw [hk]
    exact ⟨rfl, rfl, rfl⟩
  have Hno : Hid (d.ok = true → (d.chosen < 0 ∨ ¬ d.endOf d.chosen.toNat ≤ 1125899906842624) → d.served = d ∧ d.servedI = -1 ∧ d.servedN = 0) := fun hk hn => by
    have hc : d.can = false := by
      unfold Fs.can
      rw [hk, Bool.true_and, Bool.and_eq_false_iff]
      rcases hn with hn | hn
      · left; exact decide_eq_false (by omega)
      · right; exact decide_eq_false hn
    unfold Fs.served Fs.servedI Fs.servedN
    rw [hk, hc]
    exact ⟨rfl, rfl, rfl⟩
  have Hyes : Hid (d.ok = true → 0 ≤ d.chosen → d.endOf d.chosen.toNat ≤ 1125899906842624 → d.served = d.serve d.chosen.toNat ∧ d.servedI = d.chosen ∧ d.servedN = szAt (fwAt d.flows d.chosen.toNat).sizes 0) := fun hk h0 h1 => by
    have hc : d.can = true := by
      unfold Fs.can
      rw [hk, decide_eq_true h0, decide_eq_true h1]
      rfl
    unfold Fs.served Fs.servedI Fs.servedN
    rw [hk, hc]
    exact ⟨rfl, rfl, rfl⟩
  have Hge : Hid (-1 ≤ d.chosen) := by
    show -1 ≤ d.chosen
    unfold Fs.chosen
    split
    · exact (d.best_in _).1
    · omega
  generalize d.served = R at Hbad Hno Hyes ⊢
  generalize d.servedI = RI at Hbad Hno Hyes ⊢
  generalize d.servedN = RN at Hbad Hno Hyes ⊢
  have A2 : ∀ a c w, FwsAt w a d.flows → Calls Try.prog 10 #[.agg #[.int .i64 d.now, .slice a d.flows.length c]] w fun e w' => e = .returned (.bool d.ok) ∧ Below w.heap.size w w' := fun a c w h => A1 _ w ⟨a, c, rfl, h⟩
  have A6 : ∀ a c w, FwsAt w a d.flows → Calls Try.prog 12 #[.agg #[.int .i64 d.now, .slice a d.flows.length c]] w fun e w' => e = .returned (.int .i64 d.chosen) ∧ Below w.heap.size w w' := fun a c w h => A4 _ w ⟨a, c, rfl, h⟩
  generalize d.chosen = ch at A6 Ch Hno Hyes Hge
  have Hsv : Hid (∀ i, d.serve i = ⟨d.beg i, d.flows.set i ⟨(fwAt d.flows i).weight, d.endOf i, (fwAt d.flows i).sizes.drop 1⟩⟩) := fun _ => rfl
  have Hen : Hid (∀ i, d.endOf i = d.beg i + (fwAt d.flows i).cost ∧ d.beg i = max d.now (fwAt d.flows i).finish) := fun _ => ⟨rfl, rfl⟩
  have Hfo : Hid (d.ok = true → ∀ i, i < d.flows.length → (fwAt d.flows i).ok = true ∧ 0 ≤ d.now ∧ d.now ≤ 1125899906842624) := fun hk i hi => ⟨Fs.ok_at hk hi, (Fs.ok_iff.1 hk).1⟩
  generalize d.ok = ok at A2 Ok Ch Hbad Hno Hyes Hfo
  generalize d.serve = sv at Hsv Hyes
  generalize d.endOf = en at Hsv Hen Hno Hyes
  generalize d.beg = bg at Hsv Hen
  generalize d.waits = wt at Ch Hwt
  clear A1 A4 hB
  obtain ⟨f, ls⟩ := d
  simp only [Fs.val] at A2 A3 A6 Ok Ch Hwt Hno Hyes Hsv Hen Hfo k1 ⊢
  have HK : Hid (FwsAt w a ls) := k1
  obtain ⟨n, hn⟩ : ∃ n, ls.length = n := ⟨_, rfl⟩
  have Hn : Hid (ls.length = n) := hn
  rw [hn] at A2 A3 A6 Ok Ch Hfo ⊢
  have A2' : Hid _ := A2
  have A3' : Hid _ := A3
  have A6' : Hid _ := A6
  clear A2 A3 A6 hn
  have X : Hid (Boxed ((w.alloc (.cells #[.int .i64 f, .slice a n c] 26)).alloc (.cells #[.int .i64 0, .slice none 0 0] 26)) w.heap.size #[.int .i64 f, .slice a n c] 26 ∧ Boxed ((w.alloc (.cells #[.int .i64 f, .slice a n c] 26)).alloc (.cells #[.int .i64 0, .slice none 0 0] 26)) (w.heap.size + 1) #[.int .i64 0, .slice none 0 0] 26 ∧ Below w.heap.size w ((w.alloc (.cells #[.int .i64 f, .slice a n c] 26)).alloc (.cells #[.int .i64 0, .slice none 0 0] 26))) := by
    refine ⟨(Boxed.new w _ _).more _, ?_, ((Below.refl _ _).alloc (Nat.le_refl _) _).alloc (by simp) _⟩
    have := Boxed.new (w.alloc (.cells #[.int .i64 f, .slice a n c] 26)) #[.int .i64 0, .slice none 0 0] 26
    simpa using this
  clear k1
  go_enter Try.func7, Try.ntmps7
  go_wp2_with (refine wpList_load_row rfl 26 (.tmp 1) rfl w.heap.size rfl _ _ _ _ X.out.1 Try.underlying26 rfl (by kernel_rfl) ?_)
  refine (A2'.out _ _ _ (HK.out.below X.out.2.2)).mono ?_
  rintro e w1 ⟨rfl, q⟩
  have X1 : Hid (Boxed w1 w.heap.size #[.int .i64 f, .slice a n c] 26 ∧ Boxed w1 (w.heap.size + 1) #[.int .i64 0, .slice none 0 0] 26 ∧ Below w.heap.size w w1) := ⟨X.out.1.below X.out.1.under q, X.out.2.1.below X.out.2.1.under q, X.out.2.2.trans (q.mono X.out.2.2.size)⟩
  clear q X A2'
  cases ok
  · obtain ⟨e1, e2, e3⟩ := Hbad.out (by first | exact trivial | exact rfl)
    subst e1 e2 e3
    go_wp2_with (refine wpList_store_row rfl 26 (.tmp 2) (.tmp 13) rfl (w.heap.size + 1) #[.int .i64 0, .slice none 0 0] rfl rfl _ _ X1.out.2.1 (by kernel_rfl) rfl (by simp [Value.oneCell']) ?_)
    exact bodyPost_ret (results_row_two Try.results7 _ _ (w.heap.size + 1) _ _ _ _ (.int .i64 (-1)) (.int .i64 0) rfl rfl rfl (setRow_heap _ (w.heap.size + 1) _ _ _ _ X1.out.2.1) Try.underlying26 rfl (by kernel_rfl)) rfl ⟨⟨_, rfl, fsIn_zero _ _ _⟩, below_setRow X1.out.2.2 (by omega) _⟩
  obtain ⟨hn1, hn8⟩ := Ok.out (by first | exact trivial | exact rfl)
  have Hfo' : Hid _ := Hfo.out (by first | exact trivial | exact rfl)
  clear Hfo
  go_upto_region 3 with fail
  go_cut [5, 6] (fun p s wc => Hid (∃ B base vx vc rs, p = .pointer (some ⟨B, 0, none⟩) ∧ s = .int .i64 ch ∧ SvX w f a n c base B wc ∧ FwG base (.slice vx n vc) rs ls wc ∧ Boxed wc B #[.int .i64 f, .slice vx n vc] 26))
  case first =>
    have W1 : Hid (∀ x, Below w1.heap.size w1 x → Boxed x w.heap.size #[.int .i64 f, .slice a n c] 26 ∧ Boxed x (w.heap.size + 1) #[.int .i64 0, .slice none 0 0] 26 ∧ Below w.heap.size w x ∧ FwsAt x a ls) := fun x g => by
      have hb := X1.out.2.2.trans (g.mono X1.out.2.2.size)
      exact ⟨X1.out.1.below X1.out.1.under g, X1.out.2.1.below X1.out.2.1.under g, hb, HK.out.below hb⟩
    go_wp2_with fail
    refine region_lists (G := Nat) (by kernel_rfl) (by kernel_rfl) (by kernel_rfl) (fun i => if i = 1 then 5 else 99) (fun (L : Nat → Bool) (y : Nat) (x : World) => Below w1.heap.size w1 x ∧ (L 4 = true → L 5 = false → Boxed x y #[.int .i64 0, .slice none 0 0] 26)) (fun i y x y' x' => (i ≠ 4 → y' = y) ∧ (i ≠ 5 → Below x.heap.size x x')) (fun i y x u => ([fun _ _ u => u = .agg #[.int .i64 f, .slice a n c], fun _ x u => ∃ vx vc rs, u = .agg #[.int .i64 f, .slice vx n vc] ∧ FwG (w1.heap.size + 2) (.slice vx n vc) rs ls x, fun _ _ u => u = .agg #[.int .i64 f, .slice a n c], fun _ _ u => u = .int .i64 ch, fun y x u => u = (.pointer (some ⟨y, 0, none⟩)) ∧ w1.heap.size ≤ y, fun y x _ => w1.heap.size ≤ y ∧ ∃ vx vc rs, Boxed x y #[.int .i64 f, .slice vx n vc] 26 ∧ FwG (w1.heap.size + 2) (.slice vx n vc) rs ls x, fun _ _ u => u = .int .i64 ch] : List (Nat → World → Value → Prop)).getD i (fun _ _ _ => True) y x u) ?hR 0 ?h0 ?step ?last
    case hR =>
      intro i j y y' x x' u hi hj hne hu h1 h2 hp hr
      have hi' : i < 7 := hi
      have hj' : j < 7 := hj
      obtain ⟨r1, r2⟩ := hr
      have hcases : j = 0 ∨ j = 1 ∨ j = 2 ∨ j = 3 ∨ j = 4 ∨ j = 5 ∨ j = 6 := by omega
      rcases hcases with rfl | rfl | rfl | rfl | rfl | rfl | rfl
      · exact hp
      · obtain ⟨vx, vc, rs, e, g⟩ := hp
        exact ⟨vx, vc, rs, e, g.below (r2 (fun e => hu e.symm))⟩
      · exact hp
      · exact hp
      · obtain ⟨e, g⟩ := hp
        rw [r1 hne]
        exact ⟨e, g⟩
      · obtain ⟨e, vx, vc, rs, g1, g2⟩ := hp
        have n4 : i ≠ 4 := by rintro rfl; exact absurd h1 (by decide +kernel)
        have b := r2 hne
        have e1 := r1 n4
        subst e1
        exact ⟨e, vx, vc, rs, g1.below g1.under b, g2.below b⟩
      · exact hp
    case h0 => exact ⟨(Below.refl _ _).drew, fun h => by cases h⟩
    case step =>
      intro i o hi ho L a' y x hLi hwt hre hkp hI hp
      obtain ⟨hB, hZ⟩ := hI
      obtain ⟨b1, b2, b3, b4⟩ := W1.out x hB
      have s1 : a'.eval (.tmp 1) = .pointer (some ⟨w.heap.size, 0, none⟩) := by have h2 : a'.tmps.getD 1 undef = .pointer (some ⟨w.heap.size, 0, none⟩) := hkp.slot 1 (by kernel_rfl); simpa [Act.eval] using h2
      have hi' : i < 7 := hi
      have hcases : i = 0 ∨ i = 1 ∨ i = 2 ∨ i = 3 ∨ i = 4 ∨ i = 5 ∨ i = 6 := by omega
      rcases hcases with rfl | rfl | rfl | rfl | rfl | rfl | rfl
      · cases ho
        exact ⟨wanted_none rfl, wp_load_row 26 (.tmp 1) rfl w.heap.size s1 _ _ _ _ b1 Try.underlying26 rfl (by kernel_rfl) ⟨_, y, rfl, ⟨fun _ => rfl, fun _ => Below.refl _ _⟩, ⟨hB, fun h4 h5 => hZ (by have h' : (if (4 : Nat) = 0 then true else L 4) = true := h4; simpa using h') (by have h' : (if (5 : Nat) = 0 then true else L 5) = false := h5; simpa using h')⟩, fun u hu => hu (fun h => by cases h)⟩⟩
      · cases ho
        have e0 : a'.tmps.getD 14 undef = .agg #[.int .i64 f, .slice a n c] := hp 0 (of_decide_eq_true (by kernel_rfl)) (.inr (by decide))
        have e0' : a'.tmps[14]?.getD undef = .agg #[.int .i64 f, .slice a n c] := by simpa using e0
        refine ⟨wanted_none rfl, op_callR (f := 24) (args := #[.agg #[.int .i64 f, .slice a n c]]) (by simp [execOp, resolve, Deferred.ofValue, invoke, Act.eval, e0']) (A3'.out a c x b4) ?_⟩
        rintro e x1 ⟨⟨vv, rs, rfl, hG⟩, q⟩
        obtain ⟨vx, vc, ev⟩ := fwrows_shape hG.outer
        rw [Hn.out] at ev
        subst ev
        have hG' := hG.base_mono (b' := w1.heap.size + 2) (by have := hB.size; omega)
        exact ⟨_, rfl, _, y, rfl, ⟨fun _ => rfl, fun _ => q⟩, ⟨hB.trans (q.mono hB.size), fun h4 h5 => (hZ (by have h' : (if (4 : Nat) = 1 then true else L 4) = true := h4; simpa using h') (by have h' : (if (5 : Nat) = 1 then true else L 5) = false := h5; simpa using h')).below (hZ (by have h' : (if (4 : Nat) = 1 then true else L 4) = true := h4; simpa using h') (by have h' : (if (5 : Nat) = 1 then true else L 5) = false := h5; simpa using h')).under q⟩, fun u hu => ⟨vx, vc, rs, hu (fun h => by cases h), hG'⟩⟩
      · cases ho
        exact ⟨wanted_none rfl, wp_load_row 26 (.tmp 1) rfl w.heap.size s1 _ _ _ _ b1 Try.underlying26 rfl (by kernel_rfl) ⟨_, y, rfl, ⟨fun _ => rfl, fun _ => Below.refl _ _⟩, ⟨hB, fun h4 h5 => hZ (by have h' : (if (4 : Nat) = 2 then true else L 4) = true := h4; simpa using h') (by have h' : (if (5 : Nat) = 2 then true else L 5) = false := h5; simpa using h')⟩, fun u hu => hu (fun h => by cases h)⟩⟩
      · cases ho
        have e2 : a'.tmps.getD 16 undef = .agg #[.int .i64 f, .slice a n c] := hp 2 (of_decide_eq_true (by kernel_rfl)) (.inr (by decide))
        have e2' : a'.tmps[16]?.getD undef = .agg #[.int .i64 f, .slice a n c] := by simpa using e2
        refine ⟨wanted_none rfl, op_callR (f := 12) (args := #[.agg #[.int .i64 f, .slice a n c]]) (by simp [execOp, resolve, Deferred.ofValue, invoke, Act.eval, e2']) (A6'.out a c x b4) ?_⟩
        rintro e x1 ⟨rfl, q⟩
        exact ⟨_, rfl, _, y, rfl, ⟨fun _ => rfl, fun _ => q⟩, ⟨hB.trans (q.mono hB.size), fun h4 h5 => (hZ (by have h' : (if (4 : Nat) = 3 then true else L 4) = true := h4; simpa using h') (by have h' : (if (5 : Nat) = 3 then true else L 5) = false := h5; simpa using h')).below (hZ (by have h' : (if (4 : Nat) = 3 then true else L 4) = true := h4; simpa using h') (by have h' : (if (5 : Nat) = 3 then true else L 5) = false := h5; simpa using h')).under q⟩, fun u hu => hu (fun h => by cases h)⟩
      · cases ho
        refine ⟨wanted_none rfl, op_allocZ (z := .agg #[.int .i64 0, .slice none 0 0]) rfl (by kernel_rfl) ⟨_, x.heap.size, rfl, ⟨fun h => absurd rfl h, fun _ => (Below.refl _ _).alloc (Nat.le_refl _) _⟩, ⟨hB.alloc hB.size _, fun _ _ => Boxed.new _ _ _⟩, fun u hu => ⟨hu (fun h => by cases h), hB.size⟩⟩⟩
      · cases ho
        have e4 : a'.tmps.getD 5 undef = (.pointer (some ⟨y, 0, none⟩)) ∧ w1.heap.size ≤ y := hp 4 (of_decide_eq_true (by kernel_rfl)) (.inr (by decide))
        obtain ⟨e4, ly⟩ := e4
        obtain ⟨vx, vc, rs, e1, hG⟩ : ∃ vx vc rs, a'.tmps.getD 15 undef = .agg #[.int .i64 f, .slice vx n vc] ∧ FwG (w1.heap.size + 2) (.slice vx n vc) rs ls x := hp 1 (of_decide_eq_true (by kernel_rfl)) (.inl rfl)
        have hz := hZ (hwt 4 (of_decide_eq_true (by kernel_rfl))) hLi
        refine ⟨wanted_none rfl, wp_store_row 26 (.tmp 5) (.tmp 15) rfl y #[.int .i64 f, .slice vx n vc] (by simpa [Act.eval] using e4) (by simpa [Act.eval] using e1) _ _ hz (by kernel_rfl) rfl (by simp [Value.oneCell']) ⟨undef, y, rfl, ⟨fun _ => rfl, fun h => absurd rfl h⟩, ⟨below_setRow hB ly _, fun _ h5 => by simp at h5⟩, fun _ _ => ⟨ly, vx, vc, rs, setRow_heap _ _ _ _ _ _ hz, hG.unl hz (fun k hk => setRow_other _ _ _ _ hk)⟩⟩⟩
      · cases ho
        have e3 : a'.tmps.getD 17 undef = .int .i64 ch := hp 3 (of_decide_eq_true (by kernel_rfl)) (.inr (by decide))
        refine ⟨wanted_none rfl, op_assignZ 17 rfl ?_⟩
        rw [e3]
        exact ⟨_, y, rfl, ⟨fun _ => rfl, fun _ => Below.refl _ _⟩, ⟨hB, fun h4 h5 => hZ (by have h' : (if (4 : Nat) = 6 then true else L 4) = true := h4; simpa using h') (by have h' : (if (5 : Nat) = 6 then true else L 5) = false := h5; simpa using h')⟩, fun u hu => hu (fun h => by cases h)⟩
    case last =>
    intro L a' y x hall hkp hI hp
    obtain ⟨e4, ly⟩ : a'.tmps.getD 5 undef = (.pointer (some ⟨y, 0, none⟩)) ∧ w1.heap.size ≤ y := hp 4 (by decide) (by decide)
    obtain ⟨-, vx, vc, rs, g1, g2⟩ : w1.heap.size ≤ y ∧ ∃ vx vc rs, Boxed x y #[.int .i64 f, .slice vx n vc] 26 ∧ FwG (w1.heap.size + 2) (.slice vx n vc) rs ls x := hp 5 (by decide) (by decide)
    have e6 : a'.tmps.getD 6 undef = .int .i64 ch := hp 6 (by decide) (by decide)
    obtain ⟨b1, b2, b3, b4⟩ := W1.out x hI.1
    have u1 := X1.out.2.1.under
    have Fin : Hid (∃ B base vx vc rs, a'.tmps.getD 5 undef = .pointer (some ⟨B, 0, none⟩) ∧ a'.tmps.getD 6 undef = .int .i64 ch ∧ SvX w f a n c base B x ∧ FwG base (.slice vx n vc) rs ls x ∧ Boxed x B #[.int .i64 f, .slice vx n vc] 26) := ⟨y, _, vx, vc, rs, e4, e6, ⟨b1, b2, b3, by omega, by omega⟩, g2, g1⟩
    have ha := hkp.pick [true, true, true, true, true, false, false, true, true, true, true, true, true, true, false, false, false, false, true, true, true, true, true, true, true, true, true, true, true, true, true, true, true, true, true, true, true, true, true, true, true, true, true, true, true, true, true, true, true, true, true, true, true, true, true, true] (by kernel_rfl)
    simp only [pickS] at ha
    clear hp hkp hI hall e4 e6 g1 g2 b1 b2 b3 b4 u1
    generalize a'.tmps.getD 5 undef = y5 at ha Fin
    generalize a'.tmps.getD 6 undef = y6 at ha Fin
    generalize a'.tmps.getD 14 undef = y14 at ha
    generalize a'.tmps.getD 15 undef = y15 at ha
    generalize a'.tmps.getD 16 undef = y16 at ha
    generalize a'.tmps.getD 17 undef = y17 at ha
    rw [ha]
    clear ha
    go_wp2_with fail
    go_meet
    exact Fin.out
  case rest =>
  obtain ⟨B, base, vx, vc, rs, e5, e6, X3⟩ := hcut.out
  subst e5 e6
  obtain ⟨w3, rfl⟩ : ∃ w3, w3 = wc := ⟨_, rfl⟩
  have X3 : Hid (SvX w f a n c base B w3 ∧ FwG base (.slice vx n vc) rs ls w3 ∧ Boxed w3 B #[.int .i64 f, .slice vx n vc] 26) := X3
  have hge := Hge.out
  clear hcut A3' A6' X1 Hge
  by_cases hc : ch = -1
  · obtain ⟨e1, e2, e3⟩ := Hno.out (by first | exact trivial | exact rfl) (.inl (by omega))
    subst e1 e2 e3
    subst hc
    go_wp2_with (first | (refine wpList_load_row rfl 26 (.tmp 5) rfl B rfl _ _ _ _ X3.out.2.2 Try.underlying26 rfl (by kernel_rfl) ?_) | (refine wpList_store_row rfl 26 (.tmp 2) (.tmp 20) rfl (w.heap.size + 1) #[.int .i64 f, .slice vx n vc] rfl rfl _ _ X3.out.1.res (by kernel_rfl) rfl (by simp [Value.oneCell']) ?_))
    exact bodyPost_ret (results_row_two Try.results7 _ _ (w.heap.size + 1) _ _ _ _ (.int .i64 (-1)) (.int .i64 0) rfl rfl rfl (setRow_heap _ (w.heap.size + 1) _ _ _ _ X3.out.1.res) Try.underlying26 rfl (by kernel_rfl)) rfl ⟨⟨_, rfl, X3.out.1.fin (z := ⟨f, ls⟩) X3.out.2.1 (fun k hk => setRow_other _ _ _ _ hk)⟩, below_setRow X3.out.1.bel (by omega) _⟩
  obtain ⟨b, eb, hbn, hwb⟩ := Ch.out (by first | exact trivial | exact rfl) (by omega)
  subst eb
  rw [Int.toNat_natCast] at Hno Hyes
  have hcd : ((b : Int) == -1) = false := by simp
  have hb' : (b : Int) < (n : Int) := by omega
  have hbl : b < ls.length := by rw [Hn.out]; exact hbn
  rw [Hwt.out] at hwb
  have hwb := of_decide_eq_true hwb
  obtain ⟨hfo, hf0, hf1⟩ := Hfo'.out b hbn
  have hcost := (Fs.cost_in hfo hwb).2.2
  have hfin := (Fw.ok_iff.1 hfo).2.1
  obtain ⟨b0, off, ak, ck, ha, hb0, ⟨k0, k1, k2⟩, hr, hcap, hnil⟩ := HK.out b hbl
  subst ha
  have Rd : Hid (∀ x, Below w.heap.size w x → x.cell? ⟨b0, off + b * 3, none⟩ = some (.int .i64 (fwAt ls b).weight) ∧ x.cell? ⟨b0, off + b * 3 + 1, none⟩ = some (.int .i64 (fwAt ls b).finish) ∧ x.cell? ⟨b0, off + b * 3 + 2, none⟩ = some (.slice ak (fwAt ls b).sizes.length ck) ∧ IntsAt x ak (fwAt ls b).sizes) := fun x g => ⟨by rw [g.cell (p := ⟨b0, off + b * 3, none⟩) hb0]; exact k0, by rw [g.cell (p := ⟨b0, off + b * 3 + 1, none⟩) hb0]; exact k1, by rw [g.cell (p := ⟨b0, off + b * 3 + 2, none⟩) hb0]; exact k2, hr.below g⟩
  have hin : (fwAt ls b).sizes.length ≤ 1048576 := by have := (Fw.ok_iff.1 hfo).2.2.1; omega
  have D := fun w => implPayerOf (fwAt ls b) ak ck w
  have E := fun w => implBeg (fwAt ls b) ak ck f w
  have PR := fun w h => implPrice (fwAt ls b) ak ck w hfo hwb h
  have FI := fun w h => implFirst ak ck (fwAt ls b).sizes w hwb hin h
  have RS := fun w h => implRest ak ck (fwAt ls b).sizes w hwb hin hcap h
  obtain ⟨en1, en2⟩ := Hen.out b
  have Hsv' := Hsv.out b
  have Sh : Hid (∀ {q : Nat} {w : World} {v : Value}, IRow q w v ((fwAt ls b).sizes.drop 1) → ∃ p c, v = .slice p ((fwAt ls b).sizes.length - 1) c) := fun h => by
    obtain ⟨p, q, e⟩ := IRow.shape h
    exact ⟨p, q, by rw [e, List.length_drop]⟩
  rw [← en2] at E
  generalize (fwAt ls b).cost = co at PR hcost en1
  generalize szAt (fwAt ls b).sizes 0 = sz at FI Hyes
  have hbg0 : 0 ≤ bg b ∧ bg b ≤ 1125899906842624 := by omega
  generalize bg b = g at E en1 hbg0 Hsv'
  generalize hQ : fwAt ls b = q at Rd D E PR FI RS Sh Hsv' hfo hwb
  obtain ⟨t, u, fl⟩ := q
  simp only [Fw.val, Fw.pay] at Rd D E PR FI RS Sh Hsv' hwb
  generalize fl.length = m at Rd D E PR FI RS Sh hwb
  have Hsv2 : Hid _ := Hsv'
  have D' : Hid _ := D
  have E' : Hid _ := E
  have PR' : Hid _ := PR
  have FI' : Hid _ := FI
  have RS' : Hid _ := RS
  obtain ⟨z, hz⟩ : ∃ z, en b = z := ⟨_, rfl⟩
  rw [hz] at Hno Hyes Hsv2 en1
  obtain ⟨g0, g1⟩ := hbg0
  obtain ⟨co0, co1⟩ := hcost
  clear D E PR FI RS Hsv' hr hcap hnil k0 k1 k2 hin hfo hfin en2 Hen Hsv Hwt Ch hge hc hwb Hfo' hQ hz hb0 Ok hf0 hf1
  have cb : w3.cell? ⟨w.heap.size, 1, none⟩ = some (.slice (some ⟨b0, off, none⟩) n c) := X3.out.1.box.cell 1 rfl
  obtain ⟨d0, d1, d2, -⟩ := Rd.out w3 X3.out.1.bel
  go_wp2_with fail
  refine (D'.out _).mono ?_
  rintro e w4 ⟨rfl, q⟩
  have X4 : Hid (SvX w f (some ⟨b0, off, none⟩) n c base B w4 ∧ FwG base (.slice vx n vc) rs ls w4 ∧ Boxed w4 B #[.int .i64 f, .slice vx n vc] 26) := ⟨X3.out.1.below q, X3.out.2.1.below q, X3.out.2.2.below X3.out.2.2.under q⟩
  clear q cb d0 d1 d2 D' X3
  have N : Hid (Boxed (w4.alloc (.cells #[.slice none 0 0, .int .i64 0, .int .i64 0] 47)) w4.heap.size #[.slice none 0 0, .int .i64 0, .int .i64 0] 47) := Boxed.new _ _ _
  obtain ⟨w5, hw5⟩ : ∃ w5, (w4.alloc (.cells #[.slice none 0 0, .int .i64 0, .int .i64 0] 47)).setRow w4.heap.size #[.slice ak m ck, .int .i64 t, .int .i64 u] = w5 := ⟨_, rfl⟩
  have b5 : Below w4.heap.size w4 w5 := by rw [← hw5]; exact below_setRow ((Below.refl _ _).alloc (Nat.le_refl _) _) (Nat.le_refl _) _
  have X5 : Hid ((SvX w f (some ⟨b0, off, none⟩) n c base B w5 ∧ FwG base (.slice vx n vc) rs ls w5 ∧ Boxed w5 B #[.int .i64 f, .slice vx n vc] 26) ∧ Boxed w5 w4.heap.size #[.slice ak m ck, .int .i64 t, .int .i64 u] 47 ∧ B < w4.heap.size) := ⟨⟨X4.out.1.below b5, X4.out.2.1.below b5, X4.out.2.2.below X4.out.2.2.under b5⟩, by rw [← hw5]; exact setRow_heap _ _ _ _ _ _ N.out, X4.out.2.2.under⟩
  have H5 : Hid _ := hw5
  clear hw5 b5 X4
  go_upto_region 7 with (refine wpList_store_row rfl 47 (.tmp 7) (.tmp 26) rfl w4.heap.size #[.slice ak m ck, .int .i64 t, .int .i64 u] rfl rfl _ _ N.out (by kernel_rfl) rfl (by simp [Value.oneCell']) ?_)
  rw [H5.out]
  generalize w4.heap.size = C at X5 ⊢
  clear N H5
  have lift : Hid (∀ x x', ((SvX w f (some ⟨b0, off, none⟩) n c base B x ∧ FwG base (.slice vx n vc) rs ls x ∧ Boxed x B #[.int .i64 f, .slice vx n vc] 26) ∧ Boxed x C #[.slice ak m ck, .int .i64 t, .int .i64 u] 47 ∧ B < C) → Below x.heap.size x x' → ((SvX w f (some ⟨b0, off, none⟩) n c base B x' ∧ FwG base (.slice vx n vc) rs ls x' ∧ Boxed x' B #[.int .i64 f, .slice vx n vc] 26) ∧ Boxed x' C #[.slice ak m ck, .int .i64 t, .int .i64 u] 47 ∧ B < C)) := fun x x' h q => ⟨⟨h.1.1.below q, h.1.2.1.below q, h.1.2.2.below h.1.2.2.under q⟩, h.2.1.below h.2.1.under q, h.2.2⟩
  have d0 : w5.cell? ⟨C, 0, none⟩ = some (.slice ak m ck) := X5.out.2.1.cell 0 rfl
  have d1 : w5.cell? ⟨C, 1, none⟩ = some (.int .i64 t) := X5.out.2.1.cell 1 rfl
  have d2 : w5.cell? ⟨C, 2, none⟩ = some (.int .i64 u) := X5.out.2.1.cell 2 rfl
  have d3 : w5.cell? ⟨w.heap.size, 0, none⟩ = some (.int .i64 f) := X5.out.1.1.box.cell 0 rfl
  go_wp2_with fail
  refine (E'.out _).mono ?_
  rintro e w6 ⟨rfl, q⟩
  have X6 : Hid _ := lift.out w5 w6 X5.out q
  clear q d0 d1 d2 d3 E' X5
  have d0 : w6.cell? ⟨C, 0, none⟩ = some (.slice ak m ck) := X6.out.2.1.cell 0 rfl
  have d1 : w6.cell? ⟨C, 1, none⟩ = some (.int .i64 t) := X6.out.2.1.cell 1 rfl
  have d2 : w6.cell? ⟨C, 2, none⟩ = some (.int .i64 u) := X6.out.2.1.cell 2 rfl
  go_wp2_with fail
  refine (PR'.out _ (Rd.out w6 X6.out.1.1.bel).2.2.2).mono ?_
  rintro e w7 ⟨rfl, q⟩
  have X7 : Hid _ := lift.out w6 w7 X6.out q
  clear q d0 d1 d2 PR' X6
  have kw : IntKind.i64.wrap (g + co) = z := by rw [IntKind.wrap_i64]; omega
  have kz : Hid (g + co = z) := en1.symm
  have kz0 : 0 ≤ z := by omega
  have kz1 : z ≤ 1125899911882624 := by omega
  clear en1 co0 co1
  by_cases hz : 1125899906842624 < z
  · obtain ⟨e1, e2, e3⟩ := Hno.out (by first | exact trivial | exact rfl) (.inr (by first | exact hz | omega))
    subst e1 e2 e3
    go_upto_region 10 with fail
    go_wp2_with (first | (refine wpList_load_row rfl 26 (.tmp 5) rfl B rfl _ _ _ _ X7.out.1.2.2 Try.underlying26 rfl (by kernel_rfl) ?_) | (refine wpList_store_row rfl 26 (.tmp 2) (.tmp 37) rfl (w.heap.size + 1) #[.int .i64 f, .slice vx n vc] rfl rfl _ _ X7.out.1.1.res (by kernel_rfl) rfl (by simp [Value.oneCell']) ?_))
    exact bodyPost_ret (results_row_two Try.results7 _ _ (w.heap.size + 1) _ _ _ _ (.int .i64 (-1)) (.int .i64 0) rfl rfl rfl (setRow_heap _ (w.heap.size + 1) _ _ _ _ X7.out.1.1.res) Try.underlying26 rfl (by kernel_rfl)) rfl ⟨⟨_, rfl, X7.out.1.1.fin (z := ⟨f, ls⟩) X7.out.1.2.1 (fun k hk => setRow_other _ _ _ _ hk)⟩, below_setRow X7.out.1.1.bel (by omega) _⟩
  obtain ⟨e1, e2, e3⟩ := Hyes.out (by first | exact trivial | exact rfl) (by omega) (by omega)
  rw [Hsv2.out] at e1
  subst e1 e2 e3
  have hzd : decide (1125899906842624 < z) = false := decide_eq_false hz
  clear Hno Hyes Hsv2 Hbad
  have dB : w7.cell? ⟨B, 0, none⟩ = some (.int .i64 f) := X7.out.1.2.2.cell 0 rfl
  have dI := X7.out.1.2.2.ice 0
  have X8 : Hid ((SvX w f (some ⟨b0, off, none⟩) n c base B (w7.setCell ⟨B, 0, none⟩ (.int .i64 g)) ∧ FwG base (.slice vx n vc) rs ls (w7.setCell ⟨B, 0, none⟩ (.int .i64 g)) ∧ Boxed (w7.setCell ⟨B, 0, none⟩ (.int .i64 g)) B #[.int .i64 g, .slice vx n vc] 26) ∧ Boxed (w7.setCell ⟨B, 0, none⟩ (.int .i64 g)) C #[.slice ak m ck, .int .i64 t, .int .i64 u] 47 ∧ B < C) := by
    have s := X7.out.1.1
    have h1 := s.hi
    have h2 := X7.out.2.2
    have hp := X7.out.1.2.2.put 0 (.int .i64 g)
    exact ⟨⟨⟨s.box.far (by omega) _ _, s.res.far (by omega) _ _, s.bel.setCell (by show w.heap.size ≤ B; omega) _, s.lo, s.hi⟩, X7.out.1.2.1.unl X7.out.1.2.2 (fun k hk => Below.heap_setCell _ _ _ _ (by exact hk)), by simpa using hp⟩, X7.out.2.1.far (by omega) _ _, h2⟩
  go_upto_region 12 with fail
  generalize w7.setCell ⟨B, 0, none⟩ (.int .i64 g) = w8 at X8 ⊢
  clear X7 dB dI lift
  obtain ⟨xg, xc, exv, xg1, xg2⟩ := X8.out.1.2.1.place (j := b) hbl
  rw [Hn.out] at exv
  cases exv
  go_cut [] (fun wc => Hid (∃ rs', (SvX w f (some ⟨b0, off, none⟩) n c base B wc ∧ FwG base (.slice (some ⟨xg, 0, none⟩) n vc) rs' (ls.set b ⟨t, z, fl.drop 1⟩) wc ∧ Boxed wc B #[.int .i64 g, .slice (some ⟨xg, 0, none⟩) n vc] 26) ∧ Boxed wc C #[.slice ak m ck, .int .i64 t, .int .i64 u] 47 ∧ B < C))
  case first =>
    have Cs : Hid (∀ x, Below w8.heap.size w8 x → ((∃ y, x.cell? ⟨xg, b * 3, none⟩ = some y) ∧ x.frozen? ⟨xg, b * 3, none⟩ = false) ∧ ((∃ y, x.cell? ⟨xg, b * 3 + 1, none⟩ = some y) ∧ x.frozen? ⟨xg, b * 3 + 1, none⟩ = false) ∧ ((∃ y, x.cell? ⟨xg, b * 3 + 2, none⟩ = some y) ∧ x.frozen? ⟨xg, b * 3 + 2, none⟩ = false) ∧ xg < x.heap.size) := fun x q => by
      have gg := X8.out.1.2.1.below q
      rw [← Hn.out] at gg
      obtain ⟨d0, d1, d2, d3⟩ := gg.cells hbl
      exact ⟨⟨⟨_, d0⟩, d3 _⟩, ⟨⟨_, d1⟩, d3 _⟩, ⟨⟨_, d2⟩, d3 _⟩, Nat.lt_of_lt_of_le xg2 q.size⟩
    have Put : Hid (∀ (x2 : World) (p : Option Addr) (qc : Nat), Below w8.heap.size w8 x2 → IRow w8.heap.size x2 (.slice p (m - 1) qc) (fl.drop 1) →
        (∃ rs', (SvX w f (some ⟨b0, off, none⟩) n c base B (((x2.setCell ⟨xg, b * 3, none⟩ (.int .i64 t)).setCell ⟨xg, b * 3 + 1, none⟩ (.int .i64 z)).setCell ⟨xg, b * 3 + 2, none⟩ (.slice p (m - 1) qc)) ∧ FwG base (.slice (some ⟨xg, 0, none⟩) n vc) rs' (ls.set b ⟨t, z, fl.drop 1⟩) (((x2.setCell ⟨xg, b * 3, none⟩ (.int .i64 t)).setCell ⟨xg, b * 3 + 1, none⟩ (.int .i64 z)).setCell ⟨xg, b * 3 + 2, none⟩ (.slice p (m - 1) qc)) ∧ Boxed (((x2.setCell ⟨xg, b * 3, none⟩ (.int .i64 t)).setCell ⟨xg, b * 3 + 1, none⟩ (.int .i64 z)).setCell ⟨xg, b * 3 + 2, none⟩ (.slice p (m - 1) qc)) B #[.int .i64 g, .slice (some ⟨xg, 0, none⟩) n vc] 26) ∧ Boxed (((x2.setCell ⟨xg, b * 3, none⟩ (.int .i64 t)).setCell ⟨xg, b * 3 + 1, none⟩ (.int .i64 z)).setCell ⟨xg, b * 3 + 2, none⟩ (.slice p (m - 1) qc)) C #[.slice ak m ck, .int .i64 t, .int .i64 u] 47 ∧ B < C)) := fun x2 p qc g2 g3 => by
      have gg := X8.out.1.2.1
      rw [← Hn.out] at gg
      have fl' := gg.flow (W := x2) (r := ⟨t, z, fl.drop 1⟩) hbl g2 g3 (by omega)
      rw [Hn.out] at fl'
      have s := X8.out.1.1.below g2
      have hB2 := X8.out.1.2.2.below X8.out.1.2.2.under g2
      have hC2 := X8.out.2.1.below X8.out.2.1.under g2
      have lo := s.lo
      have oth := fun y (h : y ≠ xg) => set3_other x2 xg y (b * 3) (b * 3 + 1) (b * 3 + 2) (.int .i64 t) (.int .i64 z) (.slice p (m - 1) qc) h
      have nB : B ≠ xg := fun e => by
        have r := gg.outer
        rcases r.2 with ⟨e2, _⟩ | ⟨g', cap', cur, e2, _, hg, _⟩
        · cases e2
        · cases e2
          have h3 := X8.out.1.2.2
          unfold Boxed at h3
          rw [e, hg] at h3
          simp only [Option.some.injEq, Obj.cells.injEq] at h3
          exact absurd h3.2.1 (by decide)
      have nC : C ≠ xg := fun e => by
        have r := gg.outer
        rcases r.2 with ⟨e2, _⟩ | ⟨g', cap', cur, e2, _, hg, _⟩
        · cases e2
        · cases e2
          have h3 := X8.out.2.1
          unfold Boxed at h3
          rw [e, hg] at h3
          simp only [Option.some.injEq, Obj.cells.injEq] at h3
          exact absurd h3.2.1 (by decide)
      refine ⟨_, ⟨⟨?_, ?_, ?_, s.lo, s.hi⟩, fl', ?_⟩, ?_, X8.out.2.2⟩
      · unfold Boxed; rw [oth _ (by omega)]; exact s.box
      · unfold Boxed; rw [oth _ (by omega)]; exact s.res
      · exact ((s.bel.setCell (by show w.heap.size ≤ xg; omega) _).setCell (by show w.heap.size ≤ xg; omega) _).setCell (by show w.heap.size ≤ xg; omega) _
      · unfold Boxed; rw [oth _ nB]; exact hB2
      · unfold Boxed; rw [oth _ nC]; exact hC2
    have w8d : Hid (IntsAt w8.drew ak fl) := (Rd.out w8.drew X8.out.1.1.bel.drew).2.2.2
    have eB : w8.cell? ⟨B, 1, none⟩ = some (.slice (some ⟨xg, 0, none⟩) n vc) := X8.out.1.2.2.cell 1 rfl
    have e0 : w8.cell? ⟨C, 0, none⟩ = some (.slice ak m ck) := X8.out.2.1.cell 0 rfl
    have e1 : w8.cell? ⟨C, 1, none⟩ = some (.int .i64 t) := X8.out.2.1.cell 1 rfl
    have lB : B < w8.heap.size := X8.out.1.2.2.under
    have lC : C < w8.heap.size := X8.out.2.1.under
    go_region_law (refine stepCall rfl 28 rfl #[.slice ak m ck] (by kernel_rfl) (RS'.out w8.drew w8d.out) ?_; rintro e x2 ⟨vj, rfl, q1, q2⟩; obtain ⟨p, qc, ev⟩ := Sh.out q1; subst ev; refine ⟨_, rfl, ?_⟩; have b2 : Below w8.heap.size w8 x2 := (Below.refl _ w8).drew.trans q2; have P2 : Hid _ := Put.out x2 p qc b2 q1; have eB : x2.cell? ⟨B, 1, none⟩ = some (.slice (some ⟨xg, 0, none⟩) n vc) := (by rw [b2.cell (p := ⟨B, 1, none⟩) lB]; exact eB); have e1 : x2.cell? ⟨C, 1, none⟩ = some (.int .i64 t) := (by rw [b2.cell (p := ⟨C, 1, none⟩) lC]; exact e1); obtain ⟨⟨⟨y0, hy0⟩, hz0⟩, ⟨⟨y1, hy1⟩, hz1⟩, ⟨⟨yy2, hy2⟩, hz2⟩, hxl⟩ := Cs.out x2 b2; clear q1 q2 b2)
    all_goals (go_wp2_with fail; go_meet; exact P2.out)
  case rest =>
  obtain ⟨w9, rfl⟩ : ∃ w9, w9 = wc := ⟨_, rfl⟩
  obtain ⟨rs', hX9⟩ := hcut.out
  have X9 : Hid _ := hX9
  clear hcut hX9 X8 RS' Sh
  have w9d : Hid (IntsAt w9.drew ak fl) := (Rd.out w9.drew X9.out.1.1.bel.drew).2.2.2
  have e0 : w9.cell? ⟨C, 0, none⟩ = some (.slice ak m ck) := X9.out.2.1.cell 0 rfl
  have f0 : w9.cell? ⟨B, 0, none⟩ = some (.int .i64 g) := X9.out.1.2.2.cell 0 rfl
  have f1 : w9.cell? ⟨B, 1, none⟩ = some (.slice (some ⟨xg, 0, none⟩) n vc) := X9.out.1.2.2.cell 1 rfl
  have r0 : w9.cell? ⟨w.heap.size + 1, 0, none⟩ = some (.int .i64 0) := X9.out.1.1.res.cell 0 rfl
  have r1 : w9.cell? ⟨w.heap.size + 1, 1, none⟩ = some (.slice none 0 0) := X9.out.1.1.res.cell 1 rfl
  have i0 := X9.out.1.1.res.ice 0
  have i1 := X9.out.1.1.res.ice 1
  have nB : ¬ B = w.heap.size + 1 := by have := X9.out.1.1.hi; omega
  have nC : ¬ C = w.heap.size + 1 := by have := X9.out.1.1.hi; have := X9.out.2.2; omega
  have Fin : Hid (∀ x : World, x.heap = ((w9.setCell ⟨w.heap.size + 1, 0, none⟩ (.int .i64 g)).setCell ⟨w.heap.size + 1, 1, none⟩ (.slice (some ⟨xg, 0, none⟩) n vc)).heap → Boxed x (w.heap.size + 1) #[.int .i64 g, .slice (some ⟨xg, 0, none⟩) n vc] 26 ∧ FsIn w.heap.size x.heap.size x (.agg #[.int .i64 g, .slice (some ⟨xg, 0, none⟩) n vc]) ⟨g, ls.set b ⟨t, z, fl.drop 1⟩⟩) := fun x hx => by
    have hp := (X9.out.1.1.res.put 0 (.int .i64 g)).put 1 (.slice (some ⟨xg, 0, none⟩) n vc)
    refine ⟨by unfold Boxed; rw [hx]; simpa [Boxed] using hp, ?_⟩
    exact X9.out.1.1.fin (z := ⟨g, ls.set b ⟨t, z, fl.drop 1⟩⟩) X9.out.1.2.1 (fun k hk => by rw [hx, Below.heap_setCell _ _ _ _ (by exact hk), Below.heap_setCell _ _ _ _ (by exact hk)])
  have FinB : Hid (Below w.heap.size w ((w9.setCell ⟨w.heap.size + 1, 0, none⟩ (.int .i64 g)).setCell ⟨w.heap.size + 1, 1, none⟩ (.slice (some ⟨xg, 0, none⟩) n vc))) := (X9.out.1.1.bel.setCell (by show w.heap.size ≤ w.heap.size + 1; omega) _).setCell (by show w.heap.size ≤ w.heap.size + 1; omega) _
  clear X9 kz kz0 kz1 kw hzd hz Rd HK
  go_wp2_with fail
  go_region_law (refine stepCall rfl 29 rfl #[.slice ak m ck] (by kernel_rfl) (FI'.out w9.drew w9d.out) ?_; rintro e x2 ⟨rfl, hx2⟩; refine ⟨_, rfl, ?_⟩; obtain rfl := hx2.symm; clear hx2)
  all_goals (
    go_wp2_with fail
    generalize ((w9.setCell ⟨w.heap.size + 1, 0, none⟩ (.int .i64 g)).setCell ⟨w.heap.size + 1, 1, none⟩ (.slice (some ⟨xg, 0, none⟩) n vc)) = Y at Fin FinB ⊢
    exact bodyPost_ret (results_row_two Try.results7 _ _ (w.heap.size + 1) _ _ _ _ _ _ rfl rfl rfl (Fin.out Y.drew rfl).1 Try.underlying26 rfl (by kernel_rfl)) rfl ⟨⟨_, rfl, (Fin.out Y.drew rfl).2⟩, FinB.out.drew⟩)
end Go.Proofs.Ytnclfocfbhedkaa
