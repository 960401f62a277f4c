/-
  The walk of the program's Served. By the verifier, by program.
-/
import Derived.Test.YtllmkolchgmjoaaFsSoI
import Derived.Test.YtllmkolchgmjoaaFsFacts
namespace Go.Proofs.Ytllmkolchgmjoaa
open Go.RowKit

set_option maxHeartbeats 6400000 in
set_option maxRecDepth 100000 in
theorem implServed (d : Fs) (v : Value) (w : World) (hB : d.big ≤ 1048576) (h : Hid (FsAt w v d)) :
    Calls Try.prog 9 #[v] w fun e w' => (∃ v', e = .returned (.tuple #[v', .int .i64 d.servedI, .int .i64 d.servedN]) ∧ FsIn w.heap.size w'.heap.size w' v' d.served) ∧ Below w.heap.size w w' := by
  have A1 := fun v w h => implFairOk d v w hB h
  have A3 := fun a c w h => implOwnFair d a c w hB h
  have A4 := fun v w h => implChosen d v w hB h
  obtain ⟨a, c, rfl, k1⟩ := h.out
  clear h
  have Ch : Hid (d.ok = true → 0 ≤ d.chosen → ∃ b : Nat, d.chosen = b ∧ b < d.flows.length ∧ d.waits b = true) := fun hk h0 => by
    obtain ⟨b, e, h1, h2, _⟩ := Fs.chosen_is hk h0
    exact ⟨b, e, h1, h2⟩
  have Hbad : Hid (d.ok = false → d.served = ⟨0, []⟩ ∧ d.servedI = -1 ∧ d.servedN = 0) := fun hk => by
    unfold Fs.served Fs.servedI Fs.servedN Fs.can
    rw [hk]
    exact ⟨rfl, rfl, rfl⟩
  have Hno : Hid (d.ok = true → (d.chosen < 0 ∨ ¬ d.endOf d.chosen.toNat ≤ 1125899906842624) → d.served = d ∧ d.servedI = -1 ∧ d.servedN = 0) := fun hk hn => by
    have hc : d.can = false := by
      unfold Fs.can
      rw [hk, Bool.true_and, Bool.and_eq_false_iff]
      rcases hn with hn | hn
      · left; exact decide_eq_false (by omega)
      · right; exact decide_eq_false hn
    unfold Fs.served Fs.servedI Fs.servedN
    rw [hk, hc]
    exact ⟨rfl, rfl, rfl⟩
  have Hyes : Hid (d.ok = true → 0 ≤ d.chosen → d.endOf d.chosen.toNat ≤ 1125899906842624 → d.served = d.serve d.chosen.toNat ∧ d.servedI = d.chosen ∧ d.servedN = szAt (fwAt d.flows d.chosen.toNat).sizes 0) := fun hk h0 h1 => by
    have hc : d.can = true := by
      unfold Fs.can
      rw [hk, decide_eq_true h0, decide_eq_true h1]
      rfl
    unfold Fs.served Fs.servedI Fs.servedN
    rw [hk, hc]
    exact ⟨rfl, rfl, rfl⟩
  have Hge : Hid (-1 ≤ d.chosen) := by
    show -1 ≤ d.chosen
    unfold Fs.chosen
    split
    · exact (d.best_in _).1
    · omega
  have A5 : Hid (d.ok = true → ∀ b : Nat, b < d.flows.length → d.waits b = true → ∀ a c w, FwsAt w a d.flows → Calls Try.prog 32 #[.agg #[.int .i64 d.now, .slice a d.flows.length c], .int .i64 (b : Int)] w fun e w' => (∃ v', e = .returned (.tuple #[v', .bool (decide (d.endOf b ≤ 1125899906842624))]) ∧ FsIn w.heap.size w'.heap.size w' v' (if d.endOf b ≤ 1125899906842624 then d.serve b else d)) ∧ Below w.heap.size w w') := fun hk b h1 h2 a c w h3 => implServedOf d a c b w hB hk h1 h2 h3
  have Hf : Hid (d.ok = true → ∀ b, d.waits b = true → 0 < (fwAt d.flows b).sizes.length ∧ (fwAt d.flows b).sizes.length ≤ 1048576) := fun hk b hb => by
    have h0 : 0 < (fwAt d.flows b).sizes.length := of_decide_eq_true (show decide (0 < (fwAt d.flows b).sizes.length) = true from hb)
    refine ⟨h0, ?_⟩
    by_cases hbl : b < d.flows.length
    · have := (Fw.ok_iff.1 (Fs.ok_at hk hbl)).2.2.1; omega
    · have : fwAt d.flows b = ⟨0, 0, []⟩ := by unfold fwAt; rw [List.getElem?_eq_none (by omega)]; rfl
      rw [this] at h0
      simp at h0
  generalize d.served = R at Hbad Hno Hyes ⊢
  generalize d.servedI = RI at Hbad Hno Hyes ⊢
  generalize d.servedN = RN at Hbad Hno Hyes ⊢
  have A2 : ∀ a c w, FwsAt w a d.flows → Calls Try.prog 12 #[.agg #[.int .i64 d.now, .slice a d.flows.length c]] w fun e w' => e = .returned (.bool d.ok) ∧ Below w.heap.size w w' := fun a c w h => A1 _ w ⟨a, c, rfl, h⟩
  have A6 : ∀ a c w, FwsAt w a d.flows → Calls Try.prog 14 #[.agg #[.int .i64 d.now, .slice a d.flows.length c]] w fun e w' => e = .returned (.int .i64 d.chosen) ∧ Below w.heap.size w w' := fun a c w h => A4 _ w ⟨a, c, rfl, h⟩
  generalize d.chosen = ch at A6 Ch Hno Hyes Hge
  generalize d.ok = ok at A2 Ch Hbad Hno Hyes A5 Hf
  generalize d.serve = sv at Hyes A5
  generalize d.endOf = en at Hno Hyes A5
  generalize d.waits = wt at Ch A5 Hf
  clear A1 A4 hB
  obtain ⟨f, ls⟩ := d
  simp only [Fs.val] at A2 A3 A5 A6 Ch Hno Hyes Hf k1 ⊢
  have HK : Hid (FwsAt w a ls) := k1
  obtain ⟨n, hn⟩ : ∃ n, ls.length = n := ⟨_, rfl⟩
  have Hn : Hid (ls.length = n) := hn
  rw [hn] at A2 A3 A5 A6 Ch ⊢
  have A2' : Hid _ := A2
  have A3' : Hid _ := A3
  have A6' : Hid _ := A6
  clear A2 A3 A6 hn
  have X : Hid (Boxed ((w.alloc (.cells #[.int .i64 f, .slice a n c] 26)).alloc (.cells #[.int .i64 0, .slice none 0 0] 26)) w.heap.size #[.int .i64 f, .slice a n c] 26 ∧ Boxed ((w.alloc (.cells #[.int .i64 f, .slice a n c] 26)).alloc (.cells #[.int .i64 0, .slice none 0 0] 26)) (w.heap.size + 1) #[.int .i64 0, .slice none 0 0] 26 ∧ Below w.heap.size w ((w.alloc (.cells #[.int .i64 f, .slice a n c] 26)).alloc (.cells #[.int .i64 0, .slice none 0 0] 26))) := by
    refine ⟨(Boxed.new w _ _).more _, ?_, ((Below.refl _ _).alloc (Nat.le_refl _) _).alloc (by simp) _⟩
    have := Boxed.new (w.alloc (.cells #[.int .i64 f, .slice a n c] 26)) #[.int .i64 0, .slice none 0 0] 26
    simpa using this
  clear k1
  go_enter Try.func9, Try.ntmps9
  go_wp2_with (refine wpList_load_row rfl 26 (.tmp 1) rfl w.heap.size rfl _ _ _ _ X.out.1 Try.underlying26 rfl (by kernel_rfl) ?_)
  refine (A2'.out _ _ _ (HK.out.below X.out.2.2)).mono ?_
  rintro e w1 ⟨rfl, q⟩
  have X1 : Hid (Boxed w1 w.heap.size #[.int .i64 f, .slice a n c] 26 ∧ Boxed w1 (w.heap.size + 1) #[.int .i64 0, .slice none 0 0] 26 ∧ Below w.heap.size w w1) := ⟨X.out.1.below X.out.1.under q, X.out.2.1.below X.out.2.1.under q, X.out.2.2.trans (q.mono X.out.2.2.size)⟩
  clear q X A2'
  cases ok
  · obtain ⟨e1, e2, e3⟩ := Hbad.out (by first | exact trivial | exact rfl)
    subst e1 e2 e3
    go_wp2_with (refine wpList_store_row rfl 26 (.tmp 2) (.tmp 11) rfl (w.heap.size + 1) #[.int .i64 0, .slice none 0 0] rfl rfl _ _ X1.out.2.1 (by kernel_rfl) rfl (by simp [Value.oneCell']) ?_)
    exact bodyPost_ret (results_row_two Try.results9 _ _ (w.heap.size + 1) _ _ _ _ (.int .i64 (-1)) (.int .i64 0) rfl rfl rfl (setRow_heap _ (w.heap.size + 1) _ _ _ _ X1.out.2.1) Try.underlying26 rfl (by kernel_rfl)) rfl ⟨⟨_, rfl, fsIn_zero _ _ _⟩, below_setRow X1.out.2.2 (by omega) _⟩
  go_upto_region 3 with fail
  go_wp2_with (refine wpList_load_row rfl 26 (.tmp 1) rfl w.heap.size rfl _ _ _ _ X1.out.1 Try.underlying26 rfl (by kernel_rfl) ?_)
  refine (A6'.out _ _ _ (HK.out.below X1.out.2.2)).mono ?_
  rintro e w2 ⟨rfl, q⟩
  have X2 : Hid (Boxed w2 w.heap.size #[.int .i64 f, .slice a n c] 26 ∧ Boxed w2 (w.heap.size + 1) #[.int .i64 0, .slice none 0 0] 26 ∧ Below w.heap.size w w2) := ⟨X1.out.1.below X1.out.1.under q, X1.out.2.1.below X1.out.2.1.under q, X1.out.2.2.trans (q.mono X1.out.2.2.size)⟩
  clear q X1 A6'
  have hge := Hge.out
  clear Hge
  have fin : Hid (∀ (z : Fs) (v : Value) (x x' : World), FsIn w2.heap.size x.heap.size x v z → w2.heap.size ≤ x.heap.size → x.heap.size ≤ x'.heap.size → (∀ k, k ≠ w.heap.size + 1 → k < x.heap.size → x'.heap[k]? = x.heap[k]?) → FsIn w.heap.size x'.heap.size x' v z) := fun z v x x' h1 h2 h3 h4 => by
    have hs := X2.out.2.1.under
    exact (h1.keep h3 fun k k1 k2 => h4 k (by omega) k2).wide (by have := X2.out.2.2.size; omega) h3 (Nat.le_refl _)
  by_cases hc : ch = -1
  · obtain ⟨e1, e2, e3⟩ := Hno.out (by first | exact trivial | exact rfl) (.inl (by omega))
    subst e1 e2 e3
    subst hc
    clear A5 Hno Hyes Hf Ch Hbad
    go_upto_region 5 with fail
    go_wp2_with (refine wpList_load_row rfl 26 (.tmp 1) rfl w.heap.size rfl _ _ _ _ X2.out.1 Try.underlying26 rfl (by kernel_rfl) ?_)
    refine (A3'.out a c w2 (HK.out.below X2.out.2.2)).mono ?_
    rintro e w3 ⟨⟨vv, rs, rfl, hG⟩, q⟩
    obtain ⟨vx, vc, ev⟩ := fwrows_shape hG.outer
    rw [Hn.out] at ev
    subst ev
    have S3 : Hid (SvX w f a n c w2.heap.size w2.heap.size w3 ∧ FwG w2.heap.size (.slice vx n vc) rs ls w3) := ⟨⟨X2.out.1.below X2.out.1.under q, X2.out.2.1.below X2.out.2.1.under q, X2.out.2.2.trans (q.mono X2.out.2.2.size), X2.out.2.1.under, X2.out.2.1.under⟩, hG.base_mono (by omega)⟩
    clear q hG
    go_wp2_with (refine wpList_store_row rfl 26 (.tmp 2) (.tmp 17) rfl (w.heap.size + 1) #[.int .i64 f, .slice vx n vc] rfl rfl _ _ S3.out.1.res (by kernel_rfl) rfl (by simp [Value.oneCell']) ?_)
    exact bodyPost_ret (results_row_two Try.results9 _ _ (w.heap.size + 1) _ _ _ _ (.int .i64 (-1)) (.int .i64 0) rfl rfl rfl (setRow_heap _ (w.heap.size + 1) _ _ _ _ S3.out.1.res) Try.underlying26 rfl (by kernel_rfl)) rfl ⟨⟨_, rfl, S3.out.1.fin (z := ⟨f, ls⟩) S3.out.2 (fun k hk => setRow_other _ _ _ _ hk)⟩, below_setRow S3.out.1.bel (by omega) _⟩
  obtain ⟨b, eb, hbn, hwb⟩ := Ch.out (by first | exact trivial | exact rfl) (by omega)
  subst eb
  rw [Int.toNat_natCast] at Hno Hyes
  have A5' : Hid _ := A5.out (by first | exact trivial | exact rfl) b hbn hwb
  obtain ⟨hf0, hf1⟩ := Hf.out (by first | exact trivial | exact rfl) b hwb
  have hcd : ((b : Int) == -1) = false := by simp
  have hb' : (b : Int) < (n : Int) := by omega
  have hbl : b < ls.length := by rw [Hn.out]; exact hbn
  clear A3' A5 Hf Ch hwb Hbad
  go_upto_region 6 with fail
  go_wp2_with (refine wpList_load_row rfl 26 (.tmp 1) rfl w.heap.size rfl _ _ _ _ X2.out.1 Try.underlying26 rfl (by kernel_rfl) ?_)
  refine (A5'.out a c w2 (HK.out.below X2.out.2.2)).mono ?_
  rintro e w3 ⟨⟨v3, rfl, f3⟩, q⟩
  obtain ⟨a3, c3, rfl, -⟩ := f3.at
  simp only [Fs.val] at f3 ⊢
  generalize hdl : decide (en b ≤ 1125899906842624) = dl at *
  generalize hD : (if en b ≤ 1125899906842624 then sv b else (⟨f, ls⟩ : Fs)) = D at *
  obtain ⟨df, dls⟩ := D
  generalize hdn : dls.length = dn at *
  have X3 : Hid (Boxed w3 w.heap.size #[.int .i64 f, .slice a n c] 26 ∧ Boxed w3 (w.heap.size + 1) #[.int .i64 0, .slice none 0 0] 26 ∧ Below w.heap.size w w3 ∧ FsIn w2.heap.size w3.heap.size w3 (.agg #[.int .i64 df, .slice a3 dn c3]) ⟨df, dls⟩ ∧ w2.heap.size ≤ w3.heap.size) := ⟨X2.out.1.below X2.out.1.under q, X2.out.2.1.below X2.out.2.1.under q, X2.out.2.2.trans (q.mono X2.out.2.2.size), by first | exact f3 | (rw [← hdn]; exact f3), q.size⟩
  have HD : Hid ((if en b ≤ 1125899906842624 then sv b else (⟨f, ls⟩ : Fs)) = ⟨df, dls⟩) := hD
  have Hdl : Hid (decide (en b ≤ 1125899906842624) = dl) := hdl
  clear f3 q A5' hD hdl hdn
  have N : Hid (Boxed (w3.alloc (.cells #[.int .i64 0, .slice none 0 0] 26)) w3.heap.size #[.int .i64 0, .slice none 0 0] 26) := Boxed.new _ _ _
  have b4 : Hid (Below w3.heap.size w3 ((w3.alloc (.cells #[.int .i64 0, .slice none 0 0] 26)).setRow w3.heap.size #[.int .i64 df, .slice a3 dn c3])) := below_setRow ((Below.refl _ _).alloc (Nat.le_refl _) _) (Nat.le_refl _) _
  have X4 : Hid (Boxed ((w3.alloc (.cells #[.int .i64 0, .slice none 0 0] 26)).setRow w3.heap.size #[.int .i64 df, .slice a3 dn c3]) w3.heap.size #[.int .i64 df, .slice a3 dn c3] 26) := setRow_heap _ _ _ _ _ _ N.out
  go_upto_region 7 with (refine wpList_store_row rfl 26 (.tmp 6) (.tmp 22) rfl w3.heap.size #[.int .i64 df, .slice a3 dn c3] rfl rfl _ _ N.out (by kernel_rfl) rfl (by simp [Value.oneCell']) ?_)
  have Y : Hid (Boxed ((w3.alloc (.cells #[.int .i64 0, .slice none 0 0] 26)).setRow w3.heap.size #[.int .i64 df, .slice a3 dn c3]) w.heap.size #[.int .i64 f, .slice a n c] 26 ∧ Boxed ((w3.alloc (.cells #[.int .i64 0, .slice none 0 0] 26)).setRow w3.heap.size #[.int .i64 df, .slice a3 dn c3]) (w.heap.size + 1) #[.int .i64 0, .slice none 0 0] 26 ∧ Below w.heap.size w ((w3.alloc (.cells #[.int .i64 0, .slice none 0 0] 26)).setRow w3.heap.size #[.int .i64 df, .slice a3 dn c3]) ∧ FsIn w2.heap.size w3.heap.size ((w3.alloc (.cells #[.int .i64 0, .slice none 0 0] 26)).setRow w3.heap.size #[.int .i64 df, .slice a3 dn c3]) (.agg #[.int .i64 df, .slice a3 dn c3]) ⟨df, dls⟩ ∧ w2.heap.size ≤ w3.heap.size) := ⟨X3.out.1.below X3.out.1.under b4.out, X3.out.2.1.below X3.out.2.1.under b4.out, X3.out.2.2.1.trans (b4.out.mono X3.out.2.2.1.size), X3.out.2.2.2.1.keep b4.out.size (fun k _ k2 => b4.out.block k k2), X3.out.2.2.2.2⟩
  have hw4 : Hid (w3.heap.size ≤ ((w3.alloc (.cells #[.int .i64 0, .slice none 0 0] 26)).setRow w3.heap.size #[.int .i64 df, .slice a3 dn c3]).heap.size ∧ w.heap.size + 1 < w3.heap.size) := ⟨b4.out.size, X3.out.2.1.under⟩
  try simp only [Act.put]
  generalize (w3.alloc (.cells #[.int .i64 0, .slice none 0 0] 26)).setRow w3.heap.size #[.int .i64 df, .slice a3 dn c3] = w4 at X4 Y hw4 ⊢
  generalize w3.heap.size = B at X4 Y hw4 ⊢
  clear b4 N X3
  have Fin : Hid (∀ x' : World, w4.heap.size ≤ x'.heap.size → (∀ k, k ≠ w.heap.size + 1 → k < w4.heap.size → x'.heap[k]? = w4.heap[k]?) → FsIn w.heap.size x'.heap.size x' (.agg #[.int .i64 df, .slice a3 dn c3]) ⟨df, dls⟩) := fun x' h1 h2 => by
    have h0 := Y.out.2.2.2.1.wide (Nat.le_refl _) hw4.out.1 (Nat.le_refl _)
    exact fin.out _ _ w4 x' h0 (Nat.le_trans Y.out.2.2.2.2 hw4.out.1) h1 h2
  by_cases hz : en b ≤ 1125899906842624
  case neg =>
    obtain ⟨e1, e2, e3⟩ := Hno.out (by first | exact trivial | exact rfl) (.inr (by first | exact hz | omega))
    have e4 := HD.out
    have e5 := Hdl.out
    rw [if_neg hz] at e4
    rw [decide_eq_false hz] at e5
    have HR : Hid (R = ⟨df, dls⟩) := by rw [e1]; exact e4
    subst e2 e3 e5
    clear e1 e4 Hno Hyes HD Hdl hz
    go_upto_region 8 with fail
    go_wp2_with (first | (refine wpList_load_row rfl 26 (.tmp 6) rfl B rfl _ _ _ _ X4.out Try.underlying26 rfl (by kernel_rfl) ?_) | (refine wpList_store_row rfl 26 (.tmp 2) (.tmp 26) rfl (w.heap.size + 1) #[.int .i64 df, .slice a3 dn c3] rfl rfl _ _ Y.out.2.1 (by kernel_rfl) rfl (by simp [Value.oneCell']) ?_))
    exact bodyPost_ret (results_row_two Try.results9 _ _ (w.heap.size + 1) _ _ _ _ (.int .i64 (-1)) (.int .i64 0) rfl rfl rfl (setRow_heap _ (w.heap.size + 1) _ _ _ _ Y.out.2.1) Try.underlying26 rfl (by kernel_rfl)) rfl ⟨⟨_, rfl, by rw [HR.out]; exact Fin.out _ (by simp) (fun k hk _ => setRow_other _ _ _ _ hk)⟩, below_setRow Y.out.2.2.1 (by omega) _⟩
  obtain ⟨e1, e2, e3⟩ := Hyes.out (by first | exact trivial | exact rfl) (by omega) hz
  have e4 := HD.out
  have e5 := Hdl.out
  rw [if_pos hz] at e4
  rw [decide_eq_true hz] at e5
  have HR : Hid (R = ⟨df, dls⟩) := by rw [e1]; exact e4
  subst e2 e5
  have H3 : Hid (RN = szAt (fwAt ls b).sizes 0) := e3
  clear e1 e3 e4 Hno Hyes HD Hdl hz fin
  obtain ⟨b0, off, ak, ck, ha, hb0, ⟨k0, k1, k2⟩, hr, hcap, hnil⟩ := HK.out b hbl
  subst ha
  have Rd : Hid (∀ x, Below w.heap.size w x → x.cell? ⟨b0, off + b * 3, none⟩ = some (.int .i64 (fwAt ls b).weight) ∧ x.cell? ⟨b0, off + b * 3 + 1, none⟩ = some (.int .i64 (fwAt ls b).finish) ∧ x.cell? ⟨b0, off + b * 3 + 2, none⟩ = some (.slice ak (fwAt ls b).sizes.length ck) ∧ IntsAt x ak (fwAt ls b).sizes) := fun x g => ⟨by rw [g.cell (p := ⟨b0, off + b * 3, none⟩) hb0]; exact k0, by rw [g.cell (p := ⟨b0, off + b * 3 + 1, none⟩) hb0]; exact k1, by rw [g.cell (p := ⟨b0, off + b * 3 + 2, none⟩) hb0]; exact k2, hr.below g⟩
  have D := fun w => implPayerOf (fwAt ls b) ak ck w
  have FI := fun w h => implFirst ak ck (fwAt ls b).sizes w hf0 hf1 h
  generalize hQ : fwAt ls b = q at Rd D FI H3 hf0 hf1
  obtain ⟨t, uf, fl⟩ := q
  simp only [Fw.val, Fw.pay] at Rd D FI H3
  rw [← H3.out] at FI
  generalize fl.length = m at Rd D FI
  have D' : Hid _ := D
  have FI' : Hid _ := FI
  clear D FI hr hcap hnil k0 k1 k2 hQ hb0 hf0 hf1 H3
  have W4 : Hid (∀ x, Below w4.heap.size w4 x → Boxed x w.heap.size #[.int .i64 f, .slice (some ⟨b0, off, none⟩) n c] 26 ∧ Boxed x B #[.int .i64 df, .slice a3 dn c3] 26 ∧ Below w.heap.size w x ∧ Boxed x (w.heap.size + 1) #[.int .i64 0, .slice none 0 0] 26) := fun x g => ⟨Y.out.1.below Y.out.1.under g, X4.out.below X4.out.under g, Y.out.2.2.1.trans (g.mono Y.out.2.2.1.size), Y.out.2.1.below Y.out.2.1.under g⟩
  go_upto_region 9 with fail
  refine region_lists (G := Unit) (by kernel_rfl) (by kernel_rfl) (by kernel_rfl) (fun i => if i = 0 then 10 else if i = 1 then 11 else if i = 9 then 12 else 99) (fun (L : Nat → Bool) (_ : Unit) (x : World) => (L 10 = false → Below w4.heap.size w4 x) ∧ (L 10 = true → ∃ x0, Below w4.heap.size w4 x0 ∧ x0.heap.size ≤ x.heap.size ∧ Below w.heap.size w x ∧ (∀ k, k ≠ w.heap.size + 1 → k < x0.heap.size → x.heap[k]? = x0.heap[k]?) ∧ Boxed x (w.heap.size + 1) #[.int .i64 df, .slice a3 dn c3] 26)) (fun i (_ : Unit) x (_ : Unit) x' => True) (fun i y x u => ([fun _ _ u => u = .agg #[.int .i64 df, .slice a3 dn c3], fun _ _ u => u = .int .i64 (b : Int), fun _ _ u => u = .pointer (some ⟨w.heap.size, 1, none⟩), fun _ _ u => u = .slice (some ⟨b0, off, none⟩) n c, fun _ _ u => u = .int .i64 (b : Int), fun _ _ u => u = .pointer (some ⟨b0, off + b * 3, none⟩), fun _ _ u => u = .agg #[.int .i64 t, .int .i64 uf, .slice ak m ck], fun _ _ u => u = .agg #[.slice ak m ck, .int .i64 t, .int .i64 uf], fun _ _ u => u = .slice ak m ck, fun _ _ u => u = .int .i64 RN, fun _ _ _ => True, fun _ _ u => u = .int .i64 (b : Int), fun _ _ u => u = .int .i64 RN] : List (Unit → World → Value → Prop)).getD i (fun _ _ _ => True) y x u) ?hR () ?h0 ?step ?last
  case hR =>
    intro i j y y' x x' u hi hj hne hu h1 h2 hp hr
    have hi' : i < 13 := hi
    have hj' : j < 13 := hj
    have hcases : j = 0 ∨ j = 1 ∨ j = 2 ∨ j = 3 ∨ j = 4 ∨ j = 5 ∨ j = 6 ∨ j = 7 ∨ j = 8 ∨ j = 9 ∨ j = 10 ∨ j = 11 ∨ j = 12 := by omega
    rcases hcases with rfl | rfl | rfl | rfl | rfl | rfl | rfl | rfl | rfl | rfl | rfl | rfl | rfl
    · exact hp
    · exact hp
    · exact hp
    · exact hp
    · exact hp
    · exact hp
    · exact hp
    · exact hp
    · exact hp
    · exact hp
    · exact hp
    · exact hp
    · exact hp
  case h0 => exact ⟨fun _ => (Below.refl _ _).drew, fun h => by simp at h⟩
  case step =>
    intro i o hi ho L a' y x hLi hwt hre hkp hI hp
    have s1 : a'.tmps[1]?.getD undef = .pointer (some ⟨w.heap.size, 0, none⟩) := by have h2 : a'.tmps.getD 1 undef = .pointer (some ⟨w.heap.size, 0, none⟩) := hkp.slot 1 (by kernel_rfl); simpa using h2
    have s2 : a'.tmps[2]?.getD undef = .pointer (some ⟨w.heap.size + 1, 0, none⟩) := by have h2 : a'.tmps.getD 2 undef = .pointer (some ⟨w.heap.size + 1, 0, none⟩) := hkp.slot 2 (by kernel_rfl); simpa using h2
    have s5 : a'.tmps[5]?.getD undef = .int .i64 (b : Int) := by have h2 : a'.tmps.getD 5 undef = .int .i64 (b : Int) := hkp.slot 5 (by kernel_rfl); simpa using h2
    have s6 : a'.tmps[6]?.getD undef = .pointer (some ⟨B, 0, none⟩) := by have h2 : a'.tmps.getD 6 undef = .pointer (some ⟨B, 0, none⟩) := hkp.slot 6 (by kernel_rfl); simpa using h2
    have hi' : i < 13 := hi
    have hcases : i = 0 ∨ i = 1 ∨ i = 2 ∨ i = 3 ∨ i = 4 ∨ i = 5 ∨ i = 6 ∨ i = 7 ∨ i = 8 ∨ i = 9 ∨ i = 10 ∨ i = 11 ∨ i = 12 := by omega
    rcases hcases with rfl | rfl | rfl | rfl | rfl | rfl | rfl | rfl | rfl | rfl | rfl | rfl | rfl
    · cases ho
      have n10 := hre 10 (by decide +kernel)
      have hB := hI.1 n10
      obtain ⟨b1, b2, b3, b4⟩ := W4.out x hB
      exact ⟨wanted_none rfl, wp_load_row 26 (.tmp 6) rfl (B) (by simpa [Act.eval] using s6) _ _ _ _ b2 Try.underlying26 rfl (by kernel_rfl) ⟨_, y, rfl, trivial, ⟨fun h => hI.1 (by simpa using h), fun h => hI.2 (by simpa using h)⟩, fun u hu => hu (fun h => by cases h)⟩⟩
    · cases ho
      refine ⟨wanted_none rfl, Oper.wp_mono (K := fun a'' w'' => a'' = a'.put (some 28) (.int .i64 (b : Int)) ∧ w'' = x) ?_ ?_⟩
      · rintro _ _ ⟨rfl, rfl⟩
        exact ⟨_, y, rfl, trivial, ⟨fun h => hI.1 (by simpa using h), fun h => hI.2 (by simpa using h)⟩, fun u hu => hu (fun h => by cases h)⟩
      · unfold Oper.wp
        simp [go_sem, s5]
    · cases ho
      refine ⟨wanted_none rfl, Oper.wp_mono (K := fun a'' w'' => a'' = a'.put (some 29) (.pointer (some ⟨w.heap.size, 1, none⟩)) ∧ w'' = x) ?_ ?_⟩
      · rintro _ _ ⟨rfl, rfl⟩
        exact ⟨_, y, rfl, trivial, ⟨fun h => hI.1 (by simpa using h), fun h => hI.2 (by simpa using h)⟩, fun u hu => hu (fun h => by cases h)⟩
      · unfold Oper.wp
        simp [go_sem, s1]
    · cases ho
      have n10 := hre 10 (by decide +kernel)
      have hB := hI.1 n10
      obtain ⟨b1, b2, b3, b4⟩ := W4.out x hB
      have ca : x.cell? ⟨w.heap.size, 1, none⟩ = some (.slice (some ⟨b0, off, none⟩) n c) := b1.cell 1 rfl
      have q2 : a'.tmps[29]?.getD undef = .pointer (some ⟨w.heap.size, 1, none⟩) := by have h2 : a'.tmps.getD 29 undef = .pointer (some ⟨w.heap.size, 1, none⟩) := hp 2 (of_decide_eq_true (by kernel_rfl)) (.inr (by decide)); simpa using h2
      refine ⟨wanted_none rfl, Oper.wp_mono (K := fun a'' w'' => a'' = a'.put (some 30) (.slice (some ⟨b0, off, none⟩) n c) ∧ w'' = x) ?_ ?_⟩
      · rintro _ _ ⟨rfl, rfl⟩
        exact ⟨_, y, rfl, trivial, ⟨fun h => hI.1 (by simpa using h), fun h => hI.2 (by simpa using h)⟩, fun u hu => hu (fun h => by cases h)⟩
      · unfold Oper.wp
        simp [go_sem, q2, ca]
    · cases ho
      refine ⟨wanted_none rfl, Oper.wp_mono (K := fun a'' w'' => a'' = a'.put (some 31) (.int .i64 (b : Int)) ∧ w'' = x) ?_ ?_⟩
      · rintro _ _ ⟨rfl, rfl⟩
        exact ⟨_, y, rfl, trivial, ⟨fun h => hI.1 (by simpa using h), fun h => hI.2 (by simpa using h)⟩, fun u hu => hu (fun h => by cases h)⟩
      · unfold Oper.wp
        simp [go_sem, s5]
    · cases ho
      have q3 : a'.tmps[30]?.getD undef = .slice (some ⟨b0, off, none⟩) n c := by have h2 : a'.tmps.getD 30 undef = .slice (some ⟨b0, off, none⟩) n c := hp 3 (of_decide_eq_true (by kernel_rfl)) (.inr (by decide)); simpa using h2
      have q4 : a'.tmps[31]?.getD undef = .int .i64 (b : Int) := by have h2 : a'.tmps.getD 31 undef = .int .i64 (b : Int) := hp 4 (of_decide_eq_true (by kernel_rfl)) (.inr (by decide)); simpa using h2
      refine ⟨wanted_none rfl, Oper.wp_mono (K := fun a'' w'' => a'' = a'.put (some 32) (.pointer (some ⟨b0, off + b * 3, none⟩)) ∧ w'' = x) ?_ ?_⟩
      · rintro _ _ ⟨rfl, rfl⟩
        exact ⟨_, y, rfl, trivial, ⟨fun h => hI.1 (by simpa using h), fun h => hI.2 (by simpa using h)⟩, fun u hu => hu (fun h => by cases h)⟩
      · unfold Oper.wp
        simp [go_sem, q3, q4, hb']
    · cases ho
      have n10 := hre 10 (by decide +kernel)
      have hB := hI.1 n10
      obtain ⟨b1, b2, b3, b4⟩ := W4.out x hB
      obtain ⟨r0, r1, r2, -⟩ := Rd.out x b3
      have q5 : a'.tmps[32]?.getD undef = .pointer (some ⟨b0, off + b * 3, none⟩) := by have h2 : a'.tmps.getD 32 undef = .pointer (some ⟨b0, off + b * 3, none⟩) := hp 5 (of_decide_eq_true (by kernel_rfl)) (.inr (by decide)); simpa using h2
      refine ⟨wanted_none rfl, Oper.wp_mono (K := fun a'' w'' => a'' = a'.put (some 33) (.agg #[.int .i64 t, .int .i64 uf, .slice ak m ck]) ∧ w'' = x) ?_ ?_⟩
      · rintro _ _ ⟨rfl, rfl⟩
        exact ⟨_, y, rfl, trivial, ⟨fun h => hI.1 (by simpa using h), fun h => hI.2 (by simpa using h)⟩, fun u hu => hu (fun h => by cases h)⟩
      · unfold Oper.wp
        simp [go_sem, q5, r0, r1, r2]
    · cases ho
      have n10 := hre 10 (by decide +kernel)
      have hB := hI.1 n10
      obtain ⟨b1, b2, b3, b4⟩ := W4.out x hB
      have q6 : a'.tmps[33]?.getD undef = .agg #[.int .i64 t, .int .i64 uf, .slice ak m ck] := by have h2 : a'.tmps.getD 33 undef = .agg #[.int .i64 t, .int .i64 uf, .slice ak m ck] := hp 6 (of_decide_eq_true (by kernel_rfl)) (.inr (by decide)); simpa using h2
      refine ⟨wanted_none rfl, op_callR (f := 33) (args := #[.agg #[.int .i64 t, .int .i64 uf, .slice ak m ck]]) (by simp [execOp, resolve, Deferred.ofValue, invoke, Act.eval, q6]) (D'.out x) ?_⟩
      rintro e x1 ⟨rfl, q⟩
      exact ⟨_, rfl, _, (), rfl, trivial, ⟨fun _ => hB.trans (q.mono hB.size), fun h => absurd (show L 10 = true by simpa using h) (by rw [n10]; decide)⟩, fun u hu => hu (fun h => by cases h)⟩
    · cases ho
      have q7 : a'.tmps[34]?.getD undef = .agg #[.slice ak m ck, .int .i64 t, .int .i64 uf] := by have h2 : a'.tmps.getD 34 undef = .agg #[.slice ak m ck, .int .i64 t, .int .i64 uf] := hp 7 (of_decide_eq_true (by kernel_rfl)) (.inr (by decide)); simpa using h2
      refine ⟨wanted_none rfl, Oper.wp_mono (K := fun a'' w'' => a'' = a'.put (some 35) (.slice ak m ck) ∧ w'' = x) ?_ ?_⟩
      · rintro _ _ ⟨rfl, rfl⟩
        exact ⟨_, y, rfl, trivial, ⟨fun h => hI.1 (by simpa using h), fun h => hI.2 (by simpa using h)⟩, fun u hu => hu (fun h => by cases h)⟩
      · unfold Oper.wp
        simp [go_sem, q7, payRow]
    · cases ho
      have n10 := hre 10 (by decide +kernel)
      have hB := hI.1 n10
      obtain ⟨b1, b2, b3, b4⟩ := W4.out x hB
      have q8 : a'.tmps[35]?.getD undef = .slice ak m ck := by have h2 : a'.tmps.getD 35 undef = .slice ak m ck := hp 8 (of_decide_eq_true (by kernel_rfl)) (.inr (by decide)); simpa using h2
      refine ⟨wanted_none rfl, op_callR (f := 34) (args := #[.slice ak m ck]) (by simp [execOp, resolve, Deferred.ofValue, invoke, Act.eval, q8]) (FI'.out x (Rd.out x b3).2.2.2) ?_⟩
      rintro e x1 ⟨rfl, rfl⟩
      exact ⟨_, rfl, _, (), rfl, trivial, ⟨fun _ => hB, fun h => absurd (show L 10 = true by simpa using h) (by rw [n10]; decide)⟩, fun u hu => hu (fun h => by cases h)⟩
    · cases ho
      have hB := hI.1 hLi
      obtain ⟨b1, b2, b3, b4⟩ := W4.out x hB
      have e1 : a'.tmps.getD 27 undef = .agg #[.int .i64 df, .slice a3 dn c3] := hp 0 (of_decide_eq_true (by kernel_rfl)) (.inl rfl)
      exact ⟨wanted_none rfl, wp_store_row 26 (.tmp 2) (.tmp 27) rfl (w.heap.size + 1) #[.int .i64 df, .slice a3 dn c3] (by simpa [Act.eval] using s2) (by simpa [Act.eval] using e1) _ _ b4 (by kernel_rfl) rfl (by simp [Value.oneCell']) ⟨undef, (), rfl, trivial, ⟨fun h => by simp at h, fun _ => ⟨x, hB, by simp, below_setRow b3 (by omega) _, fun k hk _ => setRow_other _ _ _ _ hk, setRow_heap _ _ _ _ _ _ b4⟩⟩, fun _ _ => trivial⟩⟩
    · cases ho
      have e1 : a'.tmps.getD 28 undef = .int .i64 (b : Int) := hp 1 (of_decide_eq_true (by kernel_rfl)) (.inl rfl)
      refine ⟨wanted_none rfl, op_assignZ 28 rfl ?_⟩
      rw [e1]
      exact ⟨_, (), rfl, trivial, ⟨fun h => hI.1 (by simpa using h), fun h => hI.2 (by simpa using h)⟩, fun u hu => hu (fun h => by cases h)⟩
    · cases ho
      have e1 : a'.tmps.getD 36 undef = .int .i64 RN := hp 9 (of_decide_eq_true (by kernel_rfl)) (.inl rfl)
      refine ⟨wanted_none rfl, op_assignZ 36 rfl ?_⟩
      rw [e1]
      exact ⟨_, (), rfl, trivial, ⟨fun h => hI.1 (by simpa using h), fun h => hI.2 (by simpa using h)⟩, fun u hu => hu (fun h => by cases h)⟩
  case last =>
  intro L a' y x hall hkp hI hp
  have e3 : a'.tmps.getD 3 undef = .int .i64 (b : Int) := hp 11 (by decide) (by decide)
  have e4 : a'.tmps.getD 4 undef = .int .i64 RN := hp 12 (by decide) (by decide)
  obtain ⟨x0, z1, z2, z3, z4, z5⟩ := hI.2 (hall 10 (by decide))
  have Z : Hid (FsIn w.heap.size x.heap.size x (.agg #[.int .i64 df, .slice a3 dn c3]) ⟨df, dls⟩ ∧ Below w.heap.size w x ∧ Boxed x (w.heap.size + 1) #[.int .i64 df, .slice a3 dn c3] 26) := ⟨Fin.out x (Nat.le_trans z1.size z2) (fun k h1 h2 => (z4 k h1 (Nat.lt_of_lt_of_le h2 z1.size)).trans (z1.block k h2)), z3, z5⟩
  have ha := hkp.pick [true, true, true, false, false, true, true, true, true, true, true, true, true, true, true, true, true, true, true, true, true, true, true, true, true, true, true, false, false, false, false, false, false, false, false, false, false] (by kernel_rfl)
  simp only [pickS] at ha
  clear hp hkp hI hall z1 z2 z3 z4 z5 Fin W4 Rd D' FI' Y X4
  have E3 : Hid (a'.tmps.getD 3 undef = .int .i64 (b : Int)) := e3
  have E4 : Hid (a'.tmps.getD 4 undef = .int .i64 RN) := e4
  clear e3 e4
  generalize a'.tmps.getD 3 undef = y3 at ha E3
  generalize a'.tmps.getD 4 undef = y4 at ha E4
  generalize a'.tmps.getD 27 undef = y27 at ha
  generalize a'.tmps.getD 28 undef = y28 at ha
  generalize a'.tmps.getD 29 undef = y29 at ha
  generalize a'.tmps.getD 30 undef = y30 at ha
  generalize a'.tmps.getD 31 undef = y31 at ha
  generalize a'.tmps.getD 32 undef = y32 at ha
  generalize a'.tmps.getD 33 undef = y33 at ha
  generalize a'.tmps.getD 34 undef = y34 at ha
  generalize a'.tmps.getD 35 undef = y35 at ha
  generalize a'.tmps.getD 36 undef = y36 at ha
  have e3 : y3 = .int .i64 (b : Int) := E3.out
  have e4 : y4 = .int .i64 RN := E4.out
  subst e3 e4
  clear E3 E4
  rw [ha]
  clear ha
  go_wp2_with fail
  exact bodyPost_ret (results_row_two Try.results9 _ _ (w.heap.size + 1) _ _ _ _ _ _ rfl rfl rfl Z.out.2.2 Try.underlying26 rfl (by kernel_rfl)) rfl ⟨⟨_, rfl, by rw [HR.out]; exact Z.out.1⟩, Z.out.2.1⟩
end Go.Proofs.Ytllmkolchgmjoaa
