/-
  The walk of the model's Pushed. By the verifier.
-/
import Derived.Test.YtleokmnhhhhcjaaRwCopyS
import Derived.Test.YtleokmnhhhhcjaaRwHasS
import Derived.Test.YtleokmnhhhhcjaaRwPuPo
import Derived.BigQuiet
import Derived.Deep.DeepCutAuto
namespace Go.Proofs.Ytleokmnhhhhcjaa
open Go.RowKit

set_option maxHeartbeats 12800000 in
set_option maxRecDepth 100000 in
theorem specPushed (r : Rw) (v : Value) (row : Int) (i : It) (w : World) (hB : r.big ≤ 1048576) (h : Hid (RwAt w v r)) :
    Calls Try.prog 9 #[v, .int .i64 row, i.val] w fun e w' => (∃ v', e = .returned (.tuple #[v', .bool (r.pushedB row i)]) ∧ RwIn w.heap.size w'.heap.size w' v' (r.pushed row i)) ∧ Below w.heap.size w w' := by
  obtain ⟨a, c, rfl, k⟩ := h.out
  obtain ⟨hT, -, hin⟩ := Rw.small hB
  have A1 := fun w h => specRowsOk r a c w hB h
  have A2 := fun w h => specCopy r a c w hB h
  have A3 := fun w => (specItem i w).mono (R' := fun e w' => e = .returned (.bool i.ok) ∧ Below w.heap.size w w') fun _ _ h => ⟨h.1, by rw [h.2]; exact (Below.refl _ _).alloc (Nat.le_refl _) _⟩
  have A4 := fun w h => specHasR r a c i.id w hB h
  have A5 := fun w h => specCountL r a c w hB h
  have Hb : Hid (r.pushedB row i = (r.ok && r.mayPush row i)) := rfl
  have Hp : Hid (r.pushed row i = if r.ok = true then (if r.mayPush row i = true then ⟨r.most, r.lists.set row.toNat (izAt r.lists row.toNat ++ [i])⟩ else r) else ⟨0, []⟩) := rfl
  have Hm : Hid (r.mayPush row i = ((decide (0 ≤ row) && decide (row < r.lists.length)) && (i.ok && (!r.has i.id && !decide ((izSum r.lists r.lists.length : Int) = r.most))))) := rfl
  have Hin : Hid (∀ k, k < r.lists.length → (izAt r.lists k).length ≤ 1048576) := hin
  generalize r.pushedB row i = pb at Hb ⊢
  generalize r.pushed row i = pr at Hp ⊢
  generalize r.mayPush row i = mp at Hb Hp Hm
  generalize r.ok = ok at A1 Hb Hp
  generalize i.ok = iok at A3 Hm
  generalize r.has i.id = has at A4 Hm
  generalize (izSum r.lists r.lists.length : Int) = cnt at A5 Hm
  obtain ⟨f, ls⟩ := r
  simp only [Rw.val, It.val] at A1 A2 A3 A4 A5 Hp Hm Hin k hT ⊢
  obtain ⟨n, hn⟩ : ∃ n, ls.length = n := ⟨_, rfl⟩
  rw [hn] at A1 A2 A4 A5 Hm Hin hT ⊢
  have Hn : Hid (ls.length = n) := hn
  have A1' : Hid _ := A1
  have A2' : Hid _ := A2
  have A3' : Hid _ := A3
  have A4' : Hid _ := A4
  have A5' : Hid _ := A5
  have K : Hid (IzAt w a ls) := k
  clear A1 A2 A3 A4 A5 h k hB hin hn
  obtain ⟨W, hW⟩ : ∃ W, W = ((w.alloc (.cells #[.int .i64 f, .slice a n c] 26)).alloc (.cells #[.int .i64 i.id, .int .i64 i.size, .int .i64 i.tm] 28)).alloc (.cells #[.int .i64 0, .slice none 0 0] 26) := ⟨_, rfl⟩
  have X : Hid (IzAt W a ls ∧ Boxed W w.heap.size #[.int .i64 f, .slice a n c] 26 ∧ Boxed W (w.heap.size + 1) #[.int .i64 i.id, .int .i64 i.size, .int .i64 i.tm] 28 ∧ Boxed W (w.heap.size + 1 + 1) #[.int .i64 0, .slice none 0 0] 26 ∧ Below w.heap.size w W) := by
    rw [hW]
    refine ⟨((K.out.alloc _).alloc _).alloc _, ((Boxed.new w _ _).more _).more _, ?_, ?_, (((Below.refl _ _).alloc (Nat.le_refl _) _).alloc (by simp) _).alloc (by simp; omega) _⟩
    · have := (Boxed.new (w.alloc (.cells #[.int .i64 f, .slice a n c] 26)) #[.int .i64 i.id, .int .i64 i.size, .int .i64 i.tm] 28).more (.cells #[.int .i64 0, .slice none 0 0] 26)
      simpa using this
    · have := Boxed.new ((w.alloc (.cells #[.int .i64 f, .slice a n c] 26)).alloc (.cells #[.int .i64 i.id, .int .i64 i.size, .int .i64 i.tm] 28)) #[.int .i64 0, .slice none 0 0] 26
      simpa using this
  have HW : Hid (W = _) := hW
  clear hW
  go_enter Try.func9, Try.ntmps9
  go_wp2_with fail
  rw [← HW.out]
  refine (A1'.out _ X.out.1).mono ?_
  rintro e w1 ⟨rfl, q⟩
  have X1 : Hid (IzAt w1 a ls ∧ Boxed w1 w.heap.size #[.int .i64 f, .slice a n c] 26 ∧ Boxed w1 (w.heap.size + 1) #[.int .i64 i.id, .int .i64 i.size, .int .i64 i.tm] 28 ∧ Boxed w1 (w.heap.size + 1 + 1) #[.int .i64 0, .slice none 0 0] 26 ∧ Below w.heap.size w w1) :=
    ⟨X.out.1.below q, X.out.2.1.below X.out.2.1.under q, X.out.2.2.1.below X.out.2.2.1.under q, X.out.2.2.2.1.below X.out.2.2.2.1.under q, X.out.2.2.2.2.trans (q.mono X.out.2.2.2.2.size)⟩
  clear q X A1' HW
  cases ok
  · have e1 : pb = false := by rw [Hb.out]; rfl
    have e2 : pr = ⟨0, []⟩ := by rw [Hp.out]; rfl
    subst e1
    subst e2
    go_wp2_with (refine wpList_store_row rfl 26 (.tmp 6) (.tmp 12) rfl (w.heap.size + 1 + 1) #[.int .i64 0, .slice none 0 0] rfl rfl _ _ X1.out.2.2.2.1 (by kernel_rfl) rfl (by simp [Value.oneCell']) ?_)
    refine bodyPost_ret (results_row_tmp Try.results9 _ _ (w.heap.size + 1 + 1) _ #[.int .i64 0, .slice none 0 0] _ _ (.bool false) rfl rfl (setRow_heap w1 (w.heap.size + 1 + 1) _ _ _ _ X1.out.2.2.2.1) Try.underlying26 rfl (by kernel_rfl)) rfl ⟨⟨_, rfl, none, 0, rfl, izIn_nil _ _ _⟩, below_setRow X1.out.2.2.2.2 (by omega) _⟩
  have c0 : w1.cell? ⟨w.heap.size, 0, none⟩ = some (.int .i64 f) := X1.out.2.1.cell 0 rfl
  have c1 : w1.cell? ⟨w.heap.size, 1, none⟩ = some (.slice a n c) := X1.out.2.1.cell 1 rfl
  go_wp2_with fail
  refine (A2'.out _ X1.out.1).mono ?_
  rintro e w2 ⟨⟨v2, vs, rfl, g2⟩, q⟩
  obtain ⟨vx, vc, ev⟩ := rows_shape g2.outer
  rw [Hn.out] at ev
  subst ev
  have X2 : Hid (PuR w f a n c i w2.heap.size (w1.heap.size + 3) vx vc vs ls (w2.alloc (.cells #[.int .i64 f, .slice vx n vc] 26))) := by
    have s1 := X1.out.2.2.2.1.under
    have s2 := q.size
    refine ⟨(X1.out.2.1.below X1.out.2.1.under q).more _, (X1.out.2.2.1.below X1.out.2.2.1.under q).more _, (X1.out.2.2.2.1.below X1.out.2.2.2.1.under q).more _, Boxed.new _ _ _, g2.below ((Below.refl _ _).alloc (Nat.le_refl _) _), ?_, by omega, by omega⟩
    have b := X1.out.2.2.2.2.trans (q.mono X1.out.2.2.2.2.size)
    exact b.alloc b.size _
  clear q g2 X1 c0 c1 A2'
  go_upto_region 4 with fail
  generalize w2.alloc (.cells #[.int .i64 f, .slice vx n vc] 26) = w3 at X2 ⊢
  generalize w2.heap.size = B at X2 ⊢
  generalize w1.heap.size + 3 = G at X2
  have e1 : pb = mp := by rw [Hb.out]; rfl
  subst e1
  go_cut [41] (fun s wc => Hid (s = .bool (!pb) ∧ PuR w f a n c i B G vx vc vs ls wc))
  case first =>
    have Go : Hid (∀ wq, Below w3.heap.size w3 wq → PuR w f a n c i B G vx vc vs ls wq) := fun wq q => X2.out.below q
    haveI : Nonempty (BelW w3.heap.size w3) := ⟨⟨w3, Below.refl _ _⟩⟩
    have c0 : ∀ p : BelW w3.heap.size w3, p.w'.cell? ⟨w.heap.size, 0, none⟩ = some (.int .i64 f) := fun p => (Go.out _ p.h).box.cell 0 rfl
    have c1 : ∀ p : BelW w3.heap.size w3, p.w'.cell? ⟨w.heap.size, 1, none⟩ = some (.slice a n c) := fun p => (Go.out _ p.h).box.cell 1 rfl
    have d0 : ∀ p : BelW w3.heap.size w3, p.w'.cell? ⟨w.heap.size + 1, 0, none⟩ = some (.int .i64 i.id) := fun p => (Go.out _ p.h).item.cell 0 rfl
    have d1 : ∀ p : BelW w3.heap.size w3, p.w'.cell? ⟨w.heap.size + 1, 1, none⟩ = some (.int .i64 i.size) := fun p => (Go.out _ p.h).item.cell 1 rfl
    have d2 : ∀ p : BelW w3.heap.size w3, p.w'.cell? ⟨w.heap.size + 1, 2, none⟩ = some (.int .i64 i.tm) := fun p => (Go.out _ p.h).item.cell 2 rfl
    have At : Hid (∀ p : BelW w3.heap.size w3, IzAt p.w' a ls) := fun p => K.out.below (Go.out _ p.h).bel
    clear X2
    by_cases h0 : row < 0
    · have ep : pb = false := by rw [Hm.out, decide_eq_false (show ¬ 0 ≤ row by omega)]; rfl
      subst ep
      have h0' : decide (row < 0) = true := decide_eq_true h0
      go_wp2_with fail
      refine region_below w3.heap.size (by kernel_rfl) (by kernel_rfl) ?_
      repeat (go_big_quiet_step ((first | (go_at_call 33; refine quiet_below (Nat.le_refl _) (A3'.out _)) | (go_at_call 34; refine quiet_below (Nat.le_refl _) (A4'.out _ (At.out _))) | (go_at_call 35; refine quiet_below (Nat.le_refl _) (A5'.out _ (At.out _))))))
      refine wpQuiet_nil ?_
      intro wq hx
      have GQ : Hid (PuR w f a n c i B G vx vc vs ls wq) := Go.out _ (BelW.out hx)
      clear hx
      go_wp2_with fail
      go_meet
      exact ⟨rfl, GQ.out⟩
    have h0' : decide (row < 0) = false := decide_eq_false h0
    by_cases h1 : (n : Int) ≤ row
    · have ep : pb = false := by rw [Hm.out, decide_eq_false (show ¬ row < (n : Int) by omega), Bool.and_false]; rfl
      subst ep
      have h1' : decide ((n : Int) ≤ row) = true := decide_eq_true h1
      go_wp2_with fail
      refine region_below w3.heap.size (by kernel_rfl) (by kernel_rfl) ?_
      repeat (go_big_quiet_step ((first | (go_at_call 33; refine quiet_below (Nat.le_refl _) (A3'.out _)) | (go_at_call 34; refine quiet_below (Nat.le_refl _) (A4'.out _ (At.out _))) | (go_at_call 35; refine quiet_below (Nat.le_refl _) (A5'.out _ (At.out _))))))
      refine wpQuiet_nil ?_
      intro wq hx
      have GQ : Hid (PuR w f a n c i B G vx vc vs ls wq) := Go.out _ (BelW.out hx)
      clear hx
      go_wp2_with fail
      go_meet
      exact ⟨rfl, GQ.out⟩
    have h1' : decide ((n : Int) ≤ row) = false := decide_eq_false h1
    have eb : pb = (iok && (!has && !decide (cnt = f))) := by rw [Hm.out, decide_eq_true (show 0 ≤ row by omega), decide_eq_true (show row < (n : Int) by omega)]; rfl
    cases iok
    · have ep : pb = false := by rw [eb]; rfl
      subst ep
      clear eb
      go_wp2_with fail
      refine region_below w3.heap.size (by kernel_rfl) (by kernel_rfl) ?_
      repeat (go_big_quiet_step ((first | (go_at_call 33; refine quiet_below (Nat.le_refl _) (A3'.out _)) | (go_at_call 34; refine quiet_below (Nat.le_refl _) (A4'.out _ (At.out _))) | (go_at_call 35; refine quiet_below (Nat.le_refl _) (A5'.out _ (At.out _))))))
      refine wpQuiet_nil ?_
      intro wq hx
      have GQ : Hid (PuR w f a n c i B G vx vc vs ls wq) := Go.out _ (BelW.out hx)
      clear hx
      go_wp2_with fail
      go_meet
      exact ⟨rfl, GQ.out⟩
    cases has
    case true =>
      have ep : pb = false := by rw [eb]; rfl
      subst ep
      clear eb
      go_wp2_with fail
      refine region_below w3.heap.size (by kernel_rfl) (by kernel_rfl) ?_
      repeat (go_big_quiet_step ((first | (go_at_call 33; refine quiet_below (Nat.le_refl _) (A3'.out _)) | (go_at_call 34; refine quiet_below (Nat.le_refl _) (A4'.out _ (At.out _))) | (go_at_call 35; refine quiet_below (Nat.le_refl _) (A5'.out _ (At.out _))))))
      refine wpQuiet_nil ?_
      intro wq hx
      have GQ : Hid (PuR w f a n c i B G vx vc vs ls wq) := Go.out _ (BelW.out hx)
      clear hx
      go_wp2_with fail
      go_meet
      exact ⟨rfl, GQ.out⟩
    by_cases h2 : cnt = f
    · have ep : pb = false := by rw [eb, decide_eq_true h2]; rfl
      subst ep
      have h2 := h2.symm
      subst h2
      clear eb
      go_wp2_with fail
      refine region_below w3.heap.size (by kernel_rfl) (by kernel_rfl) ?_
      repeat (go_big_quiet_step ((first | (go_at_call 33; refine quiet_below (Nat.le_refl _) (A3'.out _)) | (go_at_call 34; refine quiet_below (Nat.le_refl _) (A4'.out _ (At.out _))) | (go_at_call 35; refine quiet_below (Nat.le_refl _) (A5'.out _ (At.out _))))))
      refine wpQuiet_nil ?_
      intro wq hx
      have GQ : Hid (PuR w f a n c i B G vx vc vs ls wq) := Go.out _ (BelW.out hx)
      clear hx
      go_wp2_with fail
      go_meet
      exact ⟨rfl, GQ.out⟩
    · have ep : pb = true := by rw [eb, decide_eq_false h2]; rfl
      subst ep
      have h2' : (cnt == f) = false := by simpa using h2
      clear eb
      go_wp2_with fail
      refine region_below w3.heap.size (by kernel_rfl) (by kernel_rfl) ?_
      repeat (go_big_quiet_step ((first | (go_at_call 33; refine quiet_below (Nat.le_refl _) (A3'.out _)) | (go_at_call 34; refine quiet_below (Nat.le_refl _) (A4'.out _ (At.out _))) | (go_at_call 35; refine quiet_below (Nat.le_refl _) (A5'.out _ (At.out _))))))
      refine wpQuiet_nil ?_
      intro wq hx
      have GQ : Hid (PuR w f a n c i B G vx vc vs ls wq) := Go.out _ (BelW.out hx)
      clear hx
      go_wp2_with fail
      go_meet
      exact ⟨rfl, GQ.out⟩
  case rest =>
  obtain ⟨rfl, hP⟩ := hcut.out
  have X3 : Hid (PuR w f a n c i B G vx vc vs ls wc) := hP
  clear hcut hP X2 A3' A4' A5'
  cases pb
  · have e2 : pr = ⟨f, ls⟩ := by rw [Hp.out]; rfl
    subst e2
    go_wp2_with (first | (refine wpList_load_row rfl 26 (.tmp 8) rfl B rfl _ _ _ _ X3.out.out Try.underlying26 rfl (by kernel_rfl) ?_) | (refine wpList_store_row rfl 26 (.tmp 6) (.tmp 42) rfl (w.heap.size + 1 + 1) _ rfl rfl _ _ X3.out.res (by kernel_rfl) rfl (by simp [Value.oneCell']) ?_))
    refine bodyPost_ret (results_row_tmp Try.results9 _ _ (w.heap.size + 1 + 1) _ #[.int .i64 f, .slice vx n vc] _ _ (.bool false) rfl rfl (setRow_heap wc (w.heap.size + 1 + 1) _ _ _ _ X3.out.res) Try.underlying26 rfl (by kernel_rfl)) rfl ⟨⟨_, rfl, (X3.out.done Hn.out).1⟩, (X3.out.done Hn.out).2⟩
  have hm := Hm.out
  have hrow : 0 ≤ row ∧ row < (n : Int) := by
    have := hm.symm
    simp only [Bool.and_eq_true, decide_eq_true_eq] at this
    exact this.1
  obtain ⟨j, rfl⟩ := Int.eq_ofNat_of_zero_le hrow.1
  have hjn : j < n := by omega
  have hjl : j < ls.length := by rw [Hn.out]; exact hjn
  have e2 : pr = ⟨f, ls.set j (izAt ls j ++ [i])⟩ := by rw [Hp.out]; simp
  subst e2
  clear hm Hm Hp Hb hrow
  obtain ⟨g, eg⟩ : ∃ g, vx = some ⟨g, 0, none⟩ := by
    rcases X3.out.g.outer.2 with ⟨e, e0⟩ | ⟨g, cap, cur, e, _⟩
    · rw [Hn.out] at e0; omega
    · cases e; exact ⟨g, rfl⟩
  subst eg
  have hin := Hin.out j hjn
  obtain ⟨ux, uc, eu⟩ := (X3.out.g.row j hjl).shape
  have hrow := X3.out.g.row j hjl
  have hg1 := World.ownsRow.lt X3.out.g.outer g rfl
  have hlo := X3.out.lo
  have hhi := X3.out.hi
  have hBs := X3.out.out.under
  have hcell : wc.cell? ⟨g, j, none⟩ = some (izV vs j) := by
    have hl := X3.out.g.len
    have h1 := X3.out.g.outer
    rw [Hn.out] at h1
    rw [h1.cellAt j (by omega)]
    unfold izV
    rw [List.getElem?_eq_getElem (by omega)]
    rfl
  have Set : Hid (∀ u w2, ItRow G w2 u (izAt ls j ++ [i]) → Below G wc w2 → (∀ k, (izV vs j).ownBlock ≠ some k → k < wc.heap.size → w2.heap[k]? = wc.heap[k]?) → (∀ k, u.ownBlock = some k → (izV vs j).ownBlock = some k ∨ wc.heap.size ≤ k) → PuR w f a n c i B G (some ⟨g, 0, none⟩) vc (vs.set j u) (ls.set j (izAt ls j ++ [i])) (w2.setCell ⟨g, j, none⟩ u)) := fun u w2 q1 q2 q3 q4 => by
    have oth : ∀ y, y ≠ g → (w2.setCell ⟨g, j, none⟩ u).heap[y]? = w2.heap[y]? := fun y hy => Below.heap_setCell _ _ _ _ hy
    have lowB : ∀ y, y < G → (w2.setCell ⟨g, j, none⟩ u).heap[y]? = wc.heap[y]? := fun y hy => (oth y (by omega)).trans (q2.block y hy)
    have hgB : g ≠ B := by
      intro e
      subst e
      have h1 := X3.out.out
      rcases X3.out.g.outer.2 with ⟨e, _⟩ | ⟨g', cap, cur, e, _, hg', _⟩
      · cases e
      · cases e
        unfold Boxed at h1
        rw [h1] at hg'
        simp only [Option.some.injEq, Obj.cells.injEq] at hg'
        exact absurd hg'.2.1 (by decide)
    have huB : (izV vs j).ownBlock ≠ some B := by
      intro e
      have h1 := X3.out.out
      rcases hrow.2 with ⟨e', _⟩ | ⟨g', cap, cur, e', _, hg', _⟩
      · rw [e'] at e; cases e
      · rw [e'] at e
        cases e
        unfold Boxed at h1
        simp only at h1
        rw [h1] at hg'
        simp only [Option.some.injEq, Obj.cells.injEq] at hg'
        exact absurd hg'.2.1 (by decide)
    have bel : Below w.heap.size w (w2.setCell ⟨g, j, none⟩ u) := (X3.out.bel.trans (q2.mono (by omega))).setCell (by show w.heap.size ≤ g; omega) _
    refine ⟨(lowB _ (by omega)).trans X3.out.box, (lowB _ (by omega)).trans X3.out.item, (lowB _ (by omega)).trans X3.out.res, ((oth _ (fun e => hgB e.symm)).trans (q3 B huB hBs)).trans X3.out.out, X3.out.g.set hjl q1 q3 q4 (g := g) (cap := vc) (by rw [Hn.out]), bel, hlo, hhi⟩
  have hcl := X3.out.out.cell 1 (v := .slice (some ⟨g, 0, none⟩) n vc) rfl
  have i0 : wc.cell? ⟨w.heap.size + 1, 0, none⟩ = some (.int .i64 i.id) := X3.out.item.cell 0 rfl
  have i1 : wc.cell? ⟨w.heap.size + 1, 1, none⟩ = some (.int .i64 i.size) := X3.out.item.cell 1 rfl
  have i2 : wc.cell? ⟨w.heap.size + 1, 2, none⟩ = some (.int .i64 i.tm) := X3.out.item.cell 2 rfl
  have hgl : g < wc.heap.size := hg1.2
  have hil : w.heap.size + 1 < wc.heap.size := by omega
  have Hrow : Hid (ItRow G wc (izV vs j) (izAt ls j)) := hrow
  have Hgne : Hid (∀ w2 : World, (∀ k, (izV vs j).ownBlock ≠ some k → k < wc.heap.size → w2.heap[k]? = wc.heap[k]?) → w2.heap[g]? = wc.heap[g]?) := fun w2 q => q g (fun e => rows_unlike X3.out.g.outer hrow izTypes g rfl e) hgl
  have HgB : Hid (∀ w2 : World, (∀ k, (izV vs j).ownBlock ≠ some k → k < wc.heap.size → w2.heap[k]? = wc.heap[k]?) → w2.heap[B]? = wc.heap[B]?) := fun w2 q => q B (fun e => by
    have h1 := X3.out.out
    rcases hrow.2 with ⟨e', _⟩ | ⟨g', cap, cur, e', _, hg', _⟩
    · rw [e'] at e; cases e
    · rw [e'] at e
      cases e
      unfold Boxed at h1
      simp only at h1
      rw [h1] at hg'
      simp only [Option.some.injEq, Obj.cells.injEq] at hg'
      exact absurd hg'.2.1 (by decide)) hBs
  have Hz : Hid (wc.frozen? ⟨g, j, none⟩ = false) := by
    have h1 := X3.out.g.outer
    rw [Hn.out] at h1
    exact h1.frozenAt j
  have hGs : Hid (G ≤ wc.heap.size) := by show G ≤ wc.heap.size; omega
  rw [eu] at hcell Hrow Set Hgne HgB
  obtain ⟨l, hl⟩ : ∃ l, izAt ls j = l := ⟨_, rfl⟩
  rw [hl] at hcell Hrow Set hin Hgne HgB
  have Hl : Hid (izAt ls j = l) := hl
  clear hl
  obtain ⟨m, hml⟩ : ∃ m, l.length = m := ⟨_, rfl⟩
  rw [hml] at hcell Hrow Set hin Hgne HgB
  have Hml : Hid (l.length = m) := hml
  have hBs' : B < wc.heap.size := hBs
  have hj0 : ¬ (j : Int) < 0 := by omega
  clear hrow eu hml hg1 hlo hhi hBs Hin
  go_wp2_with fail
  go_cut [] (fun wz => Hid (∃ u, PuR w f a n c i B G (some ⟨g, 0, none⟩) vc (vs.set j u) (ls.set j (l ++ [i])) wz))
  case first =>
    go_region_law (refine it_step_one (w := wc.drew) rfl (.tmp 50) (.tmp 52) rfl G (.slice ux m uc) l i rfl rfl Hrow.out rfl rfl (by rw [Hml.out]; exact hin) hGs.out ?_; intro u w2 q1 q2 q3 q4; obtain ⟨uy, ud, eu⟩ := q1.shape; rw [List.length_append, Hml.out] at eu; subst eu; have R : Hid _ := Set.out _ w2 q1 ((Below.refl _ wc).drew.trans q2) q3 q4; have e1 := Hgne.out w2 q3; have e2 := HgB.out w2 q3; have f1 : w2.cell? ⟨g, j, none⟩ = some (.slice ux m uc) := (by rw [cell_kept e1]; exact hcell); have f2 : w2.cell? ⟨B, 1, none⟩ = some (.slice (some ⟨g, 0, none⟩) n vc) := (by rw [cell_kept e2]; exact hcl); have f3 : w2.frozen? ⟨g, j, none⟩ = false := (by rw [ice_kept e1]; exact Hz.out); clear q1 q2 q3 q4 e1 e2)
    all_goals (go_wp2_with fail; go_meet; exact ⟨_, R.out⟩)
  case rest =>
  obtain ⟨u, hP⟩ := hcut.out
  have X4 : Hid (PuR w f a n c i B G (some ⟨g, 0, none⟩) vc (vs.set j u) (ls.set j (l ++ [i])) wc) := hP
  have hln : (ls.set j (l ++ [i])).length = n := by rw [List.length_set]; exact Hn.out
  have D := X4.out.done hln
  clear hcut hP hcell hcl i0 i1 i2
  go_wp2_with (first | (refine wpList_load_row rfl 26 (.tmp 8) rfl B rfl _ _ _ _ X4.out.out Try.underlying26 rfl (by kernel_rfl) ?_) | (refine wpList_store_row rfl 26 (.tmp 6) (.tmp 55) rfl (w.heap.size + 1 + 1) _ rfl rfl _ _ X4.out.res (by kernel_rfl) rfl (by simp [Value.oneCell']) ?_))
  refine bodyPost_ret (results_row_tmp Try.results9 _ _ (w.heap.size + 1 + 1) _ #[.int .i64 f, .slice (some ⟨g, 0, none⟩) n vc] _ _ (.bool true) rfl rfl (setRow_heap wc (w.heap.size + 1 + 1) _ _ _ _ X4.out.res) Try.underlying26 rfl (by kernel_rfl)) rfl ⟨⟨_, rfl, by rw [Hl.out]; exact D.1⟩, D.2⟩
end Go.Proofs.Ytleokmnhhhhcjaa
