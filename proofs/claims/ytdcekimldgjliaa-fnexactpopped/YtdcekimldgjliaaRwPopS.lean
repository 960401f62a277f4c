/-
  The walk of the model's Popped. By the verifier.
-/
import Derived.Test.YtdcekimldgjliaaRwCopyS
import Derived.Test.YtdcekimldgjliaaRwPuPo
import Derived.BigQuiet
import Derived.Deep.DeepCutAuto
namespace Go.Proofs.Ytdcekimldgjliaa
open Go.RowKit

set_option maxHeartbeats 12800000 in
set_option maxRecDepth 100000 in
theorem specPopped (r : Rw) (v : Value) (row : Int) (w : World) (hB : r.big ≤ 1048576) (h : Hid (RwAt w v r)) :
    Calls Try.prog 18 #[v, .int .i64 row] w fun e w' => (∃ v', e = .returned (.tuple #[v', (r.poppedI row).val, .bool (r.poppedB row)]) ∧ RwIn w.heap.size w'.heap.size w' v' (r.popped row)) ∧ Below w.heap.size w w' := by
  obtain ⟨a, c, rfl, k⟩ := h.out
  obtain ⟨hT, -, hin⟩ := Rw.small hB
  have A1 := fun w h => specRowsOk r a c w hB h
  have A2 := fun w h => specCopy r a c w hB h
  have Hb : Hid (r.poppedB row = (r.ok && r.mayPop row)) := rfl
  have Hi : Hid (r.poppedI row = if (r.ok && r.mayPop row) = true then itAt (izAt r.lists row.toNat) 0 else ⟨0, 0, 0⟩) := rfl
  have Hp : Hid (r.popped row = if r.ok = true then (if r.mayPop row = true then ⟨r.most, r.lists.set row.toNat ((izAt r.lists row.toNat).drop 1)⟩ else r) else ⟨0, []⟩) := rfl
  have Hm : Hid (r.mayPop row = ((decide (0 ≤ row) && decide (row < r.lists.length)) && !decide ((izAt r.lists row.toNat).length = 0))) := rfl
  have Hin : Hid (∀ k, k < r.lists.length → (izAt r.lists k).length ≤ 1048576) := hin
  generalize r.poppedB row = pb at Hb ⊢
  generalize r.poppedI row = pi at Hi ⊢
  generalize r.popped row = pr at Hp ⊢
  generalize r.mayPop row = mp at Hb Hi Hp Hm
  generalize r.ok = ok at A1 Hb Hi Hp
  obtain ⟨f, ls⟩ := r
  simp only [Rw.val] at A1 A2 Hi Hp Hm Hin k hT ⊢
  obtain ⟨n, hn⟩ : ∃ n, ls.length = n := ⟨_, rfl⟩
  rw [hn] at A1 A2 Hm Hin hT ⊢
  have Hn : Hid (ls.length = n) := hn
  have A1' : Hid _ := A1
  have A2' : Hid _ := A2
  have K : Hid (IzAt w a ls) := k
  clear A1 A2 h k hB hin hn
  obtain ⟨W, hW⟩ : ∃ W, W = ((w.alloc (.cells #[.int .i64 f, .slice a n c] 29)).alloc (.cells #[.int .i64 0, .slice none 0 0] 29)).alloc (.cells #[.int .i64 0, .int .i64 0, .int .i64 0] 37) := ⟨_, rfl⟩
  have X : Hid (IzAt W a ls ∧ Boxed W w.heap.size #[.int .i64 f, .slice a n c] 29 ∧ Boxed W (w.heap.size + 1) #[.int .i64 0, .slice none 0 0] 29 ∧ Boxed W (w.heap.size + 1 + 1) #[.int .i64 0, .int .i64 0, .int .i64 0] 37 ∧ Below w.heap.size w W) := by
    rw [hW]
    refine ⟨((K.out.alloc _).alloc _).alloc _, ((Boxed.new w _ _).more _).more _, ?_, ?_, (((Below.refl _ _).alloc (Nat.le_refl _) _).alloc (by simp) _).alloc (by simp; omega) _⟩
    · have := (Boxed.new (w.alloc (.cells #[.int .i64 f, .slice a n c] 29)) #[.int .i64 0, .slice none 0 0] 29).more (.cells #[.int .i64 0, .int .i64 0, .int .i64 0] 37)
      simpa using this
    · have := Boxed.new ((w.alloc (.cells #[.int .i64 f, .slice a n c] 29)).alloc (.cells #[.int .i64 0, .slice none 0 0] 29)) #[.int .i64 0, .int .i64 0, .int .i64 0] 37
      simpa using this
  have HW : Hid (W = _) := hW
  clear hW
  go_enter Try.func18, Try.ntmps18
  go_wp2_with fail
  rw [← HW.out]
  refine (A1'.out _ X.out.1).mono ?_
  rintro e w1 ⟨rfl, q⟩
  have X1 : Hid (IzAt w1 a ls ∧ Boxed w1 w.heap.size #[.int .i64 f, .slice a n c] 29 ∧ Boxed w1 (w.heap.size + 1) #[.int .i64 0, .slice none 0 0] 29 ∧ Boxed w1 (w.heap.size + 1 + 1) #[.int .i64 0, .int .i64 0, .int .i64 0] 37 ∧ Below w.heap.size w w1) :=
    ⟨X.out.1.below q, X.out.2.1.below X.out.2.1.under q, X.out.2.2.1.below X.out.2.2.1.under q, X.out.2.2.2.1.below X.out.2.2.2.1.under q, X.out.2.2.2.2.trans (q.mono X.out.2.2.2.2.size)⟩
  clear q X A1' HW
  cases ok
  · have e1 : pb = false := by rw [Hb.out]; rfl
    have e2 : pr = ⟨0, []⟩ := by rw [Hp.out]; rfl
    have e3 : pi = ⟨0, 0, 0⟩ := by rw [Hi.out]; rfl
    subst e1
    subst e2
    subst e3
    have r2 : Boxed (w1.setRow (w.heap.size + 1) #[.int .i64 0, .slice none 0 0]) (w.heap.size + 1 + 1) #[.int .i64 0, .int .i64 0, .int .i64 0] 37 := (setRow_other _ _ _ _ (by omega)).trans X1.out.2.2.2.1
    go_wp2_with (first | (refine wpList_store_row rfl 29 (.tmp 4) (.tmp 11) rfl (w.heap.size + 1) #[.int .i64 0, .slice none 0 0] rfl rfl _ _ X1.out.2.2.1 (by kernel_rfl) rfl (by simp [Value.oneCell']) ?_) | (refine wpList_store_row rfl 37 (.tmp 5) (.tmp 12) rfl (w.heap.size + 1 + 1) #[.int .i64 0, .int .i64 0, .int .i64 0] rfl rfl _ _ r2 (by kernel_rfl) rfl (by simp [Value.oneCell']) ?_))
    refine bodyPost_ret (results_two_tmp Try.results18 _ _ (w.heap.size + 1) (w.heap.size + 1 + 1) _ _ #[.int .i64 0, .slice none 0 0] #[.int .i64 0, .int .i64 0, .int .i64 0] _ _ _ _ (.bool false) rfl rfl rfl ((setRow_other _ _ _ _ (by omega)).trans (setRow_heap w1 (w.heap.size + 1) _ _ _ _ X1.out.2.2.1)) (setRow_heap _ (w.heap.size + 1 + 1) _ _ _ _ r2) Try.underlying29 rfl (by kernel_rfl) Try.underlying37 rfl (by kernel_rfl)) rfl ⟨⟨_, rfl, none, 0, rfl, izIn_nil _ _ _⟩, below_setRow (below_setRow X1.out.2.2.2.2 (by omega) _) (by omega) _⟩
  have c0 : w1.cell? ⟨w.heap.size, 0, none⟩ = some (.int .i64 f) := X1.out.2.1.cell 0 rfl
  have c1 : w1.cell? ⟨w.heap.size, 1, none⟩ = some (.slice a n c) := X1.out.2.1.cell 1 rfl
  go_wp2_with fail
  refine (A2'.out _ X1.out.1).mono ?_
  rintro e w2 ⟨⟨v2, vs, rfl, g2⟩, q⟩
  obtain ⟨vx, vc, ev⟩ := rows_shape g2.outer
  rw [Hn.out] at ev
  subst ev
  have X2 : Hid (PoR w f a n c w2.heap.size (w1.heap.size + 3) vx vc vs ls (w2.alloc (.cells #[.int .i64 f, .slice vx n vc] 29))) := by
    have s1 := X1.out.2.2.2.1.under
    have s2 := q.size
    refine ⟨(X1.out.2.1.below X1.out.2.1.under q).more _, (X1.out.2.2.1.below X1.out.2.2.1.under q).more _, (X1.out.2.2.2.1.below X1.out.2.2.2.1.under q).more _, Boxed.new _ _ _, g2.below ((Below.refl _ _).alloc (Nat.le_refl _) _), ?_, by omega, by omega⟩
    have b := X1.out.2.2.2.2.trans (q.mono X1.out.2.2.2.2.size)
    exact b.alloc b.size _
  clear q g2 X1 c0 c1 A2'
  go_upto_region 4 with fail
  generalize w2.alloc (.cells #[.int .i64 f, .slice vx n vc] 29) = w3 at X2 ⊢
  generalize w2.heap.size = B at X2 ⊢
  generalize w1.heap.size + 3 = G at X2
  have e1 : pb = mp := by rw [Hb.out]; rfl
  subst e1
  have K3 : Hid (IzAt w3 a ls) := K.out.below X2.out.bel
  have c1 : w3.cell? ⟨w.heap.size, 1, none⟩ = some (.slice a n c) := X2.out.box.cell 1 rfl
  go_cut [32] (fun s wc => Hid (s = .bool (!pb) ∧ wc = w3))
  case first =>
    by_cases h0 : row < 0
    · have ep : pb = false := by rw [Hm.out, decide_eq_false (show ¬ 0 ≤ row by omega)]; rfl
      subst ep
      go_wp2_with fail
      go_meet
      exact ⟨rfl, rfl⟩
    by_cases h1 : (n : Int) ≤ row
    · have ep : pb = false := by rw [Hm.out, decide_eq_false (show ¬ row < (n : Int) by omega), Bool.and_false]; rfl
      subst ep
      go_wp2_with fail
      go_meet
      exact ⟨rfl, rfl⟩
    obtain ⟨j, rfl⟩ := Int.eq_ofNat_of_zero_le (show 0 ≤ row by omega)
    have hjn : j < n := by omega
    have hjl : j < ls.length := by rw [Hn.out]; exact hjn
    have h0' : ¬ (j : Int) < 0 := h0
    have h1' : ¬ (n : Int) ≤ (j : Int) := h1
    have hj2 : (j : Int).toNat = j := by simp
    rw [hj2] at Hm
    obtain ⟨b, off, ak, ck, ha, hb, hc, -⟩ := K3.out j hjl
    subst ha
    have eb : pb = !decide ((izAt ls j).length = 0) := by rw [Hm.out, decide_eq_true (show (0 : Int) ≤ j by omega), decide_eq_true (show (j : Int) < (n : Int) by omega)]; rfl
    have Eb : Hid _ := eb
    clear hj2 eb
    generalize (izAt ls j).length = m at hc Eb
    by_cases hz : m = 0
    · have ep : pb = false := by rw [Eb.out, decide_eq_true hz]; rfl
      subst ep
      subst hz
      go_wp2_with fail
      go_meet
      exact ⟨rfl, rfl⟩
    · have ep : pb = true := by rw [Eb.out, decide_eq_false hz]; rfl
      subst ep
      have hz' : ¬ (m : Int) = 0 := by omega
      go_wp2_with fail
      go_meet
      exact ⟨by first | rfl | simp [hz], rfl⟩
  case rest =>
  obtain ⟨rfl, hw⟩ := hcut.out
  have hw := hw.symm
  subst hw
  clear hcut
  cases pb
  · have e2 : pr = ⟨f, ls⟩ := by rw [Hp.out]; rfl
    have e3 : pi = ⟨0, 0, 0⟩ := by rw [Hi.out]; rfl
    subst e2
    subst e3
    have r2 : Boxed (w3.setRow (w.heap.size + 1) #[.int .i64 f, .slice vx n vc]) (w.heap.size + 1 + 1) #[.int .i64 0, .int .i64 0, .int .i64 0] 37 := (setRow_other _ _ _ _ (by omega)).trans X2.out.item
    have D := X2.out.done Hn.out (wz := (w3.setRow (w.heap.size + 1) #[.int .i64 f, .slice vx n vc]).setRow (w.heap.size + 1 + 1) #[.int .i64 0, .int .i64 0, .int .i64 0]) (fun k h1 h2 => two_rows k h1 h2) (below_setRow (below_setRow (Below.refl _ _) (by omega) _) (by omega) _)
    go_wp2_with (first | (refine wpList_load_row rfl 29 (.tmp 7) rfl B rfl _ _ _ _ X2.out.out Try.underlying29 rfl (by kernel_rfl) ?_) | (refine wpList_store_row rfl 29 (.tmp 4) (.tmp 33) rfl (w.heap.size + 1) _ rfl rfl _ _ X2.out.res (by kernel_rfl) rfl (by simp [Value.oneCell']) ?_) | (refine wpList_store_row rfl 37 (.tmp 5) (.tmp 34) rfl (w.heap.size + 1 + 1) #[.int .i64 0, .int .i64 0, .int .i64 0] rfl rfl _ _ r2 (by kernel_rfl) rfl (by simp [Value.oneCell']) ?_))
    exact bodyPost_ret (results_two_tmp Try.results18 _ _ (w.heap.size + 1) (w.heap.size + 1 + 1) _ _ #[.int .i64 f, .slice vx n vc] #[.int .i64 0, .int .i64 0, .int .i64 0] _ _ _ _ (.bool false) rfl rfl rfl ((setRow_other _ _ _ _ (by omega)).trans (setRow_heap w3 (w.heap.size + 1) _ _ _ _ X2.out.res)) (setRow_heap _ (w.heap.size + 1 + 1) _ _ _ _ r2) Try.underlying29 rfl (by kernel_rfl) Try.underlying37 rfl (by kernel_rfl)) rfl ⟨⟨_, rfl, D.1⟩, D.2⟩
  have hm := Hm.out
  have hrow : (0 ≤ row ∧ row < (n : Int)) ∧ ¬ (izAt ls row.toNat).length = 0 := by
    have := hm.symm
    simpa only [Bool.and_eq_true, decide_eq_true_eq, Bool.not_eq_true', decide_eq_false_iff_not] using this
  obtain ⟨j, rfl⟩ := Int.eq_ofNat_of_zero_le hrow.1.1
  have hj2 : (j : Int).toNat = j := by simp
  rw [hj2] at Hi Hp hrow
  have hjn : j < n := by omega
  have hjl : j < ls.length := by rw [Hn.out]; exact hjn
  have h0' : ¬ (j : Int) < 0 := by omega
  have e2 : pr = ⟨f, ls.set j ((izAt ls j).drop 1)⟩ := by rw [Hp.out]; rfl
  have e3 : pi = itAt (izAt ls j) 0 := by rw [Hi.out]; rfl
  have hz := hrow.2
  subst e2
  subst e3
  clear hm Hm Hp Hi Hb hrow hj2
  obtain ⟨g, eg⟩ : ∃ g, vx = some ⟨g, 0, none⟩ := by
    rcases X2.out.g.outer.2 with ⟨e, e0⟩ | ⟨g, cap, cur, e, _⟩
    · rw [Hn.out] at e0; omega
    · cases e; exact ⟨g, rfl⟩
  subst eg
  have hin := Hin.out j hjn
  have hg1 := World.ownsRow.lt X2.out.g.outer g rfl
  have hlo := X2.out.lo
  have hhi := X2.out.hi
  have hBs := X2.out.out.under
  have hout : w3.ownsRow G 50 1 (.slice (some ⟨g, 0, none⟩) n vc) n vs := by
    have h1 := X2.out.g.outer
    rw [Hn.out] at h1
    exact h1
  have hcell : w3.cell? ⟨g, j, none⟩ = some (izV vs j) := by
    have hl := X2.out.g.len
    rw [hout.cellAt j (by omega)]
    unfold izV
    rw [List.getElem?_eq_getElem (by omega)]
    rfl
  have hice := hout.frozenAt j
  have hgB : g ≠ B := by
    intro e
    subst e
    have h1 := X2.out.out
    rcases X2.out.g.outer.2 with ⟨e, _⟩ | ⟨g', cap, cur, e, _, hg', _⟩
    · cases e
    · cases e
      unfold Boxed at h1
      rw [h1] at hg'
      simp only [Option.some.injEq, Obj.cells.injEq] at hg'
      exact absurd hg'.2.1 (by decide)
  have Set : Hid (∀ u w2, ItRow w3.heap.size w2 u ((izAt ls j).drop 1) → Below w3.heap.size w3 w2 → PoR w f a n c B G (some ⟨g, 0, none⟩) vc (vs.set j u) (ls.set j ((izAt ls j).drop 1)) (w2.setCell ⟨g, j, none⟩ u)) := fun u w2 q1 q2 => by
    have oth : ∀ y, y ≠ g → y < w3.heap.size → (w2.setCell ⟨g, j, none⟩ u).heap[y]? = w3.heap[y]? := fun y hy hl => (Below.heap_setCell _ _ _ _ hy).trans (q2.block y hl)
    have bel : Below w.heap.size w (w2.setCell ⟨g, j, none⟩ u) := (X2.out.bel.trans (q2.mono (by omega))).setCell (by show w.heap.size ≤ g; omega) _
    refine ⟨(oth _ (by omega) (by omega)).trans X2.out.box, (oth _ (by omega) (by omega)).trans X2.out.res, (oth _ (by omega) (by omega)).trans X2.out.item, (oth _ (fun e => hgB e.symm) hBs).trans X2.out.out, ?_, bel, hlo, hhi⟩
    exact X2.out.g.set hjl (q1.mono (by omega)) (fun k _ hk => q2.block k hk) (fun k hk => .inr (q1.lt k hk).1) (g := g) (cap := vc) (by rw [Hn.out])
  obtain ⟨b, off, ak, ck, ha, hb, hc, hr, hcap, hnil⟩ := K3.out j hjl
  subst ha
  obtain ⟨b2, off2, eak, -, -⟩ := hr 0 (by omega)
  subst eak
  obtain ⟨l, hl⟩ : ∃ l, izAt ls j = l := ⟨_, rfl⟩
  rw [hl] at hin Set hc hr hcap hz
  have Hl : Hid (izAt ls j = l) := hl
  have hT := hr.tail
  have HT : Hid (ItsAt w3 (some ⟨b2, off2 + 3, none⟩) (l.drop 1)) := hT
  obtain ⟨e0, e1, e2⟩ := hr.cells (k := 0) (by omega)
  have E0 : Hid (∀ w2, Below w3.heap.size w3 w2 → ItsAt w2 (some ⟨b2, off2, none⟩) l ∧ w2.cell? ⟨b, off + j, none⟩ = some (.slice (some ⟨b2, off2, none⟩) l.length ck)) := fun w2 q => ⟨hr.below q, by rw [q.cell (p := ⟨b, off + j, none⟩) hb]; exact hc⟩
  obtain ⟨m, hml⟩ : ∃ m, l.length = m + 1 := ⟨l.length - 1, by omega⟩
  have Hm1 : Hid (l.length = m + 1) := hml
  have Hml : Hid ((l.drop 1).length = m) := by show (l.drop 1).length = m; rw [List.length_drop, hml]; rfl
  rw [hml] at hc hin hcap
  have hcl : w3.cell? ⟨B, 1, none⟩ = some (.slice (some ⟨g, 0, none⟩) n vc) := X2.out.out.cell 1 rfl
  have hgl : g < w3.heap.size := hg1.2
  have hsl : w.heap.size < w3.heap.size := by omega
  have Hcell : Hid _ := hcell
  clear hl hr hT hnil hg1 hlo hhi hz hml hout e0 e1 e2
  go_wp2_with fail
  go_cut [] (fun wz => Hid (∃ u, PoR w f (some ⟨b, off, none⟩) n c B G (some ⟨g, 0, none⟩) vc (vs.set j u) (ls.set j (l.drop 1)) wz))
  case first =>
    have hm1 : (1 : Int) ≤ (m : Int) + 1 := by omega
    have hm2 : (0 : Int) ≤ (m : Int) := by omega
    by_cases hck : ck = 1
    · subst hck
      obtain rfl : m = 0 := by omega
      have HT0 : Hid (ItsAt w3 (some ⟨b2, off2, none⟩) (l.drop 1)) := by
        show ItsAt _ _ _
        rw [List.eq_nil_of_length_eq_zero Hml.out]
        exact ItsAt.nil _ _
      go_region_law (refine it_step_app rfl (.tmp 38) (.tmp 44) rfl w3.heap.size (.slice (some ⟨w3.heap.size, 0, none⟩) 0 0) [] (some ⟨b2, off2, none⟩) 0 0 (l.drop 1) Hml.out rfl rfl (it_built _ _ (Nat.le_refl _)) (HT0.out.alloc _) (fun h => by cases h) (by rw [Hml.out]; simp) (by simp) ?_; intro u w2 q1 q2 q3 q4; have q5 : ItRow w3.heap.size w2 u (l.drop 1) := (by simpa using q1); obtain ⟨uy, ud, eu⟩ := q5.shape; rw [Hml.out] at eu; subst eu; have q6 : Below w3.heap.size w3 w2 := ((Below.refl _ w3).drew.alloc (Nat.le_refl _) _).trans q2; have R : Hid _ := Set.out _ w2 q5 q6; have f1 : ∃ y, w2.cell? ⟨g, j, none⟩ = some y := ⟨_, by rw [q6.cell (p := ⟨g, j, none⟩) hgl]; exact Hcell.out⟩; obtain ⟨y1, f1⟩ := f1; have f2 : w2.cell? ⟨B, 1, none⟩ = some (.slice (some ⟨g, 0, none⟩) n vc) := (by rw [q6.cell (p := ⟨B, 1, none⟩) hBs]; exact hcl); have f3 : w2.frozen? ⟨g, j, none⟩ = false := (by rw [ice_kept (q6.block g hgl)]; exact hice); have l2 : B < w2.heap.size := Nat.lt_of_lt_of_le hBs q6.size; have l3 : g < w2.heap.size := Nat.lt_of_lt_of_le hgl q6.size; clear q1 q2 q3 q4 q5 q6)
      all_goals (go_wp2_with fail; go_meet; exact ⟨_, R.out⟩)
    · have hck' : (ck = 1) = False := by simp [hck]
      go_region_law (refine it_step_app rfl (.tmp 38) (.tmp 44) rfl w3.heap.size (.slice (some ⟨w3.heap.size, 0, none⟩) 0 0) [] (some ⟨b2, off2 + 3, none⟩) m (ck - 1) (l.drop 1) Hml.out rfl rfl (it_built _ _ (Nat.le_refl _)) (HT.out.alloc _) (fun h => by cases h) (by rw [Hml.out]; simp; omega) (by simp) ?_; intro u w2 q1 q2 q3 q4; have q5 : ItRow w3.heap.size w2 u (l.drop 1) := (by simpa using q1); obtain ⟨uy, ud, eu⟩ := q5.shape; rw [Hml.out] at eu; subst eu; have q6 : Below w3.heap.size w3 w2 := ((Below.refl _ w3).drew.alloc (Nat.le_refl _) _).trans q2; have R : Hid _ := Set.out _ w2 q5 q6; have f1 : ∃ y, w2.cell? ⟨g, j, none⟩ = some y := ⟨_, by rw [q6.cell (p := ⟨g, j, none⟩) hgl]; exact Hcell.out⟩; obtain ⟨y1, f1⟩ := f1; have f2 : w2.cell? ⟨B, 1, none⟩ = some (.slice (some ⟨g, 0, none⟩) n vc) := (by rw [q6.cell (p := ⟨B, 1, none⟩) hBs]; exact hcl); have f3 : w2.frozen? ⟨g, j, none⟩ = false := (by rw [ice_kept (q6.block g hgl)]; exact hice); have l2 : B < w2.heap.size := Nat.lt_of_lt_of_le hBs q6.size; have l3 : g < w2.heap.size := Nat.lt_of_lt_of_le hgl q6.size; clear q1 q2 q3 q4 q5 q6)
      all_goals (go_wp2_with fail; go_meet; exact ⟨_, R.out⟩)
  case rest =>
  obtain ⟨u, hP⟩ := hcut.out
  obtain ⟨w4, rfl⟩ : ∃ w4, w4 = wc := ⟨_, rfl⟩
  have X4 : Hid (PoR w f (some ⟨b, off, none⟩) n c B G (some ⟨g, 0, none⟩) vc (vs.set j u) (ls.set j (l.drop 1)) w4) := hP
  clear hcut hP hcell Hcell hice hcl hc c1 X2 Set E0 HT K3
  obtain ⟨b', off', ak', ck', ha', hb', hc', hr', hcap', -⟩ := K.out j hjl
  cases ha'
  rw [Hl.out] at hc' hr' hcap'
  have hc' := (X4.out.bel.cell (p := ⟨b, off + j, none⟩) hb').trans hc'
  obtain ⟨b3, off3, ha3, hb3, e0, e1, e2⟩ := hr' 0 (by have := Hm1.out; omega)
  subst ha3
  have e0 := (X4.out.bel.cell (p := ⟨b3, off3 + 0 * 3, none⟩) hb3).trans e0
  have e1 := (X4.out.bel.cell (p := ⟨b3, off3 + 0 * 3 + 1, none⟩) hb3).trans e1
  have e2 := (X4.out.bel.cell (p := ⟨b3, off3 + 0 * 3 + 2, none⟩) hb3).trans e2
  have n1 : ¬ b3 = w.heap.size + 1 := by omega
  have n2 : ¬ b3 = w.heap.size + 1 + 1 := by omega
  have n3 : ¬ b = w.heap.size + 1 := by omega
  have n4 : ¬ b = w.heap.size + 1 + 1 := by omega
  have hB3 := X4.out.hi
  have n5 : ¬ B = w.heap.size + 1 := by omega
  have n6 : ¬ B = w.heap.size + 1 + 1 := by omega
  have Hx : Hid (itAt (izAt ls j) 0 = itAt l 0) := by show itAt (izAt ls j) 0 = itAt l 0; rw [Hl.out]
  generalize itAt l 0 = x at e0 e1 e2 Hx
  obtain ⟨x0, x1, x2⟩ := x
  simp only [Nat.zero_mul, Nat.add_zero] at e0 e1 e2
  have hpos : (0 : Int) < (l.length : Int) := by have := Hm1.out; omega
  have hpos2 : 0 < l.length := by have := Hm1.out; omega
  generalize l.length = ml at hc' hpos hpos2
  have o0 : w4.cell? ⟨B, 0, none⟩ = some (.int .i64 f) := X4.out.out.cell 0 rfl
  have o1 : w4.cell? ⟨B, 1, none⟩ = some (.slice (some ⟨g, 0, none⟩) n vc) := X4.out.out.cell 1 rfl
  have s1 : w4.cell? ⟨w.heap.size, 1, none⟩ = some (.slice (some ⟨b, off, none⟩) n c) := X4.out.box.cell 1 rfl
  have t0 : w4.cell? ⟨w.heap.size + 1, 0, none⟩ = some (.int .i64 0) := X4.out.res.cell 0 rfl
  have t1 : w4.cell? ⟨w.heap.size + 1, 1, none⟩ = some (.slice none 0 0) := X4.out.res.cell 1 rfl
  have y0 : w4.cell? ⟨w.heap.size + 1 + 1, 0, none⟩ = some (.int .i64 0) := X4.out.item.cell 0 rfl
  have y1 : w4.cell? ⟨w.heap.size + 1 + 1, 1, none⟩ = some (.int .i64 0) := X4.out.item.cell 1 rfl
  have y2 : w4.cell? ⟨w.heap.size + 1 + 1, 2, none⟩ = some (.int .i64 0) := X4.out.item.cell 2 rfl
  have t2 := X4.out.res.ice 0
  have t3 := X4.out.res.ice 1
  have y3 := X4.out.item.ice 0
  have y4 := X4.out.item.ice 1
  have y5 := X4.out.item.ice 2
  clear hBs hgB hgl hsl hcap hin hcap'
  have P := pop_fill (n := w.heap.size) (.int .i64 f) (.slice (some ⟨g, 0, none⟩) n vc) (.int .i64 x0) (.int .i64 x1) (.int .i64 x2) X4.out.res X4.out.item (by omega) (by omega) (by omega)
  have hln : (ls.set j (l.drop 1)).length = n := by rw [List.length_set]; exact Hn.out
  have Fin : Hid (∀ X : World, Boxed X (w.heap.size + 1) #[.int .i64 f, .slice (some ⟨g, 0, none⟩) n vc] 29 ∧ Boxed X (w.heap.size + 1 + 1) #[.int .i64 x0, .int .i64 x1, .int .i64 x2] 37 ∧ (∀ k, k ≠ w.heap.size + 1 → k ≠ w.heap.size + 1 + 1 → X.heap[k]? = w4.heap[k]?) ∧ Below w.heap.size w4 X →
      ∀ z : Act, z.tmps.getD 4 undef = .pointer (some ⟨w.heap.size + 1, 0, none⟩) → z.tmps.getD 5 undef = .pointer (some ⟨w.heap.size + 1 + 1, 0, none⟩) → z.tmps.getD 6 undef = .bool true → z.defers = [] →
      bodyPost Try.prog Try.f18 (fun e w' => (∃ v', e = .returned (.tuple #[v', (itAt (izAt ls j) 0).val, .bool true]) ∧ RwIn w.heap.size w'.heap.size w' v' ⟨f, ls.set j ((izAt ls j).drop 1)⟩) ∧ Below w.heap.size w w') .ret z X) := by
    intro X hX z z4 z5 z6 zd
    have D := X4.out.done hln hX.2.2.1 hX.2.2.2
    exact bodyPost_ret (results_two_tmp Try.results18 _ _ (w.heap.size + 1) (w.heap.size + 1 + 1) _ _ _ _ _ _ _ _ (.bool true) z4 z5 z6 hX.1 hX.2.1 Try.underlying29 rfl (by kernel_rfl) Try.underlying37 rfl (by kernel_rfl)) zd ⟨⟨_, by rw [Hx.out]; rfl, by rw [Hl.out]; exact D.1⟩, D.2⟩
  have P1 : Hid (_ ∧ _ ∧ _ ∧ _) := P.1
  clear P hln
  go_wp2_with fail
  go_region
  all_goals (
    go_wp2
    generalize ((((w4.setCell ⟨w.heap.size + 1, 0, none⟩ (.int .i64 f)).setCell ⟨w.heap.size + 1, 1, none⟩ (.slice (some ⟨g, 0, none⟩) n vc)).setCell ⟨w.heap.size + 1 + 1, 0, none⟩ (.int .i64 x0)).setCell ⟨w.heap.size + 1 + 1, 1, none⟩ (.int .i64 x1)).setCell ⟨w.heap.size + 1 + 1, 2, none⟩ (.int .i64 x2) = XX at P1 ⊢
    exact Fin.out XX.drew ⟨P1.out.1, P1.out.2.1, P1.out.2.2.1, P1.out.2.2.2.drew⟩ _ rfl rfl rfl rfl)
end Go.Proofs.Ytdcekimldgjliaa
