/-
  The walk of the program's Pushed. By the verifier.
-/
import Derived.Test.YtleokmnhhhhcjaaRwOkI
import Derived.Test.YtleokmnhhhhcjaaRwHasI
import Derived.Test.YtleokmnhhhhcjaaRwCopyI
import Derived.Test.YtleokmnhhhhcjaaRwLastI
import Derived.Test.YtleokmnhhhhcjaaRwPuPo
import Derived.BigQuiet
import Derived.Deep.DeepCutAuto
namespace Go.Proofs.Ytleokmnhhhhcjaa
open Go.RowKit

set_option maxHeartbeats 12800000 in
set_option maxRecDepth 100000 in
theorem implPushed (r : Rw) (v : Value) (row : Int) (i : It) (w : World) (hB : r.big ≤ 1048576) (h : Hid (RwAt w v r)) :
    Calls Try.prog 6 #[v, .int .i64 row, i.val] w fun e w' => (∃ v', e = .returned (.tuple #[v', .bool (r.pushedB row i)]) ∧ RwIn w.heap.size w'.heap.size w' v' (r.pushed row i)) ∧ Below w.heap.size w w' := by
  obtain ⟨a, c, rfl, k⟩ := h.out
  obtain ⟨hT, -, hin⟩ := Rw.small hB
  have A1 := fun w h => implRowsOk r a c w hB h
  have A2 := fun w h => implCopied r a c w hB h
  have A3 := fun w => implItem i w
  have A6 := fun w => implHasRow r a c row w hT
  have A4 := fun w h => implHasR r a c i.id w hB h
  have A5 := fun w h => implCountL r a c w hB h
  have Hb : Hid (r.pushedB row i = (r.ok && r.mayPush row i)) := rfl
  have Hp : Hid (r.pushed row i = if r.ok = true then (if r.mayPush row i = true then ⟨r.most, r.lists.set row.toNat (izAt r.lists row.toNat ++ [i])⟩ else r) else ⟨0, []⟩) := rfl
  have Hm : Hid (r.mayPush row i = ((decide (0 ≤ row) && decide (row < r.lists.length)) && (i.ok && (!r.has i.id && !decide ((izSum r.lists r.lists.length : Int) = r.most))))) := rfl
  have Hin : Hid (∀ k, k < r.lists.length → (izAt r.lists k).length ≤ 1048576) := hin
  generalize r.pushedB row i = pb at Hb ⊢
  generalize r.pushed row i = pr at Hp ⊢
  generalize r.mayPush row i = mp at Hb Hp Hm
  generalize r.ok = ok at A1 Hb Hp
  generalize i.ok = iok at A3 Hm
  generalize r.has i.id = has at A4 Hm
  generalize (izSum r.lists r.lists.length : Int) = cnt at A5 Hm
  obtain ⟨f, ls⟩ := r
  simp only [Rw.val, It.val] at A1 A2 A3 A4 A5 A6 Hp Hm Hin k hT ⊢
  obtain ⟨n, hn⟩ : ∃ n, ls.length = n := ⟨_, rfl⟩
  rw [hn] at A1 A2 A4 A5 A6 Hm Hin hT ⊢
  obtain ⟨hv, hhv⟩ : ∃ z, (decide (0 ≤ row) && decide (row < (n : Int))) = z := ⟨_, rfl⟩
  rw [hhv] at A6 Hm
  have Hh : Hid ((decide (0 ≤ row) && decide (row < (n : Int))) = hv) := hhv
  have Hn : Hid (ls.length = n) := hn
  have A1' : Hid _ := A1
  have A2' : Hid _ := A2
  have A3' : Hid _ := A3
  have A4' : Hid _ := A4
  have A5' : Hid _ := A5
  have A6' : Hid _ := A6
  have K : Hid (IzAt w a ls) := k
  clear A1 A2 A3 A4 A5 A6 h k hB hin hn hhv
  obtain ⟨W, hW⟩ : ∃ W, W = ((w.alloc (.cells #[.int .i64 f, .slice a n c] 26)).alloc (.cells #[.int .i64 i.id, .int .i64 i.size, .int .i64 i.tm] 28)).alloc (.cells #[.int .i64 0, .slice none 0 0] 26) := ⟨_, rfl⟩
  have X : Hid (IzAt W a ls ∧ Boxed W w.heap.size #[.int .i64 f, .slice a n c] 26 ∧ Boxed W (w.heap.size + 1) #[.int .i64 i.id, .int .i64 i.size, .int .i64 i.tm] 28 ∧ Boxed W (w.heap.size + 1 + 1) #[.int .i64 0, .slice none 0 0] 26 ∧ Below w.heap.size w W) := by
    rw [hW]
    refine ⟨((K.out.alloc _).alloc _).alloc _, ((Boxed.new w _ _).more _).more _, ?_, ?_, (((Below.refl _ _).alloc (Nat.le_refl _) _).alloc (by simp) _).alloc (by simp; omega) _⟩
    · have := (Boxed.new (w.alloc (.cells #[.int .i64 f, .slice a n c] 26)) #[.int .i64 i.id, .int .i64 i.size, .int .i64 i.tm] 28).more (.cells #[.int .i64 0, .slice none 0 0] 26)
      simpa using this
    · have := Boxed.new ((w.alloc (.cells #[.int .i64 f, .slice a n c] 26)).alloc (.cells #[.int .i64 i.id, .int .i64 i.size, .int .i64 i.tm] 28)) #[.int .i64 0, .slice none 0 0] 26
      simpa using this
  have HW : Hid (W = _) := hW
  clear hW
  go_enter Try.func6, Try.ntmps6
  go_wp2_with fail
  rw [← HW.out]
  refine (A1'.out _ X.out.1).mono ?_
  rintro e w1 ⟨rfl, q⟩
  have X1 : Hid (IzAt w1 a ls ∧ Boxed w1 w.heap.size #[.int .i64 f, .slice a n c] 26 ∧ Boxed w1 (w.heap.size + 1) #[.int .i64 i.id, .int .i64 i.size, .int .i64 i.tm] 28 ∧ Boxed w1 (w.heap.size + 1 + 1) #[.int .i64 0, .slice none 0 0] 26 ∧ Below w.heap.size w w1) :=
    ⟨X.out.1.below q, X.out.2.1.below X.out.2.1.under q, X.out.2.2.1.below X.out.2.2.1.under q, X.out.2.2.2.1.below X.out.2.2.2.1.under q, X.out.2.2.2.2.trans (q.mono X.out.2.2.2.2.size)⟩
  clear q X A1' HW
  cases ok
  · have e1 : pb = false := by rw [Hb.out]; rfl
    have e2 : pr = ⟨0, []⟩ := by rw [Hp.out]; rfl
    subst e1
    subst e2
    go_wp2_with (refine wpList_store_row rfl 26 (.tmp 6) (.tmp 12) rfl (w.heap.size + 1 + 1) #[.int .i64 0, .slice none 0 0] rfl rfl _ _ X1.out.2.2.2.1 (by kernel_rfl) rfl (by simp [Value.oneCell']) ?_)
    refine bodyPost_ret (results_row_tmp Try.results6 _ _ (w.heap.size + 1 + 1) _ #[.int .i64 0, .slice none 0 0] _ _ (.bool false) rfl rfl (setRow_heap w1 (w.heap.size + 1 + 1) _ _ _ _ X1.out.2.2.2.1) Try.underlying26 rfl (by kernel_rfl)) rfl ⟨⟨_, rfl, none, 0, rfl, izIn_nil _ _ _⟩, below_setRow X1.out.2.2.2.2 (by omega) _⟩
  have c0 : w1.cell? ⟨w.heap.size, 0, none⟩ = some (.int .i64 f) := X1.out.2.1.cell 0 rfl
  have c1 : w1.cell? ⟨w.heap.size, 1, none⟩ = some (.slice a n c) := X1.out.2.1.cell 1 rfl
  go_wp2_with fail
  refine (A2'.out _ X1.out.1).mono ?_
  rintro e w2 ⟨⟨v2, vs, rfl, g2⟩, q⟩
  obtain ⟨vx, vc, ev⟩ := rows_shape g2.outer
  rw [Hn.out] at ev
  subst ev
  have X2 : Hid (PuR w f a n c i w2.heap.size (w1.heap.size + 2) vx vc vs ls (w2.alloc (.cells #[.int .i64 f, .slice vx n vc] 26))) := by
    have s1 := X1.out.2.2.2.1.under
    have s2 := q.size
    refine ⟨(X1.out.2.1.below X1.out.2.1.under q).more _, (X1.out.2.2.1.below X1.out.2.2.1.under q).more _, (X1.out.2.2.2.1.below X1.out.2.2.2.1.under q).more _, Boxed.new _ _ _, g2.below ((Below.refl _ _).alloc (Nat.le_refl _) _), ?_, by omega, by omega⟩
    have b := X1.out.2.2.2.2.trans (q.mono X1.out.2.2.2.2.size)
    exact b.alloc b.size _
  clear q g2 X1 c0 c1 A2'
  go_upto_region 4 with fail
  generalize w2.alloc (.cells #[.int .i64 f, .slice vx n vc] 26) = w3 at X2 ⊢
  generalize w2.heap.size = B at X2 ⊢
  generalize w1.heap.size + 2 = G at X2
  have e1 : pb = mp := by rw [Hb.out]; rfl
  subst e1
  go_cut [36] (fun s wc => Hid (s = .bool (!pb) ∧ PuR w f a n c i B G vx vc vs ls wc))
  case first =>
    have Go : Hid (∀ wq, Below w3.heap.size w3 wq → PuR w f a n c i B G vx vc vs ls wq) := fun wq q => X2.out.below q
    haveI : Nonempty (BelW w3.heap.size w3) := ⟨⟨w3, Below.refl _ _⟩⟩
    have c0 : ∀ p : BelW w3.heap.size w3, p.w'.cell? ⟨w.heap.size, 0, none⟩ = some (.int .i64 f) := fun p => (Go.out _ p.h).box.cell 0 rfl
    have c1 : ∀ p : BelW w3.heap.size w3, p.w'.cell? ⟨w.heap.size, 1, none⟩ = some (.slice a n c) := fun p => (Go.out _ p.h).box.cell 1 rfl
    have d0 : ∀ p : BelW w3.heap.size w3, p.w'.cell? ⟨w.heap.size + 1, 0, none⟩ = some (.int .i64 i.id) := fun p => (Go.out _ p.h).item.cell 0 rfl
    have d1 : ∀ p : BelW w3.heap.size w3, p.w'.cell? ⟨w.heap.size + 1, 1, none⟩ = some (.int .i64 i.size) := fun p => (Go.out _ p.h).item.cell 1 rfl
    have d2 : ∀ p : BelW w3.heap.size w3, p.w'.cell? ⟨w.heap.size + 1, 2, none⟩ = some (.int .i64 i.tm) := fun p => (Go.out _ p.h).item.cell 2 rfl
    have At : Hid (∀ p : BelW w3.heap.size w3, IzAt p.w' a ls) := fun p => K.out.below (Go.out _ p.h).bel
    clear X2
    cases hv
    · have ep : pb = false := by rw [Hm.out]; rfl
      subst ep
      go_wp2_with fail
      refine region_below w3.heap.size (by kernel_rfl) (by kernel_rfl) ?_
      repeat (go_big_quiet_step ((first | (go_at_call 24; refine quiet_below (Nat.le_refl _) (A6'.out _)) | (go_at_call 25; refine quiet_below (Nat.le_refl _) (A3'.out _)) | (go_at_call 26; refine quiet_below (Nat.le_refl _) (A4'.out _ (At.out _))) | (go_at_call 27; refine quiet_below (Nat.le_refl _) (A5'.out _ (At.out _))))))
      refine wpQuiet_nil ?_
      intro wq hx
      have GQ : Hid (PuR w f a n c i B G vx vc vs ls wq) := Go.out _ (BelW.out hx)
      clear hx
      go_wp2_with fail
      go_meet
      exact ⟨rfl, GQ.out⟩
    have eb : pb = (iok && (!has && !decide (cnt = f))) := by rw [Hm.out]; rfl
    cases iok
    · have ep : pb = false := by rw [eb]; rfl
      subst ep
      clear eb
      go_wp2_with fail
      refine region_below w3.heap.size (by kernel_rfl) (by kernel_rfl) ?_
      repeat (go_big_quiet_step ((first | (go_at_call 24; refine quiet_below (Nat.le_refl _) (A6'.out _)) | (go_at_call 25; refine quiet_below (Nat.le_refl _) (A3'.out _)) | (go_at_call 26; refine quiet_below (Nat.le_refl _) (A4'.out _ (At.out _))) | (go_at_call 27; refine quiet_below (Nat.le_refl _) (A5'.out _ (At.out _))))))
      refine wpQuiet_nil ?_
      intro wq hx
      have GQ : Hid (PuR w f a n c i B G vx vc vs ls wq) := Go.out _ (BelW.out hx)
      clear hx
      go_wp2_with fail
      go_meet
      exact ⟨rfl, GQ.out⟩
    cases has
    case true =>
      have ep : pb = false := by rw [eb]; rfl
      subst ep
      clear eb
      go_wp2_with fail
      refine region_below w3.heap.size (by kernel_rfl) (by kernel_rfl) ?_
      repeat (go_big_quiet_step ((first | (go_at_call 24; refine quiet_below (Nat.le_refl _) (A6'.out _)) | (go_at_call 25; refine quiet_below (Nat.le_refl _) (A3'.out _)) | (go_at_call 26; refine quiet_below (Nat.le_refl _) (A4'.out _ (At.out _))) | (go_at_call 27; refine quiet_below (Nat.le_refl _) (A5'.out _ (At.out _))))))
      refine wpQuiet_nil ?_
      intro wq hx
      have GQ : Hid (PuR w f a n c i B G vx vc vs ls wq) := Go.out _ (BelW.out hx)
      clear hx
      go_wp2_with fail
      go_meet
      exact ⟨rfl, GQ.out⟩
    by_cases h2 : cnt = f
    · have ep : pb = false := by rw [eb, decide_eq_true h2]; rfl
      subst ep
      have h2 := h2.symm
      subst h2
      clear eb
      go_wp2_with fail
      refine region_below w3.heap.size (by kernel_rfl) (by kernel_rfl) ?_
      repeat (go_big_quiet_step ((first | (go_at_call 24; refine quiet_below (Nat.le_refl _) (A6'.out _)) | (go_at_call 25; refine quiet_below (Nat.le_refl _) (A3'.out _)) | (go_at_call 26; refine quiet_below (Nat.le_refl _) (A4'.out _ (At.out _))) | (go_at_call 27; refine quiet_below (Nat.le_refl _) (A5'.out _ (At.out _))))))
      refine wpQuiet_nil ?_
      intro wq hx
      have GQ : Hid (PuR w f a n c i B G vx vc vs ls wq) := Go.out _ (BelW.out hx)
      clear hx
      go_wp2_with fail
      go_meet
      exact ⟨rfl, GQ.out⟩
    · have ep : pb = true := by rw [eb, decide_eq_false h2]; rfl
      subst ep
      have h2' : (cnt == f) = false := by simpa using h2
      clear eb
      go_wp2_with fail
      refine region_below w3.heap.size (by kernel_rfl) (by kernel_rfl) ?_
      repeat (go_big_quiet_step ((first | (go_at_call 24; refine quiet_below (Nat.le_refl _) (A6'.out _)) | (go_at_call 25; refine quiet_below (Nat.le_refl _) (A3'.out _)) | (go_at_call 26; refine quiet_below (Nat.le_refl _) (A4'.out _ (At.out _))) | (go_at_call 27; refine quiet_below (Nat.le_refl _) (A5'.out _ (At.out _))))))
      refine wpQuiet_nil ?_
      intro wq hx
      have GQ : Hid (PuR w f a n c i B G vx vc vs ls wq) := Go.out _ (BelW.out hx)
      clear hx
      go_wp2_with fail
      go_meet
      exact ⟨rfl, GQ.out⟩
  case rest =>
  obtain ⟨rfl, hP⟩ := hcut.out
  have X3 : Hid (PuR w f a n c i B G vx vc vs ls wc) := hP
  clear hcut hP X2 A3' A4' A5' A6'
  cases pb
  · have e2 : pr = ⟨f, ls⟩ := by rw [Hp.out]; rfl
    subst e2
    go_wp2_with (first | (refine wpList_load_row rfl 26 (.tmp 8) rfl B rfl _ _ _ _ X3.out.out Try.underlying26 rfl (by kernel_rfl) ?_) | (refine wpList_store_row rfl 26 (.tmp 6) (.tmp 37) rfl (w.heap.size + 1 + 1) _ rfl rfl _ _ X3.out.res (by kernel_rfl) rfl (by simp [Value.oneCell']) ?_))
    refine bodyPost_ret (results_row_tmp Try.results6 _ _ (w.heap.size + 1 + 1) _ #[.int .i64 f, .slice vx n vc] _ _ (.bool false) rfl rfl (setRow_heap wc (w.heap.size + 1 + 1) _ _ _ _ X3.out.res) Try.underlying26 rfl (by kernel_rfl)) rfl ⟨⟨_, rfl, (X3.out.done Hn.out).1⟩, (X3.out.done Hn.out).2⟩
  have hm := Hm.out
  have hrow : 0 ≤ row ∧ row < (n : Int) := by
    have h1 := hm.symm
    rw [← Hh.out] at h1
    simp only [Bool.and_eq_true, decide_eq_true_eq] at h1
    exact h1.1
  obtain ⟨j, rfl⟩ := Int.eq_ofNat_of_zero_le hrow.1
  have hjn : j < n := by omega
  have hjl : j < ls.length := by rw [Hn.out]; exact hjn
  have e2 : pr = ⟨f, ls.set j (izAt ls j ++ [i])⟩ := by rw [Hp.out]; simp
  subst e2
  clear hm Hm Hp Hb hrow Hh
  obtain ⟨g, eg⟩ : ∃ g, vx = some ⟨g, 0, none⟩ := by
    rcases X3.out.g.outer.2 with ⟨e, e0⟩ | ⟨g, cap, cur, e, _⟩
    · rw [Hn.out] at e0; omega
    · cases e; exact ⟨g, rfl⟩
  subst eg
  have hin := Hin.out j hjn
  have hg1 := World.ownsRow.lt X3.out.g.outer g rfl
  have hlo := X3.out.lo
  have hhi := X3.out.hi
  have hBs := X3.out.out.under
  obtain ⟨w3, hw3⟩ : ∃ w3, w3 = wc := ⟨_, rfl⟩
  subst hw3
  have hout : w3.ownsRow G 41 1 (.slice (some ⟨g, 0, none⟩) n vc) n vs := by
    have h1 := X3.out.g.outer
    rw [Hn.out] at h1
    exact h1
  have hcell : w3.cell? ⟨g, j, none⟩ = some (izV vs j) := by
    have hl := X3.out.g.len
    rw [hout.cellAt j (by omega)]
    unfold izV
    rw [List.getElem?_eq_getElem (by omega)]
    rfl
  have hice := hout.frozenAt j
  have hgB : g ≠ B := by
    intro e
    subst e
    have h1 := X3.out.out
    rcases X3.out.g.outer.2 with ⟨e, _⟩ | ⟨g', cap, cur, e, _, hg', _⟩
    · cases e
    · cases e
      unfold Boxed at h1
      rw [h1] at hg'
      simp only [Option.some.injEq, Obj.cells.injEq] at hg'
      exact absurd hg'.2.1 (by decide)
  have Set : Hid (∀ u w2, ItRow w3.heap.size w2 u (izAt ls j ++ [i]) → Below w3.heap.size w3 w2 → PuR w f a n c i B G (some ⟨g, 0, none⟩) vc (vs.set j u) (ls.set j (izAt ls j ++ [i])) (w2.setCell ⟨g, j, none⟩ u)) := fun u w2 q1 q2 => by
    have oth : ∀ y, y ≠ g → y < w3.heap.size → (w2.setCell ⟨g, j, none⟩ u).heap[y]? = w3.heap[y]? := fun y hy hl => (Below.heap_setCell _ _ _ _ hy).trans (q2.block y hl)
    have bel : Below w.heap.size w (w2.setCell ⟨g, j, none⟩ u) := (X3.out.bel.trans (q2.mono (by omega))).setCell (by show w.heap.size ≤ g; omega) _
    refine ⟨(oth _ (by omega) (by omega)).trans X3.out.box, (oth _ (by omega) (by omega)).trans X3.out.item, (oth _ (by omega) (by omega)).trans X3.out.res, (oth _ (fun e => hgB e.symm) hBs).trans X3.out.out, ?_, bel, hlo, hhi⟩
    exact X3.out.g.set hjl (q1.mono (by omega)) (fun k _ hk => q2.block k hk) (fun k hk => .inr (q1.lt k hk).1) (g := g) (cap := vc) (by rw [Hn.out])
  have K3 : IzAt w3 a ls := K.out.below X3.out.bel
  obtain ⟨b, off, ak, ck, ha, hb, hc, hr, hcap, hnil⟩ := K3 j hjl
  subst ha
  have hgl : g < w3.heap.size := hg1.2
  have HL := fun wx h => implWithLast ak ck (izAt ls j) i wx hin hcap hnil h
  obtain ⟨l, hl⟩ : ∃ l, izAt ls j = l := ⟨_, rfl⟩
  rw [hl] at Set hc hr HL
  have Hl : Hid (izAt ls j = l) := hl
  have Hr : Hid (ItsAt w3 ak l) := hr
  obtain ⟨m, hml⟩ : ∃ m, l.length = m := ⟨_, rfl⟩
  rw [hml] at hc HL
  have Hml : Hid (l.length = m) := hml
  simp only [It.val] at HL
  have HL' : Hid _ := HL
  have hcl : w3.cell? ⟨B, 1, none⟩ = some (.slice (some ⟨g, 0, none⟩) n vc) := X3.out.out.cell 1 rfl
  have s1 : w3.cell? ⟨w.heap.size, 1, none⟩ = some (.slice (some ⟨b, off, none⟩) n c) := X3.out.box.cell 1 rfl
  have i0 : w3.cell? ⟨w.heap.size + 1, 0, none⟩ = some (.int .i64 i.id) := X3.out.item.cell 0 rfl
  have i1 : w3.cell? ⟨w.heap.size + 1, 1, none⟩ = some (.int .i64 i.size) := X3.out.item.cell 1 rfl
  have i2 : w3.cell? ⟨w.heap.size + 1, 2, none⟩ = some (.int .i64 i.tm) := X3.out.item.cell 2 rfl
  have hsl : w.heap.size < w3.heap.size := by omega
  have Hcell : Hid _ := hcell
  clear hl hr hnil hcap hg1 hlo hhi hml hout HL hin hcell K3
  have hjn' : (j : Int) < (n : Int) := by omega
  go_wp2_with fail
  go_cut [] (fun wz => Hid (∃ u, PuR w f (some ⟨b, off, none⟩) n c i B G (some ⟨g, 0, none⟩) vc (vs.set j u) (ls.set j (l ++ [i])) wz))
  case first =>
    go_region_law (refine stepCall rfl 28 rfl #[.slice ak m ck, .agg #[.int .i64 i.id, .int .i64 i.size, .int .i64 i.tm]] (by kernel_rfl) (HL'.out w3.drew (Hr.out.drew)) ?_; rintro e w2 ⟨⟨u, rfl, q1⟩, q2⟩; refine ⟨_, rfl, ?_⟩; obtain ⟨uy, ud, eu⟩ := q1.shape; rw [List.length_append, Hml.out] at eu; subst eu; have q6 : Below w3.heap.size w3 w2 := (Below.refl _ w3).drew.trans q2; have R : Hid _ := Set.out _ w2 q1 q6; have f1 : ∃ y, w2.cell? ⟨g, j, none⟩ = some y := ⟨_, by rw [q6.cell (p := ⟨g, j, none⟩) hgl]; exact Hcell.out⟩; obtain ⟨y1, f1⟩ := f1; have f2 : w2.cell? ⟨B, 1, none⟩ = some (.slice (some ⟨g, 0, none⟩) n vc) := (by rw [q6.cell (p := ⟨B, 1, none⟩) hBs]; exact hcl); have f3 : w2.frozen? ⟨g, j, none⟩ = false := (by rw [ice_kept (q6.block g hgl)]; exact hice); have l2 : B < w2.heap.size := Nat.lt_of_lt_of_le hBs q6.size; have l3 : g < w2.heap.size := Nat.lt_of_lt_of_le hgl q6.size; clear q1 q2 q6)
    all_goals (go_wp2_with fail; go_meet; exact ⟨_, R.out⟩)
  case rest =>
  obtain ⟨u, hP⟩ := hcut.out
  have X4 : Hid (PuR w f (some ⟨b, off, none⟩) n c i B G (some ⟨g, 0, none⟩) vc (vs.set j u) (ls.set j (l ++ [i])) wc) := hP
  have hln : (ls.set j (l ++ [i])).length = n := by rw [List.length_set]; exact Hn.out
  have D := X4.out.done hln
  clear hcut hP Hcell hcl i0 i1 i2 s1 hc hice X3 Set
  go_wp2_with (first | (refine wpList_load_row rfl 26 (.tmp 8) rfl B rfl _ _ _ _ X4.out.out Try.underlying26 rfl (by kernel_rfl) ?_) | (refine wpList_store_row rfl 26 (.tmp 6) (.tmp 49) rfl (w.heap.size + 1 + 1) _ rfl rfl _ _ X4.out.res (by kernel_rfl) rfl (by simp [Value.oneCell']) ?_))
  refine bodyPost_ret (results_row_tmp Try.results6 _ _ (w.heap.size + 1 + 1) _ #[.int .i64 f, .slice (some ⟨g, 0, none⟩) n vc] _ _ (.bool true) rfl rfl (setRow_heap wc (w.heap.size + 1 + 1) _ _ _ _ X4.out.res) Try.underlying26 rfl (by kernel_rfl)) rfl ⟨⟨_, rfl, by rw [Hl.out]; exact D.1⟩, D.2⟩
end Go.Proofs.Ytleokmnhhhhcjaa
