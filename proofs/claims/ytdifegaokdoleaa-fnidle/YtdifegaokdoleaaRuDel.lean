/-
  The walk of slices.DeleteFunc on records (Rule) of the call's own. By the verifier, by program.
-/
import Derived.Test.YtdifegaokdoleaaM7RuFn
import Derived.Test.YtdifegaokdoleaaRuApp
import Derived.Laws.CopyRow
import Derived.Laws.CopyOwn
import Derived.Laws.Rows
import Derived.Laws.Tables
namespace Go.Proofs.Ytdifegaokdoleaa
open Go.RowKit Go.Shelf

theorem ru_zero_one (n : Nat) : ∀ v ∈ (Builtin.zeroCells (Value.agg #[.int .i64 0, .int .i64 0, .int .i64 0, .int .i64 0, .int .i64 0, .int .i64 0, .int .i64 0, .int .i64 0, .int .i64 0, .int .i64 0]).cells n).toList, v.oneCell' = true := by
  intro v hv
  have e : (Value.agg #[.int .i64 0, .int .i64 0, .int .i64 0, .int .i64 0, .int .i64 0, .int .i64 0, .int .i64 0, .int .i64 0, .int .i64 0, .int .i64 0]).cells = #[.int .i64 0, .int .i64 0, .int .i64 0, .int .i64 0, .int .i64 0, .int .i64 0, .int .i64 0, .int .i64 0, .int .i64 0, .int .i64 0] := rfl
  rw [e] at hv
  unfold Builtin.zeroCells at hv
  simp only [Array.toList_map, List.mem_map] at hv
  obtain ⟨i, _, rfl⟩ := hv
  obtain ⟨j, hj, hj3⟩ : ∃ j, i % 10 = j ∧ j < 10 := ⟨_, rfl, Nat.mod_lt _ (by omega)⟩
  show ((#[Value.int .i64 0, .int .i64 0, .int .i64 0, .int .i64 0, .int .i64 0, .int .i64 0, .int .i64 0, .int .i64 0, .int .i64 0, .int .i64 0] : Array Value)[i % 10]!).oneCell' = true
  rw [hj]
  match j, hj3 with
  | 0, _ => rfl
  | 1, _ => rfl
  | 2, _ => rfl
  | 3, _ => rfl
  | 4, _ => rfl
  | 5, _ => rfl
  | 6, _ => rfl
  | 7, _ => rfl
  | 8, _ => rfl
  | 9, _ => rfl
theorem ru_row_cut {base : Nat} {w : World} {g n cap m : Nat} {L : List Ru} (hl : L.length = n) (h : RuRow base w (.slice (some ⟨g, 0, none⟩) n cap) L) (hm : m ≤ n) : RuRow base w (.slice (some ⟨g, 0, none⟩) m cap) (L.take m) := by
  have hlm : (L.take m).length = m := by rw [List.length_take, hl]; omega
  unfold RuRow at h ⊢
  rw [hl] at h
  rw [hlm]
  refine ⟨by rw [rucells_length, hlm], ?_⟩
  rcases h.2 with ⟨e, _⟩ | ⟨g', cap', cur, e, h1, h2, h3, h4, h5, h6⟩
  · cases e
  · cases e
    refine .inr ⟨g, cap, cur, rfl, h1, h2, by omega, h4, h5, ?_⟩
    have e2 : rucells L = rucells (L.take m) ++ rucells (L.drop m) := by rw [← rucells_append, List.take_append_drop]
    have h7 := congrArg (List.take (m * 10)) h6
    rw [List.take_take, Nat.min_eq_left (by omega), e2, List.take_append_of_le_length (by rw [rucells_length, hlm]; exact Nat.le_refl _)] at h7
    rw [h7]
    exact List.take_of_length_le (by rw [rucells_length, hlm]; exact Nat.le_refl _)
theorem ru_row_wipe {base : Nat} {w : World} {g n cap m : Nat} {L : List Ru} (hl : L.length = n) (h : RuRow base w (.slice (some ⟨g, 0, none⟩) n cap) L) (hm : m < n) :
    ∃ w', (∀ ty c, (Builtin.clear_ #[24] ty #[.slice (some ⟨g, m * 10, none⟩) (n - m) c]).run Try.prog w = .ok (.tuple #[]) w') ∧ RuRow base w' (.slice (some ⟨g, 0, none⟩) m cap) (L.take m) ∧ Below base w w' := by
  have hlm : (L.take m).length = m := by rw [List.length_take, hl]; omega
  have hc := ru_row_cut hl h (Nat.le_of_lt hm)
  unfold RuRow at h
  rw [hl] at h
  rcases h.2 with ⟨e, _⟩ | ⟨g', cap', cur, e, h1, h2, h3, h4, h5, h6⟩
  · cases e
  · cases e
    obtain ⟨q, hq⟩ : ∃ q, n - m = q + 1 := ⟨n - m - 1, by omega⟩
    have hz : (Builtin.zeroCells (Value.agg #[.int .i64 0, .int .i64 0, .int .i64 0, .int .i64 0, .int .i64 0, .int .i64 0, .int .i64 0, .int .i64 0, .int .i64 0, .int .i64 0]).cells (q + 1)).toList.length = (q + 1) * 10 := by
      rw [Array.length_toList, size_zeroCells]
      rfl
    have hst := run_storeCells_at Try.prog g (m * 10) 32 (Builtin.zeroCells (Value.agg #[.int .i64 0, .int .i64 0, .int .i64 0, .int .i64 0, .int .i64 0, .int .i64 0, .int .i64 0, .int .i64 0, .int .i64 0, .int .i64 0]).cells (q + 1)).toList 0 cur w h2 (by rw [hz, h5]; omega) (ru_zero_one _)
    refine ⟨w.setRow g (cur.toList.take (m * 10 + 0) ++ (Builtin.zeroCells (Value.agg #[.int .i64 0, .int .i64 0, .int .i64 0, .int .i64 0, .int .i64 0, .int .i64 0, .int .i64 0, .int .i64 0, .int .i64 0, .int .i64 0]).cells (q + 1)).toList ++ cur.toList.drop (m * 10 + 0 + (Builtin.zeroCells (Value.agg #[.int .i64 0, .int .i64 0, .int .i64 0, .int .i64 0, .int .i64 0, .int .i64 0, .int .i64 0, .int .i64 0, .int .i64 0, .int .i64 0]).cells (q + 1)).toList.length)).toArray, fun ty c => ?_, ?_, below_setRow (Below.refl _ w) h1 _⟩
    · rw [hq]
      simp [Builtin.clear_, run_underlying Try.underlying24, Try.zeroValue32, hst]
    · unfold RuRow at hc ⊢
      rw [hlm] at hc ⊢
      refine ⟨by rw [rucells_length, hlm], .inr ⟨g, cap, _, rfl, h1, setRow_heap _ _ _ _ _ _ h2, by omega, h4, ?_, ?_⟩⟩
      · simp only [List.size_toArray, List.length_append, List.length_take, List.length_drop, Array.length_toList, h5]
        rw [← Array.length_toList, hz]
        omega
      · rcases hc.2 with ⟨e, _⟩ | ⟨g', cap', cur', e, _, h2', _, _, _, h6'⟩
        · cases e
        · cases e
          rw [h2] at h2'
          cases h2'
          rw [List.append_assoc, List.take_append_of_le_length (by simp [h5]; omega), Nat.add_zero, List.take_take, Nat.min_self]
          exact h6'

/-- Those that are left of the first k. -/
def ruLeftK (l : List Ru) (p : Ru → Bool) (k : Nat) : List Ru := (l.take k).filter fun r => !p r
theorem ruLeftK_succ {l : List Ru} {p : Ru → Bool} {k : Nat} (hk : k < l.length) : ruLeftK l p (k + 1) = if p (ruAt l k) = true then ruLeftK l p k else ruLeftK l p k ++ [ruAt l k] := by
  unfold ruLeftK
  rw [List.take_succ_eq_append_getElem hk, List.filter_append, ruAt_lt hk]
  cases h : p l[k] <;> simp [h]
theorem ruLeftK_le (l : List Ru) (p : Ru → Bool) (k : Nat) : (ruLeftK l p k).length ≤ k := by
  unfold ruLeftK
  have h1 := List.length_filter_le (fun r => !p r) (l.take k)
  have h2 : (l.take k).length ≤ k := by rw [List.length_take]; omega
  omega
theorem ruLeftK_idx {l : List Ru} {p : Ru → Bool} : ruLeftK l p (l.findIdx p) = l.take (l.findIdx p) := by
  unfold ruLeftK
  rw [List.filter_eq_self]
  intro r hr
  obtain ⟨i, hi, rfl⟩ := List.mem_iff_getElem.1 hr
  rw [List.length_take] at hi
  have := List.not_of_lt_findIdx (p := p) (xs := l) (i := i) (by omega)
  rw [List.getElem_take]
  simpa using this
theorem ru_filter_none {l : List Ru} {p : Ru → Bool} (h : ¬ l.findIdx p < l.length) : l.filter (fun r => !p r) = l := by
  have := ruLeftK_idx (l := l) (p := p)
  unfold ruLeftK at this
  rw [List.take_of_length_le (by omega)] at this
  exact this

set_option maxHeartbeats 6400000 in
set_option maxRecDepth 100000 in
theorem implDeleteRu (base : Nat) (a : Option Addr) (cap : Nat) (l : List Ru) (fn : FuncId) (fs cb : Array Value) (D : Nat → Prop) (Q : Ru → Prop) (p : Ru → Bool) (w : World) (hT : l.length ≤ 1048576) (hb : base ≤ w.heap.size) (h : Hid (RuRow base w (.slice a l.length cap) l)) (hq : Hid (∀ r ∈ l, Q r)) (hD : Hid (∀ k, D k → k < base)) (ht : Hid (RuTells w D fn fs cb Q p)) :
    Calls Try.prog 34 #[.slice a l.length cap, .func (.func fn) fs cb] w fun e w' => (∃ v', e = .returned v' ∧ RuRow base w' v' (l.filter fun r => !p r)) ∧ Below base w w' := by
  have I := implIndexU a cap l fn fs cb D Q p w hT h.out.at hq ht
  have eg : ∀ args w, (callFunc fn args).run Try.prog w = .ok (.enter fn args) w := ht.out.enters
  obtain ⟨N, hN⟩ : ∃ N, l.findIdx p = N := ⟨_, rfl⟩
  have HN : Hid (l.findIdx p = N) := hN
  obtain ⟨len, hlen⟩ : ∃ n, l.length = n := ⟨_, rfl⟩
  have Hlen : Hid (l.length = len) := hlen
  rw [hN, hlen] at I
  by_cases hlt : N < len
  · rw [if_pos hlt] at I
    obtain ⟨g, rfl⟩ : ∃ g, a = some ⟨g, 0, none⟩ := by
      rcases h.out.2 with ⟨e, hn⟩ | ⟨g, cap', cur, e, _⟩
      · omega
      · exact ⟨g, by cases e; rfl⟩
    have hg := h.out.lt g rfl
    have hcap := h.out.cap
    rw [hlen] at hT hcap ⊢
    have HR0 : Hid (RuRow base w (.slice (some ⟨g, 0, none⟩) len cap) l) := by rw [← hlen]; exact h
    clear hlen hN h
    go_enter Try.func34, Try.ntmps34
    go_wp2_with fail
    refine I.mono ?_
    rintro e w1 ⟨rfl, b1⟩
    have HS : Hid (RuRow base w1 (.slice (some ⟨g, 0, none⟩) len cap) l ∧ Below base w w1) := ⟨HR0.out.below (fun k hk => (HR0.out.lt k hk).2) b1, b1.mono hb⟩
    clear b1 I HR0
    have hN0 : ((N : Int) == -1) = false := by rw [beq_eq_false_iff_ne]; omega
    go_wp2
    go_loopw [5, 6] (fun i j wr => ∃ k m : Nat, k ≤ len ∧ m < k ∧ i = .int .i64 m ∧ j = .int .i64 k ∧ Hid ((ruLeftK l p k).length = m ∧ RuRow base wr (.slice (some ⟨g, 0, none⟩) len cap) (ruLeftK l p k ++ l.drop m) ∧ Below base w wr)) (fun _ j _ => len - (intOf j).toNat)
    case atStart =>
      refine ⟨N + 1, N, by omega, by omega, rfl, by go_num, ?_⟩
      have hp : p (ruAt l N) = true := by
        have hl' : N < l.length := by rw [Hlen.out]; exact hlt
        rw [ruAt_lt hl']
        have := List.findIdx_getElem (p := p) (xs := l) (w := by rw [HN.out]; exact hl')
        simpa only [HN.out] using this
      have e1 : ruLeftK l p (N + 1) = l.take N := by
        rw [ruLeftK_succ (by rw [Hlen.out]; exact hlt), if_pos hp]
        have := ruLeftK_idx (l := l) (p := p)
        rwa [HN.out] at this
      refine ⟨by rw [e1, List.length_take, Hlen.out]; omega, ?_, HS.out.2⟩
      rw [e1, List.take_append_drop]
      exact HS.out.1
    case round =>
      obtain ⟨k, m, hk, hmk, rfl, rfl, H1⟩ := hrel
      have hll : (ruLeftK l p k ++ l.drop m).length = len := by rw [List.length_append, H1.out.1, List.length_drop, Hlen.out]; omega
      by_cases hkl : k < len
      · have R : RusAt wr (some ⟨g, 0, none⟩) (ruLeftK l p k ++ l.drop m) := by
          have := H1.out.2.1
          rw [← hll] at this
          exact this.at
        have hat : ruAt (ruLeftK l p k ++ l.drop m) k = ruAt l k := by
          unfold ruAt
          rw [List.getElem?_append_right (by rw [H1.out.1]; omega), H1.out.1, List.getElem?_drop, show m + (k - m) = k by omega]
        obtain ⟨c0, c1, c2, c3, c4, c5, c6, c7, c8, c9⟩ := R.cells (k := k) (by rw [hll]; exact hkl)
        rw [hat] at c0 c1 c2 c3 c4 c5 c6 c7 c8 c9
        simp only [Nat.zero_add] at c0 c1 c2 c3 c4 c5 c6 c7 c8 c9
        have hmem : ruAt l k ∈ l := by rw [ruAt_lt (by rw [Hlen.out]; exact hkl)]; exact List.getElem_mem _
        have hs := ruLeftK_succ (l := l) (p := p) (k := k) (by rw [Hlen.out]; exact hkl)
        have HT := fun (x : World) (hx : Below base wr x) => ht.out.tells x (ruAt l k) (hq.out _ hmem) fun j hj => ((H1.out.2.2.trans hx).block j (hD.out j hj))
        unfold Ru.val at HT
        have HT' : Hid _ := HT
        have hkl' : (k : Int) < (len : Int) := by omega
        have hml : (m : Int) < (len : Int) := by omega
        have hbw : base ≤ wr.heap.size := Nat.le_trans hb H1.out.2.2.size
        clear HT hmem hat R
        cases hp : p (ruAt l k)
        · rw [hp] at hs HT'
          simp only [Bool.false_eq_true, if_false] at hs
          have Hs : Hid _ := hs
          clear hs hp
          generalize ruAt l k = r at c0 c1 c2 c3 c4 c5 c6 c7 c8 c9 Hs HT'
          go_wp2_with fail
          refine (HT'.out _ ((Below.refl _ _).alloc hbw _)).mono ?_
          rintro e w4 ⟨rfl, b4⟩
          have B4 : Below base wr w4 := ((Below.refl _ wr).alloc hbw _).trans (b4.mono (by simp; omega))
          have X4 : Boxed w4 wr.heap.size #[.int .i64 r.id, .int .i64 r.prio, .int .i64 r.snet, .int .i64 r.sbits, .int .i64 r.dnet, .int .i64 r.dbits, .int .i64 r.proto, .int .i64 r.low, .int .i64 r.high, .int .i64 r.cls] 32 := (Boxed.new wr _ _).below (by simp) b4
          have R4 : RuRow base w4 (.slice (some ⟨g, 0, none⟩) len cap) (ruLeftK l p k ++ l.drop m) := (H1.out.2.1.alloc _).below (n := (wr.alloc (.cells #[.int .i64 r.id, .int .i64 r.prio, .int .i64 r.snet, .int .i64 r.sbits, .int .i64 r.dnet, .int .i64 r.dbits, .int .i64 r.proto, .int .i64 r.low, .int .i64 r.high, .int .i64 r.cls] 32)).heap.size) (fun k hk => ((H1.out.2.1.alloc (.cells #[.int .i64 r.id, .int .i64 r.prio, .int .i64 r.snet, .int .i64 r.sbits, .int .i64 r.dnet, .int .i64 r.dbits, .int .i64 r.proto, .int .i64 r.low, .int .i64 r.high, .int .i64 r.cls] 32)).lt k hk).2) b4
          have hR := R4
          unfold RuRow at hR
          rw [hll] at hR
          have hP := RuRow.put hR m r
          have ex : ∀ j, j < len * 10 → ∃ v, w4.cell? ⟨g, j, none⟩ = some v := by
            intro j hj
            rw [hR.cellAt j hj]
            exact ⟨_, List.getElem?_eq_getElem (by rw [rucells_length, hll]; exact hj)⟩
          obtain ⟨y0, hy0⟩ := ex (m * 10) (by omega)
          obtain ⟨y1, hy1⟩ := ex (m * 10 + 1) (by omega)
          obtain ⟨y2, hy2⟩ := ex (m * 10 + 2) (by omega)
          obtain ⟨y3, hy3⟩ := ex (m * 10 + 3) (by omega)
          obtain ⟨y4, hy4⟩ := ex (m * 10 + 4) (by omega)
          obtain ⟨y5, hy5⟩ := ex (m * 10 + 5) (by omega)
          obtain ⟨y6, hy6⟩ := ex (m * 10 + 6) (by omega)
          obtain ⟨y7, hy7⟩ := ex (m * 10 + 7) (by omega)
          obtain ⟨y8, hy8⟩ := ex (m * 10 + 8) (by omega)
          obtain ⟨y9, hy9⟩ := ex (m * 10 + 9) (by omega)
          have z0 := hR.frozenAt (m * 10)
          have z1 := hR.frozenAt (m * 10 + 1)
          have z2 := hR.frozenAt (m * 10 + 2)
          have z3 := hR.frozenAt (m * 10 + 3)
          have z4 := hR.frozenAt (m * 10 + 4)
          have z5 := hR.frozenAt (m * 10 + 5)
          have z6 := hR.frozenAt (m * 10 + 6)
          have z7 := hR.frozenAt (m * 10 + 7)
          have z8 := hR.frozenAt (m * 10 + 8)
          have z9 := hR.frozenAt (m * 10 + 9)
          have x0 : w4.cell? ⟨wr.heap.size, 0, none⟩ = some (.int .i64 r.id) := X4.cell 0 rfl
          have x1 : w4.cell? ⟨wr.heap.size, 1, none⟩ = some (.int .i64 r.prio) := X4.cell 1 rfl
          have x2 : w4.cell? ⟨wr.heap.size, 2, none⟩ = some (.int .i64 r.snet) := X4.cell 2 rfl
          have x3 : w4.cell? ⟨wr.heap.size, 3, none⟩ = some (.int .i64 r.sbits) := X4.cell 3 rfl
          have x4 : w4.cell? ⟨wr.heap.size, 4, none⟩ = some (.int .i64 r.dnet) := X4.cell 4 rfl
          have x5 : w4.cell? ⟨wr.heap.size, 5, none⟩ = some (.int .i64 r.dbits) := X4.cell 5 rfl
          have x6 : w4.cell? ⟨wr.heap.size, 6, none⟩ = some (.int .i64 r.proto) := X4.cell 6 rfl
          have x7 : w4.cell? ⟨wr.heap.size, 7, none⟩ = some (.int .i64 r.low) := X4.cell 7 rfl
          have x8 : w4.cell? ⟨wr.heap.size, 8, none⟩ = some (.int .i64 r.high) := X4.cell 8 rfl
          have x9 : w4.cell? ⟨wr.heap.size, 9, none⟩ = some (.int .i64 r.cls) := X4.cell 9 rfl
          have hset : (ruLeftK l p k ++ l.drop m).set m r = ruLeftK l p (k + 1) ++ l.drop (m + 1) := by
            rw [Hs.out, List.set_append_right _ _ (by rw [H1.out.1]; exact Nat.le_refl _), H1.out.1, Nat.sub_self]
            rw [List.drop_eq_getElem_cons (show m < l.length by rw [Hlen.out]; omega), List.set_cons_zero]
            simp
          rw [hset] at hP
          have hlen2 : (ruLeftK l p (k + 1)).length = m + 1 := by rw [Hs.out, List.length_append, H1.out.1]; rfl
          have H2 : Hid ((ruLeftK l p (k + 1)).length = m + 1 ∧ RuRow base ((((((((((w4.setCell ⟨g, m * 10, none⟩ (.int .i64 r.id)).setCell ⟨g, m * 10 + 1, none⟩ (.int .i64 r.prio)).setCell ⟨g, m * 10 + 2, none⟩ (.int .i64 r.snet)).setCell ⟨g, m * 10 + 3, none⟩ (.int .i64 r.sbits)).setCell ⟨g, m * 10 + 4, none⟩ (.int .i64 r.dnet)).setCell ⟨g, m * 10 + 5, none⟩ (.int .i64 r.dbits)).setCell ⟨g, m * 10 + 6, none⟩ (.int .i64 r.proto)).setCell ⟨g, m * 10 + 7, none⟩ (.int .i64 r.low)).setCell ⟨g, m * 10 + 8, none⟩ (.int .i64 r.high)).setCell ⟨g, m * 10 + 9, none⟩ (.int .i64 r.cls)) (.slice (some ⟨g, 0, none⟩) len cap) (ruLeftK l p (k + 1) ++ l.drop (m + 1)) ∧ Below base w ((((((((((w4.setCell ⟨g, m * 10, none⟩ (.int .i64 r.id)).setCell ⟨g, m * 10 + 1, none⟩ (.int .i64 r.prio)).setCell ⟨g, m * 10 + 2, none⟩ (.int .i64 r.snet)).setCell ⟨g, m * 10 + 3, none⟩ (.int .i64 r.sbits)).setCell ⟨g, m * 10 + 4, none⟩ (.int .i64 r.dnet)).setCell ⟨g, m * 10 + 5, none⟩ (.int .i64 r.dbits)).setCell ⟨g, m * 10 + 6, none⟩ (.int .i64 r.proto)).setCell ⟨g, m * 10 + 7, none⟩ (.int .i64 r.low)).setCell ⟨g, m * 10 + 8, none⟩ (.int .i64 r.high)).setCell ⟨g, m * 10 + 9, none⟩ (.int .i64 r.cls))) := by
            refine ⟨hlen2, ?_, (((((((((((H1.out.2.2.trans B4).setCell hg.1 _).setCell hg.1 _).setCell hg.1 _).setCell hg.1 _).setCell hg.1 _).setCell hg.1 _).setCell hg.1 _).setCell hg.1 _).setCell hg.1 _).setCell hg.1 _)⟩
            unfold RuRow
            rw [show (ruLeftK l p (k + 1) ++ l.drop (m + 1)).length = len by rw [List.length_append, hlen2, List.length_drop, Hlen.out]; omega]
            exact hP
          clear B4 X4 R4 hR hP ex b4 HT' Hs hset hlen2 H1 hll c0 c1 c2 c3 c4 c5 c6 c7 c8 c9
          go_wp2
          go_roundw
          case rel => exact ⟨k + 1, m + 1, by omega, by omega, by go_num, by go_num, H2⟩
          case measure => simp [intOf]; omega
        · rw [hp] at hs HT'
          simp only [if_true] at hs
          have H2 : Hid ((ruLeftK l p (k + 1)).length = m) := by show (ruLeftK l p (k + 1)).length = m; rw [hs]; exact H1.out.1
          have Hs : Hid _ := hs
          clear hs hp
          generalize ruAt l k = r at c0 c1 c2 c3 c4 c5 c6 c7 c8 c9 HT'
          go_wp2_with fail
          refine (HT'.out _ ((Below.refl _ _).alloc hbw _)).mono ?_
          rintro e w4 ⟨rfl, b4⟩
          have H3 : Hid ((ruLeftK l p (k + 1)).length = m ∧ RuRow base w4 (.slice (some ⟨g, 0, none⟩) len cap) (ruLeftK l p (k + 1) ++ l.drop m) ∧ Below base w w4) := by
            refine ⟨H2.out, ?_, H1.out.2.2.trans (((Below.refl _ wr).alloc hbw _).trans (b4.mono (by simp; omega)))⟩
            rw [Hs.out]
            exact (H1.out.2.1.alloc _).below (n := (wr.alloc (.cells #[.int .i64 r.id, .int .i64 r.prio, .int .i64 r.snet, .int .i64 r.sbits, .int .i64 r.dnet, .int .i64 r.dbits, .int .i64 r.proto, .int .i64 r.low, .int .i64 r.high, .int .i64 r.cls] 32)).heap.size) (fun k hk => ((H1.out.2.1.alloc (.cells #[.int .i64 r.id, .int .i64 r.prio, .int .i64 r.snet, .int .i64 r.sbits, .int .i64 r.dnet, .int .i64 r.dbits, .int .i64 r.proto, .int .i64 r.low, .int .i64 r.high, .int .i64 r.cls] 32)).lt k hk).2) b4
          clear b4 HT' Hs H1 H2 hll c0 c1 c2 c3 c4 c5 c6 c7 c8 c9
          go_wp2
          go_roundw
          case rel => exact ⟨k + 1, m, by omega, by omega, rfl, by go_num, H3⟩
          case measure => simp [intOf]; omega
      · obtain rfl : k = len := by omega
        obtain ⟨w5, hcl, r5, b5⟩ := ru_row_wipe hll H1.out.2.1 hmk
        have hfin : Hid (RuRow base w5 (.slice (some ⟨g, 0, none⟩) m cap) (l.filter fun r => !p r) ∧ Below base w w5) := by
          refine ⟨?_, H1.out.2.2.trans b5⟩
          have e1 : ruLeftK l p k = l.filter fun r => !p r := by unfold ruLeftK; rw [List.take_of_length_le (by rw [Hlen.out]; exact Nat.le_refl _)]
          rw [← e1]
          rw [List.take_append_of_le_length (by rw [H1.out.1]; exact Nat.le_refl _), List.take_of_length_le (by rw [H1.out.1]; exact Nat.le_refl _)] at r5
          exact r5
        have hmc : m ≤ cap := by omega
        have hne : (cap = m) = False := by simp; omega
        clear r5 b5 H1 hll
        go_wp2
        go_ret
        exact ⟨⟨_, rfl, hfin.out.1⟩, hfin.out.2⟩
  · rw [if_neg hlt] at I
    have hf := ru_filter_none (l := l) (p := p) (by rw [hN, hlen]; exact hlt)
    rw [hf]
    rw [hlen] at hT ⊢
    have HR0 : Hid (RuRow base w (.slice a len cap) l) := by rw [← hlen]; exact h
    clear hf hlen hN h
    go_enter Try.func34, Try.ntmps34
    go_wp2_with fail
    refine I.mono ?_
    rintro e w1 ⟨rfl, b1⟩
    have HS : Hid (RuRow base w1 (.slice a len cap) l ∧ Below base w w1) := ⟨HR0.out.below (fun k hk => (HR0.out.lt k hk).2) b1, b1.mono hb⟩
    clear b1 I HR0
    go_wp2
    go_ret
    exact ⟨⟨_, rfl, HS.out.1⟩, HS.out.2⟩
end Go.Proofs.Ytdifegaokdoleaa
