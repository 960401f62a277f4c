/-
  The walks of the program's Shapes and Idle. By the verifier, by program.
-/
import Derived.Test.YtdifegaokdoleaaRuSet
import Derived.Test.YtdifegaokdoleaaRuIdle
import Derived.Test.YtdifegaokdoleaaRuEach
import Derived.Test.YtdifegaokdoleaaM10RuOrder
namespace Go.Proofs.Ytdifegaokdoleaa
open Go.RowKit Go.Shelf Go.Maps

theorem not_set {w : World} {b n : Nat} {S : Int → Bool} (h : ISet w b n S) {off : Nat} {v : Value} (c : ∃ o, w.cell? ⟨o, off, none⟩ = some v ∧ o = b) : False := by
  obtain ⟨D, ⟨es, clock, h1, _⟩, _⟩ := h
  obtain ⟨o, hc, rfl⟩ := c
  simp [World.cell?, h1] at hc
theorem RusAt.aside {w w' : World} {a : Option Addr} {l : List Ru} {b n : Nat} {S : Int → Bool} (h : RusAt w a l) (hm : ISet w b n S) (hg : w.grownBy w' (some b)) : RusAt w' a l := by
  intro k hk
  obtain ⟨o, off, e, ho, c0, c1, c2, c3, c4, c5, c6, c7, c8, c9⟩ := h k hk
  have hne : o ≠ b := fun e => not_set hm ⟨o, c0, e⟩
  exact ⟨o, off, e, Nat.lt_of_lt_of_le ho hg.size, hg.cell c0 (by simpa using hne), hg.cell c1 (by simpa using hne), hg.cell c2 (by simpa using hne), hg.cell c3 (by simpa using hne), hg.cell c4 (by simpa using hne), hg.cell c5 (by simpa using hne), hg.cell c6 (by simpa using hne), hg.cell c7 (by simpa using hne), hg.cell c8 (by simpa using hne), hg.cell c9 (by simpa using hne)⟩
/-- Rising lists stay so. -/
theorem insI_rise {xs : List Int} (h : xs.Pairwise (· < ·)) (x : Int) : (insI xs x).Pairwise (· < ·) := by
  by_cases hx : xs[insK xs x]? = some x
  · have e : insI xs x = xs := by unfold insI; rw [if_pos hx]
    rw [e]; exact h
  · have e : insI xs x = xs.take (insK xs x) ++ [x] ++ xs.drop (insK xs x) := by unfold insI; rw [if_neg hx]
    rw [e]
    have hlt : ∀ y ∈ xs.take (insK xs x), y < x := by
      intro y hy
      obtain ⟨j, hj, rfl⟩ := List.mem_iff_getElem.1 hy
      rw [List.length_take] at hj
      have := List.not_of_lt_findIdx (p := fun y => !decide (y < x)) (xs := xs) (i := j) (by unfold insK at hj; omega)
      rw [List.getElem_take]
      simpa using this
    have hgt : ∀ y ∈ xs.drop (insK xs x), x < y := by
      intro y hy
      by_cases hk : insK xs x < xs.length
      · have h0 : ¬ xs[insK xs x] < x := by
          have this : (!decide (xs[insK xs x] < x)) = true := List.findIdx_getElem (p := fun y => !decide (y < x)) (xs := xs) (w := hk)
          simpa using this
        have h1 : xs[insK xs x] ≠ x := fun e => hx (by rw [List.getElem?_eq_getElem hk, e])
        rw [List.drop_eq_getElem_cons hk] at hy
        rcases List.mem_cons.1 hy with rfl | hy
        · omega
        · have hd : (xs[insK xs x] :: xs.drop (insK xs x + 1)).Pairwise (· < ·) := by rw [← List.drop_eq_getElem_cons hk]; exact h.sublist (List.drop_sublist _ _)
          have := (List.pairwise_cons.1 hd).1 y hy
          omega
      · rw [List.drop_of_length_le (by omega)] at hy
        cases hy
    rw [List.append_assoc, List.pairwise_append]
    refine ⟨h.sublist (List.take_sublist _ _), ?_, ?_⟩
    · rw [List.singleton_append, List.pairwise_cons]
      exact ⟨hgt, h.sublist (List.drop_sublist _ _)⟩
    · intro a ha b hb
      rw [List.singleton_append] at hb
      rcases List.mem_cons.1 hb with rfl | hb
      · exact hlt a ha
      · have := hlt a ha; have := hgt b hb; omega
theorem shapesK_rise (l : List Ru) : ∀ k, k ≤ l.length → (shapesK l k).Pairwise (· < ·) := by
  intro k
  induction k with
  | zero => intro _; exact List.Pairwise.nil
  | succ k ih => intro hk; rw [shapesK_succ (by omega)]; exact insI_rise (ih (by omega)) _
/-- What the set holds. -/
def shapeS (l : List Ru) (k : Nat) (x : Int) : Bool := decide (x ∈ shapesK l k)
theorem shapeS_succ {l : List Ru} {k : Nat} (hk : k < l.length) : (fun y => decide (y = (ruAt l k).shape) || shapeS l k y) = shapeS l (k + 1) := by
  funext y
  unfold shapeS
  rw [shapesK_succ hk, Bool.eq_iff_iff]
  simp only [Bool.or_eq_true, decide_eq_true_eq, insI_mem]
theorem wf_i {x : Int} (h0 : -9223372036854775808 ≤ x) (h1 : x ≤ 9223372036854775807) : (Lit.int .i64 x).wf = true := WalkArith.wf_i64 (by omega)

set_option maxHeartbeats 6400000 in
set_option maxRecDepth 100000 in
theorem implShapes (a0 : Option Addr) (cap : Nat) (l : List Ru) (w : World) (hL : l.length ≤ 1048576) (h : Hid (RusAt w a0 l)) :
    Calls Try.prog 14 #[.slice a0 l.length cap] w fun e w' => (∃ v, e = .returned v ∧ IRow w.heap.size w' v (shapesV l)) ∧ Below w.heap.size w w' := by
  have C := fun w h => implRules a0 cap l w hL h
  have Hv : Hid (shapesV l = if rusOk l = true then shapesK l l.length else []) := rfl
  have H40 : Hid (rusOk l = true → l.length ≤ 40 ∧ ∀ k, k < l.length → (ruAt l k).ok = true) := fun h => ⟨rus_len h, fun k hk => rus_ok h hk⟩
  generalize shapesV l = res at Hv ⊢
  have HS : Hid (∀ k, k < l.length → (fun y => decide (y = (ruAt l k).shape) || shapeS l k y) = shapeS l (k + 1)) := fun k hk => shapeS_succ hk
  have RI := fun b n w hn h => implRising b n (shapeS l l.length) (shapesK l l.length) w hn h (shapesK_rise l _ (Nat.le_refl _)) (fun x => decide_eq_true_iff)
  obtain ⟨len, hlen⟩ : ∃ n, l.length = n := ⟨_, rfl⟩
  rw [hlen] at C Hv H40 HS RI ⊢
  have Hlen : Hid (l.length = len) := hlen
  clear hlen hL
  generalize rusOk l = ok at C Hv H40
  have C' : Hid _ := C
  have RI' : Hid _ := RI
  clear C RI
  have hmm := @run_makeMap Try.prog
  go_enter Try.func14, Try.ntmps14
  go_wp2_with fail
  refine (C'.out _ h).mono ?_
  rintro e w1 ⟨rfl, b1⟩
  have H1 : Hid (Below w.heap.size w w1) := b1
  clear b1
  cases ok
  · have e : Hid (res = []) := by show res = []; rw [Hv.out]; rfl
    go_wp2
    go_ret
    exact ⟨⟨_, rfl, by rw [e.out]; exact irow_built w1 w.heap.size H1.out.size⟩, H1.out.alloc H1.out.size _⟩
  have e : Hid (res = shapesK l len) := by show res = _; rw [Hv.out]; rfl
  have h40 := H40.out (by first | exact trivial | exact rfl)
  have hl40 := h40.1
  have Hr : Hid (∀ k, k < len → (ruAt l k).ok = true) := h40.2
  clear H40 h40 Hv
  have M0 : Hid (ISet (w1.alloc (.map #[] 0)) w1.heap.size 0 (shapeS l 0) ∧ Below w.heap.size w (w1.alloc (.map #[] 0)) ∧ RusAt (w1.alloc (.map #[] 0)) a0 l ∧ w.heap.size ≤ w1.heap.size) := by
    refine ⟨?_, H1.out.alloc H1.out.size _, (h.out.below H1.out).alloc _, H1.out.size⟩
    have : shapeS l 0 = fun _ => false := by funext x; simp [shapeS, shapesK]
    rw [this]
    exact ISet.made w1
  go_wp2_with fail
  obtain ⟨M, hM⟩ : ∃ M, w1.heap.size = M := ⟨_, rfl⟩
  rw [hM] at M0 ⊢
  generalize w1.alloc (.map #[] 0) = w2 at M0 ⊢
  clear hM H1
  go_loopw [13] (fun i wr => ∃ k : Nat, k ≤ len ∧ i = .int .i64 k ∧ Hid (ISet wr M k (shapeS l k) ∧ Below w.heap.size w wr ∧ RusAt wr a0 l)) (fun i _ => len - (intOf i).toNat)
  case atStart => exact ⟨0, Nat.zero_le _, rfl, M0.out.1, M0.out.2.1, M0.out.2.2.1⟩
  case round =>
    obtain ⟨k, hk, rfl, H2⟩ := hrel
    by_cases hlt : k < len
    · obtain ⟨a1, o1, ha1, hb1, -⟩ := H2.out.2.2 k (by rw [Hlen.out]; exact hlt)
      subst ha1
      have hlt' : (k : Int) < (len : Int) := by omega
      obtain ⟨c0, c1, c2, c3, c4, c5, c6, c7, c8, c9⟩ := H2.out.2.2.cells (k := k) (by rw [Hlen.out]; exact hlt)
      have hok := netB_parts (Ru.ok_nets (Hr.out k hlt)).1
      have hok2 := netB_parts (Ru.ok_nets (Hr.out k hlt)).2
      have s1 := inB_true.1 hok.1
      have s2 := inB_true.1 hok2.1
      have hS := HS.out k hlt
      unfold Ru.shape at hS
      have HS2 : Hid _ := hS
      clear hok hok2 hS
      generalize ruAt l k = r at c0 c1 c2 c3 c4 c5 c6 c7 c8 c9 s1 s2 HS2
      have q1 : IntKind.i64.wrap (r.sbits * 33) = r.sbits * 33 := by rw [IntKind.wrap_i64]; omega
      have q2 : IntKind.i64.wrap (r.sbits * 33 + r.dbits) = r.sbits * 33 + r.dbits := by rw [IntKind.wrap_i64]; omega
      have AD := fun w h => implAdd M k (shapeS l k) (r.sbits * 33 + r.dbits) w (by omega) (wf_i (by omega) (by omega)) h
      rw [HS2.out] at AD
      have AD' : Hid _ := AD
      have H3 : Hid (ISet (wr.alloc (.cells #[.int .i64 r.id, .int .i64 r.prio, .int .i64 r.snet, .int .i64 r.sbits, .int .i64 r.dnet, .int .i64 r.dbits, .int .i64 r.proto, .int .i64 r.low, .int .i64 r.high, .int .i64 r.cls] 32)) M k (shapeS l k) ∧ Below w.heap.size w (wr.alloc (.cells #[.int .i64 r.id, .int .i64 r.prio, .int .i64 r.snet, .int .i64 r.sbits, .int .i64 r.dnet, .int .i64 r.dbits, .int .i64 r.proto, .int .i64 r.low, .int .i64 r.high, .int .i64 r.cls] 32)) ∧ RusAt (wr.alloc (.cells #[.int .i64 r.id, .int .i64 r.prio, .int .i64 r.snet, .int .i64 r.sbits, .int .i64 r.dnet, .int .i64 r.dbits, .int .i64 r.proto, .int .i64 r.low, .int .i64 r.high, .int .i64 r.cls] 32)) (some ⟨a1, o1, none⟩) l) := ⟨H2.out.1.kept (Below.heap_alloc _ _ _ H2.out.1.lt), H2.out.2.1.alloc H2.out.2.1.size _, H2.out.2.2.alloc _⟩
      clear AD
      go_wp2_with fail
      refine (AD'.out _ H3.out.1).mono ?_
      rintro e5 w5 ⟨rfl, m5, g5⟩
      have H5 : Hid (ISet w5 M (k + 1) (shapeS l (k + 1)) ∧ Below w.heap.size w w5 ∧ RusAt w5 (some ⟨a1, o1, none⟩) l) := ⟨m5, H3.out.2.1.grown g5 H3.out.2.1.size (by rintro j e; cases e; exact M0.out.2.2.2), H3.out.2.2.aside H3.out.1 g5⟩
      clear m5 g5 H3 H2 c0 c1 c2 c3 c4 c5 c6 c7 c8 c9 q1 q2
      go_wp2
      go_roundw
      case rel => exact ⟨k + 1, by omega, by go_num, H5⟩
      case measure => simp [intOf]; omega
    · obtain rfl : k = len := by omega
      go_wp2_with fail
      refine (RI'.out M k _ (by omega) H2.out.1).mono ?_
      rintro e5 w5 ⟨⟨v5, rfl, r5⟩, b5⟩
      have H5 : Hid (IRow w.heap.size w5 v5 (shapesK l k) ∧ Below w.heap.size w w5) := ⟨r5.mono H2.out.2.1.size, H2.out.2.1.trans (b5.mono H2.out.2.1.size)⟩
      clear r5 b5 H2
      go_wp2
      go_ret
      exact ⟨⟨_, rfl, by rw [e.out]; exact H5.out.1⟩, H5.out.2⟩
end Go.Proofs.Ytdifegaokdoleaa
