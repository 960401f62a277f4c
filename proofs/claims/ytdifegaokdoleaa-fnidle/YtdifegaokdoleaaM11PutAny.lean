import Derived.Test.YtdifegaokdoleaaCpPutI
import Derived.Test.YtdifegaokdoleaaRuClass
import Derived.Deep.RegionLaw
/-
  The model's l1Put into an empty list. By the verifier.
-/
namespace Go.Proofs.Ytdifegaokdoleaa
open Go.RowKit

/-- One number more, its block by number. -/
theorem row_iapp1n {ops : Array Oper} {rest : List Oper} {o : Oper} {a : Act} {Q : Exit → Act → World → Prop} {w wx : World} (hgd : o.guard = none) (s x : Operand)
    (ho : o.op = .call { callee := .builtin .append, args := #[s, x], argTypes := #[25, 25] })
    (base : Nat) (v : Value) (xs : List Int) (y : Int) {n : Nat} (hwx : wx = w.alloc (.cells #[.int .i64 y] 2)) (hs : a.eval s = v) (hrow : IRow base w v xs) (hx : a.eval x = .slice (some ⟨n, 0, none⟩) 1 1) (hn : n = w.heap.size)
    (hlen : xs.length ≤ 1000000) (hb : base ≤ w.heap.size)
    (h : ∀ v' w', IRow base w' v' (xs ++ [y]) → Below base w w' → wpList Try.prog ops Q rest (a.put o.dst v') w') :
    wpList Try.prog ops Q (o :: rest) a wx := by
  subst hwx
  subst hn
  exact row_iapp1 hgd s x ho base v xs y hs hrow hx hlen hb h

set_option maxHeartbeats 1600000 in
theorem specPutNil (base g cap : Nat) (x : Int) (w : World) (hb : base ≤ w.heap.size) :
    Calls Try.prog 47 #[.slice (some ⟨g, 0, none⟩) 0 cap, .int .i64 x] w fun e w' => (∃ v', e = .returned v' ∧ IRow base w' v' [x]) ∧ Below w.heap.size w w' := by
  have R0 : Hid (IRow w.heap.size ((w.alloc (.cells #[] 2)).alloc (.cells #[] 2)) (.slice (some ⟨w.heap.size + 1, 0, none⟩) 0 0) []) := by
    have q := irow_built (w.alloc (.cells #[] 2)) w.heap.size (by simp)
    rw [World.size_alloc] at q
    exact q
  have B0 : Hid (Below w.heap.size w ((w.alloc (.cells #[] 2)).alloc (.cells #[] 2))) := ((Below.refl _ w).alloc (Nat.le_refl _) _).alloc (by simp) _
  go_enter Try.func47, Try.ntmps47
  go_wp2
  go_loopw [5] (fun i wr => i = .int .i64 0 ∧ wr = w) (fun i _ => 0)
  case atStart => exact ⟨rfl, rfl⟩
  case round =>
    obtain ⟨rfl, hw⟩ := hrel
    have hw' := hw.symm
    subst hw'
    clear hw
    go_wp2_with (first | (refine row_iapp1n rfl (.tmp 43) (.tmp 45) rfl w.heap.size (.slice (some ⟨w.heap.size + 1, 0, none⟩) 0 0) [] x rfl rfl R0.out rfl (by simp) (by simp) (by simp; omega) ?_; intro v1 w1 r1 b1; have H1 : Hid (IRow w.heap.size w1 v1 [x] ∧ Below w.heap.size w w1) := ⟨r1, B0.out.trans b1⟩; clear r1 b1) | (refine row_iapp rfl (.tmp 46) (.tmp 47) rfl w.heap.size v1 [x] w.heap.size 0 0 0 [] rfl rfl rfl H1.out.1 (fun k hk => by omega) (by simp) H1.out.2.size ?_; intro v2 w2 r2 b2 _ _; have H2 : Hid (IRow w.heap.size w2 v2 [x] ∧ Below w.heap.size w w2) := ⟨by simpa using r2, H1.out.2.trans b2⟩; clear r2 b2))
    go_ret
    exact ⟨⟨_, rfl, H2.out.1.mono hb⟩, H2.out.2⟩
end Go.Proofs.Ytdifegaokdoleaa

/-
  The model's l1Put, whatever the list; the model's Shapes. By the verifier.
-/
namespace Go.Proofs.Ytdifegaokdoleaa
open Go.RowKit

theorem call_stepI {P : Program} {ops : Array Oper} {o : Oper} {a : Act} {w : World} {K : Act → World → Prop} {Q : Exit → Act → World → Prop} {E : Prop}
    (hg : o.guard = none) (f : FuncId) {az : Array Operand} {ts : Array TypeId} (_ho : o.op = .call { callee := .value (.func f), args := az, argTypes := ts }) (args : Array Value) (hrun : (execOp a.eval o).run P w = .ok (.enter f args) w) {post : Ending → World → Prop} (hc : Calls P f args w post)
    (h : ∀ e w', post e w' → ∃ v, e = .returned v ∧ K (a.put o.dst v) w') :
    if Region.wanted o (yielded ops a.tmps) = true then Oper.wp P o a w K Q else E := by
  have hw : Region.wanted o (yielded ops a.tmps) = true := by simp [Region.wanted, hg]
  rw [if_pos hw]
  unfold Oper.wp
  rw [hrun, Oper.upon_enter]
  refine hc.mono fun e w'' hh => ?_
  obtain ⟨v, rfl, hk⟩ := h e w'' hh
  exact hk
theorem irow_full {base : Nat} {w : World} {v : Value} {l : List Int} (h : IRow base w v l) (hl : l ≠ []) : v ≠ .slice none 0 0 := by
  intro e
  rcases h.2 with ⟨_, hn⟩ | ⟨g, cap, cur, e2, _⟩
  · exact hl (List.length_eq_zero_iff.1 hn)
  · rw [e] at e2; cases e2
theorem insI_nil (x : Int) : insI [] x = [x] := by simp [insI, insK]
theorem insI_ne (xs : List Int) (x : Int) : insI xs x ≠ [] := fun e => by
  have : x ∈ insI xs x := insI_mem.2 (.inl rfl)
  rw [e] at this
  cases this
theorem specPutA (base g cap : Nat) (xs : List Int) (x : Int) (w : World) (hT : xs.length ≤ 1024) (hcap : xs.length ≤ cap) (hb : base ≤ w.heap.size) (h : Hid (IRow base w (.slice (some ⟨g, 0, none⟩) xs.length cap) xs)) :
    Calls Try.prog 47 #[.slice (some ⟨g, 0, none⟩) xs.length cap, .int .i64 x] w fun e w' => (∃ g' c', e = .returned (.slice (some ⟨g', 0, none⟩) (insI xs x).length c') ∧ IRow base w' (.slice (some ⟨g', 0, none⟩) (insI xs x).length c') (insI xs x) ∧ (insI xs x).length ≤ c') ∧ Below w.heap.size w w' := by
  have fin : ∀ (w' : World) (v : Value), IRow base w' v (insI xs x) → ∃ g' c', v = .slice (some ⟨g', 0, none⟩) (insI xs x).length c' ∧ IRow base w' (.slice (some ⟨g', 0, none⟩) (insI xs x).length c') (insI xs x) ∧ (insI xs x).length ≤ c' := by
    intro w' v hr
    obtain ⟨g', c', e, hc⟩ := hr.some (irow_full hr (insI_ne xs x))
    exact ⟨g', c', e, e ▸ hr, hc⟩
  by_cases h0 : xs = []
  · subst h0
    refine (specPutNil base g cap x w hb).mono ?_
    rintro e w' ⟨⟨v, rfl, hr⟩, b⟩
    obtain ⟨g', c', rfl, h1, h2⟩ := fin w' v (by rw [insI_nil]; exact hr)
    exact ⟨⟨g', c', rfl, h1, h2⟩, b⟩
  · have h1 : 1 ≤ xs.length := by
      cases xs with
      | nil => exact absurd rfl h0
      | cons y ys => simp
    refine (specPutI base g cap xs x w hT h1 hcap hb h).mono ?_
    rintro e w' ⟨⟨v, rfl, hr, _⟩, b⟩
    obtain ⟨g', c', rfl, h1, h2⟩ := fin w' v hr
    exact ⟨⟨g', c', rfl, h1, h2⟩, b⟩

/-- The shape of a rule as a number. -/
def Ru.shape (r : Ru) : Int := r.sbits * 33 + r.dbits
def shapesK (l : List Ru) (k : Nat) : List Int := (l.take k).foldl (fun xs r => insI xs r.shape) []
theorem shapesK_succ {l : List Ru} {k : Nat} (hk : k < l.length) : shapesK l (k + 1) = insI (shapesK l k) (ruAt l k).shape := by
  unfold shapesK
  rw [List.take_succ_eq_append_getElem hk, List.foldl_append, ruAt_lt hk]
  rfl
theorem shapesK_len (l : List Ru) (k : Nat) : (shapesK l k).length ≤ k := by
  induction k with
  | zero => simp [shapesK]
  | succ k ih =>
    by_cases hk : k < l.length
    · rw [shapesK_succ hk]
      have := insI_len (shapesK l k) (ruAt l k).shape
      omega
    · unfold shapesK at ih ⊢
      rw [List.take_of_length_le (by omega)] at ih ⊢
      omega
def shapesV (l : List Ru) : List Int := if rusOk l = true then shapesK l l.length else []

set_option maxHeartbeats 6400000 in
set_option maxRecDepth 100000 in
theorem specShapes (a0 : Option Addr) (cap : Nat) (l : List Ru) (w : World) (hL : l.length ≤ 1048576) (h : Hid (RusAt w a0 l)) :
    Calls Try.prog 15 #[.slice a0 l.length cap] w fun e w' => (∃ v, e = .returned v ∧ IRow w.heap.size w' v (shapesV l)) ∧ Below w.heap.size w w' := by
  have C := fun w h => specRules a0 cap l w hL h
  have Hv : Hid (shapesV l = if rusOk l = true then shapesK l l.length else []) := rfl
  have H40 : Hid (rusOk l = true → l.length ≤ 40 ∧ ∀ k, k < l.length → (ruAt l k).ok = true) := fun h => ⟨rus_len h, fun k hk => rus_ok h hk⟩
  generalize shapesV l = res at Hv ⊢
  have HS : Hid (∀ k, k < l.length → shapesK l (k + 1) = insI (shapesK l k) (ruAt l k).shape) := fun k hk => shapesK_succ hk
  obtain ⟨len, hlen⟩ : ∃ n, l.length = n := ⟨_, rfl⟩
  rw [hlen] at C Hv H40 HS ⊢
  have Hlen : Hid (l.length = len) := hlen
  clear hlen hL
  generalize rusOk l = ok at C Hv H40
  have C' : Hid _ := C
  clear C
  have R0 : Hid (IRow w.heap.size (w.alloc (.cells #[] 2)) (.slice (some ⟨w.heap.size, 0, none⟩) 0 0) [] ∧ Below w.heap.size w (w.alloc (.cells #[] 2))) := ⟨irow_built w w.heap.size (Nat.le_refl _), (Below.refl _ w).alloc (Nat.le_refl _) _⟩
  go_enter Try.func15, Try.ntmps15
  go_wp2_with fail
  refine (C'.out _ (h.out.below R0.out.2)).mono ?_
  rintro e w1 ⟨rfl, b1⟩
  have H1 : Hid (IRow w.heap.size w1 (.slice (some ⟨w.heap.size, 0, none⟩) 0 0) [] ∧ Below w.heap.size w w1) := ⟨R0.out.1.below (fun k hk => (R0.out.1.lt k hk).2) b1, R0.out.2.trans (b1.mono R0.out.2.size)⟩
  clear b1 R0
  cases ok
  · have e : Hid (res = []) := by show res = []; rw [Hv.out]; rfl
    go_wp2
    go_ret
    exact ⟨⟨_, rfl, by rw [e.out]; exact H1.out.1⟩, H1.out.2⟩
  have e : Hid (res = shapesK l len) := by show res = _; rw [Hv.out]; rfl
  have h40 := H40.out (by first | exact trivial | exact rfl)
  have hl40 := h40.1
  have Hr : Hid (∀ k, k < len → (ruAt l k).ok = true) := h40.2
  clear H40 h40 Hv
  go_wp2_with fail
  go_loopw [3, 4] (fun v i wr => ∃ (k g c n : Nat), k ≤ len ∧ v = .slice (some ⟨g, 0, none⟩) n c ∧ i = .int .i64 k ∧ n ≤ c ∧ n ≤ k ∧ Hid ((shapesK l k).length = n) ∧ Hid (IRow w.heap.size wr (.slice (some ⟨g, 0, none⟩) n c) (shapesK l k) ∧ Below w.heap.size w wr)) (fun _ i _ => len - (intOf i).toNat)
  case atStart => exact ⟨0, w.heap.size, 0, 0, Nat.zero_le _, rfl, rfl, Nat.le_refl _, Nat.le_refl _, rfl, H1⟩
  case round =>
    clear H1
    obtain ⟨k, g, c, n, hk, rfl, rfl, hnc, hnk, Hn, H2⟩ := hrel
    by_cases hlt : k < len
    · have R : Hid (RusAt wr a0 l) := h.out.below H2.out.2
      obtain ⟨a1, o1, ha1, hb1, -⟩ := R.out k (by rw [Hlen.out]; exact hlt)
      subst ha1
      have hlt' : (k : Int) < (len : Int) := by omega
      have f3 : wr.drew.cell? ⟨a1, o1 + k * 10 + 3, none⟩ = some (.int .i64 (ruAt l k).sbits) := (R.out.drew.cells (k := k) (by rw [Hlen.out]; omega)).2.2.2.1
      have f5 : wr.drew.cell? ⟨a1, o1 + k * 10 + 5, none⟩ = some (.int .i64 (ruAt l k).dbits) := (R.out.drew.cells (k := k) (by rw [Hlen.out]; omega)).2.2.2.2.2.1
      have hok := netB_parts (Ru.ok_nets (Hr.out k hlt)).1
      have hok2 := netB_parts (Ru.ok_nets (Hr.out k hlt)).2
      have s1 := inB_true.1 hok.1
      have s2 := inB_true.1 hok2.1
      have P := fun wz hz h => specPutA w.heap.size g c (shapesK l k) (ruAt l k).shape wz (by rw [Hn.out]; omega) (by rw [Hn.out]; exact hnc) hz h
      have hlen' := shapesK_len l (k + 1)
      have hss := HS.out k hlt
      rw [← hss] at P
      unfold Ru.shape at P
      generalize (ruAt l k).sbits = sb at f3 s1 P
      generalize (ruAt l k).dbits = db at f5 s2 P
      rw [Hn.out] at P
      have q1 : IntKind.i64.wrap (sb * 33) = sb * 33 := by rw [IntKind.wrap_i64]; omega
      have q2 : IntKind.i64.wrap (sb * 33 + db) = sb * 33 + db := by rw [IntKind.wrap_i64]; omega
      have P' : Hid _ := P
      clear P hok hok2 hss
      go_wp2_with fail
      go_region_law (refine call_stepI rfl 47 rfl #[.slice (some ⟨g, 0, none⟩) n c, .int .i64 (sb * 33 + db)] (by kernel_rfl) (P'.out wr.drew H2.out.2.size H2.out.1) ?_; rintro e5 w5 ⟨⟨g5, c5, rfl, r5, hc5⟩, b5⟩; refine ⟨_, rfl, ?_⟩; have H5 : Hid (IRow w.heap.size w5 (.slice (some ⟨g5, 0, none⟩) (shapesK l (k + 1)).length c5) (shapesK l (k + 1)) ∧ Below w.heap.size w w5) := ⟨r5, H2.out.2.drew.trans (b5.mono H2.out.2.size)⟩; clear r5 b5)
      all_goals (clear f3 f5 q1 q2 H2 R; go_wp2; go_roundw)
      all_goals first | exact ⟨k + 1, g5, c5, (shapesK l (k + 1)).length, by omega, rfl, by go_num, hc5, hlen', rfl, H5⟩ | (simp [intOf]; omega)
    · obtain rfl : k = len := by omega
      go_wp2
      go_ret
      exact ⟨⟨_, rfl, by rw [e.out]; exact H2.out.1⟩, H2.out.2⟩
end Go.Proofs.Ytdifegaokdoleaa
