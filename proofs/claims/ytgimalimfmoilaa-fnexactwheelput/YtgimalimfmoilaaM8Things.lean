import Derived.Test.YtgimalimfmoilaaM0DzPlain
import Derived.Test.YtgimalimfmoilaaM2WhFn
import Derived.Test.YtgimalimfmoilaaM6DzTo
import Derived.Test.YtgimalimfmoilaaDzMark
import Derived.Test.YtgimalimfmoilaaStepRow
import Derived.Laws.ResultCell
import Derived.Laws.CopyOwn
import Derived.Test.YtgimalimfmoilaaBoxed
/-
  Nothing but what lies between two places was turned. By the verifier.
-/
namespace Go.Proofs.Ytgimalimfmoilaa
open Go.RowKit

/-- Nothing but what lies from b up to t was turned; what is new lies behind. -/
structure Span (b t : Nat) (w w' : World) : Prop where
  os : w'.os = w.os
  tape : w'.tape = w.tape
  output : w'.output = w.output
  size : w.heap.size ≤ w'.heap.size
  block : ∀ k, k < w.heap.size → k < b ∨ t ≤ k → w'.heap[k]? = w.heap[k]?
theorem Span.refl (b t : Nat) (w : World) : Span b t w w := ⟨rfl, rfl, rfl, Nat.le_refl _, fun _ _ _ => rfl⟩
theorem Span.trans {b t : Nat} {x y z : World} (h : Span b t x y) (g : Span b t y z) : Span b t x z :=
  ⟨g.os.trans h.os, g.tape.trans h.tape, g.output.trans h.output, Nat.le_trans h.size g.size, fun k hk hb => (g.block k (Nat.lt_of_lt_of_le hk h.size) hb).trans (h.block k hk hb)⟩
theorem Span.of_turn {H : Nat → Nat → Prop} {b t : Nat} {w w' : World} (h : Turn H w w') (hb : ∀ k o, H k o → b ≤ k ∧ k < t) : Span b t w w' :=
  ⟨h.os, h.tape, h.output, Nat.le_of_eq h.size.symm, fun k _ hk => h.block k fun o ho => by have := hb k o ho; omega⟩
theorem Span.of_below {b t : Nat} {w w' : World} (h : Below w.heap.size w w') : Span b t w w' := ⟨h.os, h.tape, h.output, h.size, fun k hk _ => h.block k hk⟩
theorem Span.below {b t n : Nat} {w w' : World} (h : Span b t w w') (hn : n ≤ b) (hs : n ≤ w.heap.size) : Below n w w' := ⟨h.os, h.tape, h.output, h.size, fun k hk => h.block k (by omega) (.inl (by omega))⟩
end Go.Proofs.Ytgimalimfmoilaa

/-
  A record of a number and a list (Wheel): the laws' copies, sizes, comparisons, marks. By the verifier, by program.
-/
namespace Go.Proofs.Ytgimalimfmoilaa
open Go.RowKit

/-- With its numbers put in. -/
def Wh.mk' (s : Int) (r : Wh) : Wh := ⟨r.step, dzMks s r.slots r.slots.length⟩
set_option maxHeartbeats 1600000 in
theorem szWhs (L : Int) (h0 : 0 ≤ L) (h1 : L ≤ 1048576) (r : Wh) (a : Option Addr) (c : Nat) (w : World) (hl : (r.slots.length : Int) ≤ 9223372036854775807) (hin : Hid (∀ k, k < r.slots.length → ((dzAt r.slots k).length : Int) ≤ 9223372036854775807)) (h : Hid (DzAt w a r.slots)) :
    Calls Try.prog 22 #[r.val a c, .int .i64 L] w fun e w' => e = .returned (.int .i64 (if L - (r.big : Nat) < 0 then -1 else L - (r.big : Nat))) ∧ Below w.heap.size w w' := by
  have C := fun w h => szDzs L h0 h1 a c r.slots w hl hin h
  rw [show r.slots.length + dzSum r.slots r.slots.length = r.big from rfl] at C
  generalize r.big = B at C ⊢
  unfold Wh.val
  have X : Hid (DzAt (w.alloc (.cells #[.int .i64 r.step, .slice a r.slots.length c] 42)) a r.slots ∧ Below w.heap.size w (w.alloc (.cells #[.int .i64 r.step, .slice a r.slots.length c] 42))) := ⟨h.out.alloc _, (Below.refl _ _).alloc (Nat.le_refl _) _⟩
  generalize r.slots.length = n at C X ⊢
  generalize r.step = f at X ⊢
  have C' : Hid _ := C
  clear C
  by_cases hn : L - (B : Nat) < 0
  · rw [if_pos hn] at C' ⊢
    go_enter Try.func22, Try.ntmps22
    go_wp2_with fail
    refine (C'.out _ X.out.1).mono ?_
    rintro e w' ⟨rfl, rfl⟩
    go_wp2
    go_ret
    exact ⟨rfl, X.out.2⟩
  · rw [if_neg hn] at C' ⊢
    have hn' : ¬ L - (B : Int) < 0 := hn
    go_enter Try.func22, Try.ntmps22
    go_wp2_with fail
    refine (C'.out _ X.out.1).mono ?_
    rintro e w' ⟨rfl, rfl⟩
    go_wp2
    go_ret
    exact ⟨rfl, X.out.2⟩

set_option maxHeartbeats 1600000 in
set_option maxRecDepth 100000 in
theorem toWhs (r : Wh) (a : Option Addr) (c : Nat) (w : World) (hB : r.big ≤ 1048576) (h : Hid (DzAt w a r.slots)) :
    Calls Try.prog 24 #[r.val a c] w fun e w' => (∃ v, e = .returned v ∧ WhIn w.heap.size w'.heap.size w' v r) ∧ Below w.heap.size w w' := by
  obtain ⟨hT, -, hin⟩ := Wh.small hB
  have T := fun w h => toDzs a c r.slots w hT hin h
  obtain ⟨f, l⟩ := r
  simp only [Wh.val] at T h ⊢
  clear hin hT hB
  obtain ⟨n, hn⟩ : ∃ n, l.length = n := ⟨_, rfl⟩
  have Hn : Hid (l.length = n) := hn
  rw [hn] at T ⊢
  clear hn
  have T' : Hid _ := T
  clear T
  obtain ⟨W, hW⟩ : ∃ W, W = ((w.alloc (.cells #[.int .i64 f, .slice a n c] 42)).alloc (.cells #[.int .i64 0, .slice none 0 0] 47)).alloc (.cells #[.int .i64 f, .slice none 0 0] 47) := ⟨_, rfl⟩
  have X : Hid (DzAt W a l ∧ Below w.heap.size w W ∧ Boxed W (w.heap.size + 1) #[.int .i64 0, .slice none 0 0] 47 ∧ Boxed W (w.heap.size + 2) #[.int .i64 f, .slice none 0 0] 47 ∧ w.heap.size + 3 = W.heap.size) := by
    rw [hW]
    refine ⟨((h.out.alloc _).alloc _).alloc _, (((Below.refl _ _).alloc (Nat.le_refl _) _).alloc (by simp) _).alloc (by simp; omega) _, ?_, ?_, by simp⟩
    · have := (Boxed.new (w.alloc (.cells #[.int .i64 f, .slice a n c] 42)) #[.int .i64 0, .slice none 0 0] 47).more (.cells #[.int .i64 f, .slice none 0 0] 47)
      simpa using this
    · have := Boxed.new ((w.alloc (.cells #[.int .i64 f, .slice a n c] 42)).alloc (.cells #[.int .i64 0, .slice none 0 0] 47)) #[.int .i64 f, .slice none 0 0] 47
      simpa using this
  have HW : Hid (W = _) := hW
  clear hW h
  go_enter Try.func24, Try.ntmps24
  go_wp2_with fail
  rw [← HW.out]
  refine (T'.out _ X.out.1).mono ?_
  rintro e w1 ⟨g, rfl, q1, q2⟩
  have hz := X.out.2.2.2.2
  have X1 : Hid (Below w.heap.size w w1 ∧ Boxed w1 (w.heap.size + 1) #[.int .i64 0, .slice none 0 0] 47 ∧ Boxed w1 (w.heap.size + 2) #[.int .i64 f, .slice none 0 0] 47 ∧ DzIn W.heap.size w1.heap.size w1 (.slice (some ⟨g, 0, none⟩) n n) l ∧ w.heap.size + 3 ≤ w1.heap.size ∧ w.heap.size + 3 = W.heap.size) :=
    ⟨X.out.2.1.trans (q2.mono X.out.2.1.size), X.out.2.2.1.below (by omega) q2, X.out.2.2.2.1.below (by omega) q2, q1, by have := q2.size; omega, hz⟩
  have X2 : Hid (Boxed (w1.setCell ⟨w.heap.size + 2, 1, none⟩ (.slice (some ⟨g, 0, none⟩) n n)) (w.heap.size + 1) #[.int .i64 0, .slice none 0 0] 47 ∧ Boxed (w1.setCell ⟨w.heap.size + 2, 1, none⟩ (.slice (some ⟨g, 0, none⟩) n n)) (w.heap.size + 2) #[.int .i64 f, .slice (some ⟨g, 0, none⟩) n n] 47) :=
    ⟨X1.out.2.1.far (by omega) _ _, X1.out.2.2.1.put 1 _⟩
  have d1 : w1.cell? ⟨w.heap.size + 2, 1, none⟩ = some (.slice none 0 0) := X1.out.2.2.1.cell 1 rfl
  have z1 := X1.out.2.2.1.ice 1
  clear q1 q2 X hz
  go_wp2_with (first | (refine wpList_load_row rfl 47 (.tmp 3) rfl (w.heap.size + 2) rfl _ _ _ _ X2.out.2 Try.underlying47 rfl (by kernel_rfl) ?_) | (refine wpList_store_row rfl 47 (.tmp 2) (.tmp 11) rfl (w.heap.size + 1) _ rfl rfl _ _ X2.out.1 (by kernel_rfl) rfl (by simp [Value.oneCell']) ?_))
  have hB : ∀ k, k ≠ w.heap.size + 1 → k ≠ w.heap.size + 2 → ((w1.setCell ⟨w.heap.size + 2, 1, none⟩ (.slice (some ⟨g, 0, none⟩) n n)).setRow (w.heap.size + 1) #[.int .i64 f, .slice (some ⟨g, 0, none⟩) n n]).heap[k]? = w1.heap[k]? := fun k h1 h2 => by
    rw [setRow_other _ _ _ _ h1]
    exact Below.heap_setCell _ _ _ _ h2
  have hS : ((w1.setCell ⟨w.heap.size + 2, 1, none⟩ (.slice (some ⟨g, 0, none⟩) n n)).setRow (w.heap.size + 1) #[.int .i64 f, .slice (some ⟨g, 0, none⟩) n n]).heap.size = w1.heap.size := by
    rw [size_setRow]
    simp [World.setCell]
  refine bodyPost_ret (results_cell_row Try.results24 _ _ (w.heap.size + 1) _ _ _ _ rfl (setRow_heap _ (w.heap.size + 1) _ _ _ _ X2.out.1) Try.underlying47 rfl (by kernel_rfl)) rfl ⟨⟨_, rfl, some ⟨g, 0, none⟩, n, by show _ = Value.agg #[_, .slice _ l.length _]; rw [Hn.out], ?_⟩, below_setRow (X1.out.1.setCell (by show w.heap.size ≤ w.heap.size + 2; omega) _) (by omega) _⟩
  rw [hS]
  show DzIn _ _ _ (.slice _ l.length _) l
  rw [Hn.out]
  have q := X1.out.2.2.2.1
  have e := X1.out.2.2.2.2.2
  exact (q.keep (by rw [hS]; exact Nat.le_refl _) fun k h1 h2 => hB k (by omega) (by omega)).wide (by omega) (Nat.le_refl _) (by rw [hS]; exact Nat.le_refl _)

set_option maxHeartbeats 1600000 in
theorem eqWhs (v1 v2 : Value) (r : Wh) (w : World) (hB : r.big ≤ 1048576) (h1 : Hid (WhAt w v1 r)) (h2 : Hid (WhAt w v2 r)) :
    Calls Try.prog 26 #[v1, v2] w fun e w' => e = .returned (.bool true) ∧ Below w.heap.size w w' := by
  obtain ⟨a1, c1, rfl, k1⟩ := h1.out
  obtain ⟨a2, c2, rfl, k2⟩ := h2.out
  obtain ⟨hT, -, hin⟩ := Wh.small hB
  have E := fun w h1 h2 => eqDzs a1 a2 c1 c2 r.slots w hT hin h1 h2
  clear h1 h2 hin hT hB
  obtain ⟨f, l⟩ := r
  simp only [Wh.val] at E k1 k2 ⊢
  generalize l.length = n at E ⊢
  have E' : Hid _ := E
  clear E
  have X : Hid (DzAt ((w.alloc (.cells #[.int .i64 f, .slice a1 n c1] 47)).alloc (.cells #[.int .i64 f, .slice a2 n c2] 47)) a1 l ∧ DzAt ((w.alloc (.cells #[.int .i64 f, .slice a1 n c1] 47)).alloc (.cells #[.int .i64 f, .slice a2 n c2] 47)) a2 l ∧ Below w.heap.size w ((w.alloc (.cells #[.int .i64 f, .slice a1 n c1] 47)).alloc (.cells #[.int .i64 f, .slice a2 n c2] 47))) :=
    ⟨(k1.alloc _).alloc _, (k2.alloc _).alloc _, ((Below.refl _ _).alloc (Nat.le_refl _) _).alloc (by simp) _⟩
  clear k1 k2
  go_enter Try.func26, Try.ntmps26
  go_wp2_with fail
  refine (E'.out _ X.out.1 X.out.2.1).mono ?_
  rintro e w1 ⟨rfl, q⟩
  have X1 : Hid (Below w.heap.size w w1) := X.out.2.2.trans (q.mono X.out.2.2.size)
  clear q
  go_wp2
  go_ret
  exact ⟨rfl, X1.out⟩

set_option maxHeartbeats 1600000 in
theorem markWhs (s : Int) (s0 : 0 ≤ s) (s1 : s ≤ 549755813888) (b t : Nat) (v : Value) (r : Wh) (w : World) (hB : r.big ≤ 1048576) (H : Hid (WhIn b t w v r)) :
    Calls Try.prog 29 #[v, .int .i64 s] w fun e w' => e = .returned (.int .i64 (s + 2 * (dzSum r.slots r.slots.length : Int))) ∧ WhIn b t w' v (r.mk' s) ∧ Span b t w w' := by
  obtain ⟨a, c, rfl, vs, H⟩ := H.out
  obtain ⟨hT, hS, -⟩ := Wh.small hB
  have C := fun w h => markDzs s s0 s1 b t (.slice a r.slots.length c) vs r.slots hT hS w h
  have Fin : Hid (∀ w', DzV b t w' (.slice a r.slots.length c) vs (dzMks s r.slots r.slots.length) → WhIn b t w' (r.val a c) (r.mk' s)) := fun w' h => ⟨a, c, by simp [Wh.val, Wh.mk', dzMks_length], vs, by simp only [Wh.mk', dzMks_length]; exact h⟩
  have Sp : Hid (∀ w1 w', DzV b t w1 (.slice a r.slots.length c) vs r.slots → Turn (dzHits vs r.slots) w1 w' → Span b t w1 w') := fun w1 w' h g => Span.of_turn g fun k o hh => by
    obtain ⟨i, hi, hh⟩ := hh
    have := SlIn.in (h.row i hi) (k := k) (o := o)
    rw [ducells_length] at this
    exact this hh
  generalize r.mk' s = r' at Fin ⊢
  generalize (dzSum r.slots r.slots.length : Int) = N at C ⊢
  obtain ⟨f, l⟩ := r
  simp only [Wh.val] at C Fin Sp H ⊢
  generalize dzMks s l l.length = l' at C Fin
  generalize l.length = n at C Fin Sp H ⊢
  have C' : Hid _ := C
  have X : Hid (DzV b t (w.alloc (.cells #[.int .i64 f, .slice a n c] 47)) (.slice a n c) vs l ∧ Below w.heap.size w (w.alloc (.cells #[.int .i64 f, .slice a n c] 47))) := ⟨H.below ((Below.refl _ _).alloc (Nat.le_refl _) _), (Below.refl _ _).alloc (Nat.le_refl _) _⟩
  clear C H hT hS hB
  go_enter Try.func29, Try.ntmps29
  go_wp2_with fail
  refine (C'.out _ X.out.1).mono ?_
  rintro e w1 ⟨rfl, q1, q2⟩
  have X1 : Hid (WhIn b t w1 (.agg #[.int .i64 f, .slice a n c]) r' ∧ Span b t w w1) := ⟨Fin.out _ q1, (Span.of_below X.out.2).trans (Sp.out _ _ X.out.1 q2)⟩
  clear q1 q2 X Fin Sp C'
  go_wp2
  go_ret
  exact ⟨rfl, X1.out⟩

set_option maxHeartbeats 1600000 in
theorem heldWhs (s : Int) (s0 : 0 ≤ s) (s1 : s ≤ 549755813888) (v : Value) (r : Wh) (w : World) (hB : r.big ≤ 1048576) (H : Hid (WhAt w v (r.mk' s))) :
    Calls Try.prog 30 #[v, .int .i64 s] w fun e w' => e = .returned (.int .i64 (s + 2 * (dzSum r.slots r.slots.length : Int))) ∧ Below w.heap.size w w' := by
  obtain ⟨a, c, rfl, K⟩ := H.out
  obtain ⟨hT, hS, -⟩ := Wh.small hB
  have C := fun w h => heldDzs s s0 s1 a c r.slots hT hS w h
  have h0 : ¬ s + 2 * (dzSum r.slots r.slots.length : Int) < 0 := by omega
  have hlen : (r.mk' s).slots.length = r.slots.length := by simp [Wh.mk', dzMks_length]
  unfold Wh.val
  rw [hlen]
  have Hx : DzAt w a (dzMks s r.slots r.slots.length) := K
  have hf : (r.mk' s).step = r.step := rfl
  rw [hf]
  clear H K hlen hf
  generalize dzMks s r.slots r.slots.length = l' at C Hx
  generalize hN : s + 2 * (dzSum r.slots r.slots.length : Int) = N at C h0 ⊢
  generalize r.slots.length = n at C ⊢
  generalize r.step = f
  have C' : Hid _ := C
  have X : Hid (DzAt (w.alloc (.cells #[.int .i64 f, .slice a n c] 47)) a l' ∧ Below w.heap.size w (w.alloc (.cells #[.int .i64 f, .slice a n c] 47))) := ⟨Hx.alloc _, (Below.refl _ _).alloc (Nat.le_refl _) _⟩
  clear C Hx hT hS hB hN
  go_enter Try.func30, Try.ntmps30
  go_wp2_with fail
  refine (C'.out _ X.out.1).mono ?_
  rintro e w1 ⟨rfl, rfl⟩
  go_wp2
  go_ret
  exact ⟨rfl, X.out.2⟩
end Go.Proofs.Ytgimalimfmoilaa

/-
  What lies in memory as a list of things: each turns on the blocks from lo up to hi alone. By the verifier.
-/
namespace Go.Proofs.Ytgimalimfmoilaa
open Go.RowKit

structure Thing where
  P : World → Prop
  lo : Nat
  hi : Nat
  keep : ∀ {W W' : World}, P W → W.heap.size ≤ W'.heap.size → (∀ k, lo ≤ k → k < hi → W'.heap[k]? = W.heap[k]?) → P W'
  lt : ∀ {W : World}, P W → hi ≤ W.heap.size
def AllT : List Thing → World → Prop
  | [], _ => True
  | t :: r, W => t.P W ∧ AllT r W
def OffT (b t : Nat) : List Thing → Prop
  | [] => True
  | x :: r => (x.hi ≤ b ∨ t ≤ x.lo) ∧ OffT b t r
theorem AllT.below : ∀ {ts : List Thing} {W W' : World}, AllT ts W → Below W.heap.size W W' → AllT ts W'
  | [], _, _, _, _ => trivial
  | t :: _, _, _, h, g => ⟨t.keep h.1 g.size (fun k _ hk => g.block k (Nat.lt_of_lt_of_le hk (t.lt h.1))), AllT.below h.2 g⟩
theorem AllT.span : ∀ {ts : List Thing} {W W' : World} {b t : Nat}, AllT ts W → Span b t W W' → OffT b t ts → AllT ts W'
  | [], _, _, _, _, _, _, _ => trivial
  | x :: _, _, _, _, _, h, g, o => ⟨x.keep h.1 g.size (fun k h1 h2 => g.block k (Nat.lt_of_lt_of_le h2 (x.lt h.1)) (by
      rcases o.1 with q | q
      · left; omega
      · right; omega)), AllT.span h.2 g o.2⟩
theorem AllT.app : ∀ {ts us : List Thing} {W : World}, AllT ts W → AllT us W → AllT (ts ++ us) W
  | [], _, _, _, h => h
  | _ :: _, _, _, h, g => ⟨h.1, AllT.app h.2 g⟩
/-- All that lies, and what lay before the call. -/
def Lies (w : World) (ts : List Thing) (W : World) : Prop := AllT ts W ∧ Below w.heap.size w W
theorem Lies.below {w : World} {ts : List Thing} {W W' : World} (h : Lies w ts W) (g : Below W.heap.size W W') : Lies w ts W' := ⟨h.1.below g, h.2.trans (g.mono h.2.size)⟩
theorem Lies.span {w : World} {ts : List Thing} {W W' : World} {b t : Nat} (h : Lies w ts W) (g : Span b t W W') (o : OffT b t ts) (hb : w.heap.size ≤ b) : Lies w ts W' := ⟨h.1.span g o, h.2.trans (g.below hb h.2.size)⟩
theorem Lies.more {w : World} {ts us : List Thing} {W W' : World} (h : Lies w ts W) (g : Below W.heap.size W W') (u : AllT us W') : Lies w (ts ++ us) W' := ⟨(h.below g).1.app u, (h.below g).2⟩
abbrev Thing.box (B : Nat) (cs : Array Value) (t : TypeId) : Thing where
  P := fun W => Boxed W B cs t
  lo := B
  hi := B + 1
  keep := fun h _ g => by unfold Boxed at *; rw [g B (Nat.le_refl _) (by omega)]; exact h
  lt := fun h => h.under
/-- Memory from b up to t. -/
abbrev Thing.own (P : World → Prop) (b t : Nat) (hk : ∀ {W W' : World}, P W → W.heap.size ≤ W'.heap.size → (∀ k, b ≤ k → k < t → W'.heap[k]? = W.heap[k]?) → P W') : Thing where
  P := fun W => P W ∧ t ≤ W.heap.size
  lo := b
  hi := t
  keep := fun h s g => ⟨hk h.1 s g, Nat.le_trans h.2 s⟩
  lt := fun h => h.2
end Go.Proofs.Ytgimalimfmoilaa
