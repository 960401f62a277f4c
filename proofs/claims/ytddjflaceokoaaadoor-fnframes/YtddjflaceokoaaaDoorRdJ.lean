/-
  What holds at the three labels of the reader's method frame, and at its end. By the verifier.
-/
import Derived.Test.YtddjflaceokoaaaDoorRdRun
import Derived.Laws.CopyOwn
namespace Go.Proofs.YtddjflaceokoaaaDoor
open Go.RowKit

/-- A scope in which the run jumps to several labels, with a number that every pass lowers. -/
theorem scope_ghost {P : Program} {a : Act} {w : World} {Q : Exit → Act → World → Prop} {c : Code} (r0 r1 r2 : Code) (h0 : findLabel c 0 = some r0) (h1 : findLabel c 1 = some r1) (h2 : findLabel c 2 = some r2)
    (J0 J1 J2 : Nat → Act → World → Prop) (J : Nat → Nat → Act → World → Prop) (hJ : J = fun n l a w => (l = 0 ∧ J0 n a w) ∨ (l = 1 ∧ J1 n a w) ∨ (l = 2 ∧ J2 n a w))
    (first : c.wp P (jumps (fun l a w => ∃ n, J n l a w) Q) a w)
    (p0 : ∀ n a w, J0 n a w → r0.wp P (jumps (fun l' a' w' => ∃ m, m < n ∧ J m l' a' w') Q) a w)
    (p1 : ∀ n a w, J1 n a w → r1.wp P (jumps (fun l' a' w' => ∃ m, m < n ∧ J m l' a' w') Q) a w)
    (p2 : ∀ n a w, J2 n a w → r2.wp P (jumps (fun l' a' w' => ∃ m, m < n ∧ J m l' a' w') Q) a w) : (Code.scope c).wp P Q a w := by
  intro b k cs
  have key : ∀ n l a w, J n l a w → ∃ r, gotoIn l (.inScope c :: k) = some (.code r :: .inScope c :: k) ∧ ∃ e a' w', Q e a' w' ∧ Arrives P (lone (b.at a (.code r :: .inScope c :: k)) cs w) b k cs e a' w' := by
    intro n
    induction n using Nat.strongRecOn with
    | _ n ih =>
      intro l a w hh
      obtain ⟨r, hg, hp⟩ : ∃ r, gotoIn l (.inScope c :: k) = some (.code r :: .inScope c :: k) ∧ r.wp P (jumps (fun l' a' w' => ∃ m, m < n ∧ J m l' a' w') Q) a w := by
        rw [hJ] at hh
        rcases hh with ⟨rfl, hh⟩ | ⟨rfl, hh⟩ | ⟨rfl, hh⟩
        · exact ⟨r0, by simp [gotoIn, h0], p0 n a w hh⟩
        · exact ⟨r1, by simp [gotoIn, h1], p1 n a w hh⟩
        · exact ⟨r2, by simp [gotoIn, h2], p2 n a w hh⟩
      refine ⟨r, hg, ?_⟩
      obtain ⟨e, a₁, w₁, hq, harr⟩ := hp b (.inScope c :: k) cs
      cases e with
      | normal => exact ⟨.normal, a₁, w₁, hq, Steps.trans harr (.one step_inScope)⟩
      | exit id => exact ⟨.exit id, a₁, w₁, hq, fun k' hk => harr k' (by simp [exitTo, hk])⟩
      | goto l' =>
        obtain ⟨m, hlt, hJ'⟩ := hq
        obtain ⟨r', hg', e₂, a₂, w₂, hq₂, harr₂⟩ := ih m hlt l' a₁ w₁ hJ'
        exact ⟨e₂, a₂, w₂, hq₂, .of_steps (harr _ hg') harr₂⟩
      | ret => exact ⟨_, a₁, w₁, hq, harr⟩
      | panic ch => exact ⟨_, a₁, w₁, hq, harr⟩
      | outgrown => exact ⟨_, a₁, w₁, hq, harr⟩
  obtain ⟨e, a₁, w₁, hq, harr⟩ := first b (.inScope c :: k) cs
  cases e with
  | normal => exact ⟨.normal, a₁, w₁, hq, .head step_scope (Steps.trans harr (.one step_inScope))⟩
  | exit id => exact ⟨.exit id, a₁, w₁, hq, fun k' hk => .head step_scope (harr k' (by simp [exitTo, hk]))⟩
  | goto l' =>
    obtain ⟨n, hJ'⟩ := hq
    obtain ⟨r', hg', e₂, a₂, w₂, hq₂, harr₂⟩ := key n l' a₁ w₁ hJ'
    exact ⟨e₂, a₂, w₂, hq₂, .of_steps (.head step_scope (harr _ hg')) harr₂⟩
  | ret => exact ⟨_, a₁, w₁, hq, .of_steps (.one step_scope) harr⟩
  | panic ch => exact ⟨_, a₁, w₁, hq, .of_steps (.one step_scope) harr⟩
  | outgrown => exact ⟨_, a₁, w₁, hq, .of_steps (.one step_scope) harr⟩

/-- What is known of the method's slots at a label. -/
structure Slots (b B : Nat) (t : Act) : Prop where
  size : t.tmps.size = 78
  s0 : t.tmps.getD 0 undef = .pointer (some ⟨b, 0, none⟩)
  s2 : t.tmps.getD 2 undef = .pointer (some ⟨B, 0, none⟩)
  s3 : t.tmps.getD 3 undef = .pointer (some ⟨B + 1, 0, none⟩)
  defers : t.defers = []
theorem Slots.act {b B : Nat} {t : Act} (h : Slots b B t) : ∃ u, t = frAct b B u := by
  obtain ⟨tmps, defers⟩ := t
  obtain ⟨hs, h0, h2, h3, hd⟩ := h
  simp only at hs h0 h2 h3 hd
  subst hd
  refine ⟨fun j => tmps.getD j undef, ?_⟩
  have e : tmps = ((List.range 78).map fun j => tmps.getD j undef).toArray := by
    apply Array.ext
    · simp [hs]
    · intro i h1 _
      simp [Array.getElem?_eq_getElem h1]
  have e2 : ((List.range 78).map fun j => tmps.getD j undef).toArray = #[tmps.getD 0 undef, tmps.getD 1 undef, tmps.getD 2 undef, tmps.getD 3 undef, tmps.getD 4 undef, tmps.getD 5 undef, tmps.getD 6 undef, tmps.getD 7 undef, tmps.getD 8 undef, tmps.getD 9 undef, tmps.getD 10 undef, tmps.getD 11 undef, tmps.getD 12 undef, tmps.getD 13 undef, tmps.getD 14 undef, tmps.getD 15 undef, tmps.getD 16 undef, tmps.getD 17 undef, tmps.getD 18 undef, tmps.getD 19 undef, tmps.getD 20 undef, tmps.getD 21 undef, tmps.getD 22 undef, tmps.getD 23 undef, tmps.getD 24 undef, tmps.getD 25 undef, tmps.getD 26 undef, tmps.getD 27 undef, tmps.getD 28 undef, tmps.getD 29 undef, tmps.getD 30 undef, tmps.getD 31 undef, tmps.getD 32 undef, tmps.getD 33 undef, tmps.getD 34 undef, tmps.getD 35 undef, tmps.getD 36 undef, tmps.getD 37 undef, tmps.getD 38 undef, tmps.getD 39 undef, tmps.getD 40 undef, tmps.getD 41 undef, tmps.getD 42 undef, tmps.getD 43 undef, tmps.getD 44 undef, tmps.getD 45 undef, tmps.getD 46 undef, tmps.getD 47 undef, tmps.getD 48 undef, tmps.getD 49 undef, tmps.getD 50 undef, tmps.getD 51 undef, tmps.getD 52 undef, tmps.getD 53 undef, tmps.getD 54 undef, tmps.getD 55 undef, tmps.getD 56 undef, tmps.getD 57 undef, tmps.getD 58 undef, tmps.getD 59 undef, tmps.getD 60 undef, tmps.getD 61 undef, tmps.getD 62 undef, tmps.getD 63 undef, tmps.getD 64 undef, tmps.getD 65 undef, tmps.getD 66 undef, tmps.getD 67 undef, tmps.getD 68 undef, tmps.getD 69 undef, tmps.getD 70 undef, tmps.getD 71 undef, tmps.getD 72 undef, tmps.getD 73 undef, tmps.getD 74 undef, tmps.getD 75 undef, tmps.getD 76 undef, tmps.getD 77 undef] := rfl
  simp only [frAct]
  rw [Act.mk.injEq]
  exact ⟨(e.trans e2).trans (by rw [h0, h2, h3]), rfl⟩

/-- Behind a byte 1. -/
def Rst.tagRun (text : ByteArray) (dest frm : Int) : Nat → Rst → List Int → Fr × Rst
  | 0, σ, T => (⟨dest, frm, T, 0, 0, 0, 0, 0, 0, 0, ⟨#[]⟩⟩, σ.fail (some (some 2)))
  | k + 1, σ, T => (σ.atMost text 4095 2 2).2.kindRun text dest frm k (T ++ [(σ.atMost text 4095 2 2).1])
theorem Rst.kindRun_eq (text : ByteArray) (dest frm : Int) (k : Nat) (σ : Rst) (T : List Int) : σ.kindRun text dest frm k T =
    if (σ.number text 1).1 = 1 then (σ.number text 1).2.tagRun text dest frm k T
    else if (σ.number text 1).1 = 2 then (σ.number text 1).2.headRun text dest frm T
    else (⟨dest, frm, T, 0, 0, 0, 0, 0, 0, 0, ⟨#[]⟩⟩, (σ.number text 1).2.fail (some (some 3))) := by
  cases k <;> rfl

/-- The cells of the frame while its tags are read. -/
def csOf (dest frm : Int) (sl : Value) : Array Value := #[.int .i64 dest, .int .i64 frm, sl, .int .i64 0, .int .i64 0, .int .i64 0, .int .i64 0, .int .i64 0, .int .i64 0, .int .i64 0, .string ⟨#[]⟩]
def Jtag (es em : Addr) (W : World) (b : Nat) (text : ByteArray) (w0 : World) (n : Nat) (a : Act) (w : World) : Prop :=
  ∃ (dest frm : Int) (σ : Rst) (sl : Value) (T : List Int) (k : Nat), Slots b w0.heap.size a ∧ n = 2 * k + 1 ∧ T.length + k = 2 ∧ Fs es em W b text w0 σ sl T (csOf dest frm sl) w ∧ σ.tagRun text dest frm k T = frameRun text
def Jhead (es em : Addr) (W : World) (b : Nat) (text : ByteArray) (w0 : World) (n : Nat) (a : Act) (w : World) : Prop :=
  ∃ (dest frm : Int) (σ : Rst) (sl : Value) (T : List Int), Slots b w0.heap.size a ∧ n = 0 ∧ T.length ≤ 2 ∧ Fs es em W b text w0 σ sl T (csOf dest frm sl) w ∧ σ.headRun text dest frm T = frameRun text
def Jkind (es em : Addr) (W : World) (b : Nat) (text : ByteArray) (w0 : World) (n : Nat) (a : Act) (w : World) : Prop :=
  ∃ (dest frm : Int) (σ : Rst) (sl : Value) (T : List Int) (k : Nat), Slots b w0.heap.size a ∧ n = 2 * k + 2 ∧ T.length + k = 2 ∧ Fs es em W b text w0 σ sl T (csOf dest frm sl) w ∧ σ.kindRun text dest frm k T = frameRun text

/-- What the call leaves. -/
def FrPost (es em : Addr) (W : World) (b : Nat) (text : ByteArray) (w0 : World) (e : Ending) (w' : World) : Prop :=
  ∃ a cap, e = .returned ((frameRun text).1.val a cap) ∧ IRow (w0.heap.size + 1 + 1) w' (.slice a (frameRun text).1.tags.length cap) (frameRun text).1.tags ∧ Rd es em W b text (frameRun text).2 w' ∧ Kpt b w0 w'
theorem frEnd {es em : Addr} {W : World} {b : Nat} {text : ByteArray} {w0 : World} {σ : Rst} {a : Option Addr} {cap : Nat} {f : Fr} {w : World} (h : Fs es em W b text w0 σ (.slice a f.tags.length cap) f.tags #[.int .i64 f.to, .int .i64 f.frm, .slice a f.tags.length cap, .int .i64 f.src, .int .i64 f.dst, .int .i64 f.proto, .int .i64 f.sport, .int .i64 f.dport, .int .i64 f.mark, .int .i64 f.sum, .string f.body] w) (hr : (f, σ) = frameRun text)
    (t : Act) (ht : t.tmps.getD 2 undef = .pointer (some ⟨w0.heap.size, 0, none⟩)) (hd : t.defers = []) :
    bodyPost Tryd.prog Tryd.f27 (FrPost es em W b text w0) .ret t (w.setRow w0.heap.size #[.int .i64 f.to, .int .i64 f.frm, .slice a f.tags.length cap, .int .i64 f.src, .int .i64 f.dst, .int .i64 f.proto, .int .i64 f.sport, .int .i64 f.dport, .int .i64 f.mark, .int .i64 f.sum, .string f.body]) := by
  have hb := h.lt
  have hlo := h.rd.lo
  have hg := setRow_heap w w0.heap.size _ #[.int .i64 f.to, .int .i64 f.frm, .slice a f.tags.length cap, .int .i64 f.src, .int .i64 f.dst, .int .i64 f.proto, .int .i64 f.sport, .int .i64 f.dport, .int .i64 f.mark, .int .i64 f.sum, .string f.body] _ _ h.res
  have o : ∀ (cs : Array Value) k, k ≠ w0.heap.size → (w.setRow w0.heap.size cs).heap[k]? = w.heap[k]? := fun cs k hk => setRow_other _ _ _ _ hk
  refine bodyPost_ret (results_cell_row Tryd.results27 _ _ w0.heap.size _ _ _ _ ht hg Tryd.underlying26 rfl (by kernel_rfl)) hd ⟨a, cap, ?_, ?_, ?_, ?_⟩
  · rw [← hr]; rfl
  · rw [← hr]
    exact h.row.carry fun k hk _ => o _ k (by omega)
  · rw [← hr]
    refine ⟨below_setRow h.rd.bel (by omega) _, h.rd.lo, ?_, h.rd.le⟩
    unfold Boxed; rw [o _ b (by omega)]; exact h.rd.box
  · exact ⟨by rw [size_setRow]; exact h.kp.size, fun k h1 h2 => (o _ k (by omega)).trans (h.kp.block k h1 h2)⟩
end Go.Proofs.YtddjflaceokoaaaDoor
