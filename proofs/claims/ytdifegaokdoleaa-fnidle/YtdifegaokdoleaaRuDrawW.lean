/-
  The model's drawing of the arguments of Wider. By the verifier, by program.
-/
import Derived.Test.YtdifegaokdoleaaRuDrawC
import Derived.Test.YtdifegaokdoleaaRuOkS
import Derived.Deep.DeepCutAuto
namespace Go.Proofs.Ytdifegaokdoleaa
open Go.RowKit

/-- The call's own memory: the answers' variables, the cursor. -/
structure WkS (V : World) (ac : Option Addr) (len cap : Nat) (w w1 x : World) : Prop where
  cur : Cur V (w.heap.size + 1 + 1) ac len cap x
  kp : Keep (w.heap.size + 1 + 1) w1 x
  r2 : Boxed x w.heap.size zeroRu 32
  r3 : Boxed x (w.heap.size + 1) zeroRu 32
theorem WkS.draw {V : World} {ac : Option Addr} {len cap : Nat} {w w1 x y : World} (h : WkS V ac len cap w w1 x) (c : Cur V (w.heap.size + 1 + 1) ac len cap y) (k : Keep (w.heap.size + 1 + 1) x y) : WkS V ac len cap w w1 y :=
  ⟨c, h.kp.trans k, h.r2.keep (by omega) k, h.r3.keep (by omega) k⟩
theorem WkS.more {V : World} {ac : Option Addr} {len cap : Nat} {w w1 x : World} (h : WkS V ac len cap w w1 x) (o : Obj) : WkS V ac len cap w w1 (x.alloc o) := h.draw (h.cur.alloc _) ((Keep.refl _ _).alloc _)
theorem WkS.put {V : World} {ac : Option Addr} {len cap : Nat} {w w1 x : World} (h : WkS V ac len cap w w1 x) {B : Nat} (hB : w.heap.size + 1 + 1 < B) (hV : V.heap.size ≤ w.heap.size) (hw : w1.heap.size ≤ B) (j : Nat) (v : Value) : WkS V ac len cap w w1 (x.setCell ⟨B, j, none⟩ v) := by
  have o : ∀ k, k ≠ B → (x.setCell ⟨B, j, none⟩ v).heap[k]? = x.heap[k]? := fun k hk => Below.heap_setCell _ _ _ _ hk
  refine ⟨h.cur.other (by omega) o ((Below.refl _ _).setCell (p := ⟨B, j, none⟩) (by show V.heap.size ≤ B; omega) _), ⟨by have := h.kp.size; simp only [World.setCell, Array.size_modify]; exact this, fun k g1 g2 => (o k (by omega)).trans (h.kp.block k g1 g2)⟩, h.r2.far (by omega) j v, h.r3.far (by omega) j v⟩

set_option maxHeartbeats 6400000 in
set_option maxRecDepth 100000 in
theorem drawWider {V : World} {ac : Option Addr} {len cap : Nat} (hc : Hid (Code V ac len)) (w : World) (bel : Hid (Below V.heap.size V w)) :
    Calls Try.prog 22 #[.slice ac len cap] w fun e w' => (∃ a b : Ru, e = .returned (.tuple #[a.val, b.val])) ∧ Below w.heap.size w w' := by
  have hle := bel.out.size
  have fin : ∀ (x : World) (a b : Ru), WkS V ac len cap w (w) x → True := fun _ _ _ _ => trivial
  clear fin
  go_enter Try.func22, Try.ntmps22
  go_wp2_with fail
  have bel' : Hid (Below V.heap.size V ((w.alloc (.cells zeroRu 32)).alloc (.cells zeroRu 32))) := (bel.out.alloc hle _).alloc (by simp; omega) _
  refine (drawNew hc _ bel').mono ?_
  rintro e w1 ⟨rfl, c1, b1⟩
  have hs : ((w.alloc (.cells zeroRu 32)).alloc (.cells zeroRu 32)).heap.size = w.heap.size + 1 + 1 := by simp
  rw [hs] at c1 b1 ⊢
  have H1 : Hid (WkS V ac len cap w w1 w1 ∧ Below w.heap.size w w1) := by
    refine ⟨⟨c1, Keep.refl _ _, ((Boxed.new w _ _).more _).below (by omega) b1, ?_⟩, (((Below.refl _ w).alloc (Nat.le_refl _) _).alloc (by simp) _).trans (b1.mono (by omega))⟩
    have := Boxed.new (w.alloc (.cells zeroRu 32)) zeroRu 32
    have h2 : Boxed ((w.alloc (.cells zeroRu 32)).alloc (.cells zeroRu 32)) (w.heap.size + 1) zeroRu 32 := by simpa using this
    exact h2.below (by omega) b1
  clear c1 b1 bel' hs
  have FIN : Hid (∀ (x : World) (a b : Ru), WkS V ac len cap w w1 x → Boxed ((((((((((((((((((((x.setCell ⟨w.heap.size, 0, none⟩ (.int .i64 a.id)).setCell ⟨w.heap.size, 1, none⟩ (.int .i64 a.prio)).setCell ⟨w.heap.size, 2, none⟩ (.int .i64 a.snet)).setCell ⟨w.heap.size, 3, none⟩ (.int .i64 a.sbits)).setCell ⟨w.heap.size, 4, none⟩ (.int .i64 a.dnet)).setCell ⟨w.heap.size, 5, none⟩ (.int .i64 a.dbits)).setCell ⟨w.heap.size, 6, none⟩ (.int .i64 a.proto)).setCell ⟨w.heap.size, 7, none⟩ (.int .i64 a.low)).setCell ⟨w.heap.size, 8, none⟩ (.int .i64 a.high)).setCell ⟨w.heap.size, 9, none⟩ (.int .i64 a.cls)).setCell ⟨w.heap.size + 1, 0, none⟩ (.int .i64 b.id)).setCell ⟨w.heap.size + 1, 1, none⟩ (.int .i64 b.prio)).setCell ⟨w.heap.size + 1, 2, none⟩ (.int .i64 b.snet)).setCell ⟨w.heap.size + 1, 3, none⟩ (.int .i64 b.sbits)).setCell ⟨w.heap.size + 1, 4, none⟩ (.int .i64 b.dnet)).setCell ⟨w.heap.size + 1, 5, none⟩ (.int .i64 b.dbits)).setCell ⟨w.heap.size + 1, 6, none⟩ (.int .i64 b.proto)).setCell ⟨w.heap.size + 1, 7, none⟩ (.int .i64 b.low)).setCell ⟨w.heap.size + 1, 8, none⟩ (.int .i64 b.high)).setCell ⟨w.heap.size + 1, 9, none⟩ (.int .i64 b.cls)) w.heap.size #[.int .i64 a.id, .int .i64 a.prio, .int .i64 a.snet, .int .i64 a.sbits, .int .i64 a.dnet, .int .i64 a.dbits, .int .i64 a.proto, .int .i64 a.low, .int .i64 a.high, .int .i64 a.cls] 32 ∧ Boxed ((((((((((((((((((((x.setCell ⟨w.heap.size, 0, none⟩ (.int .i64 a.id)).setCell ⟨w.heap.size, 1, none⟩ (.int .i64 a.prio)).setCell ⟨w.heap.size, 2, none⟩ (.int .i64 a.snet)).setCell ⟨w.heap.size, 3, none⟩ (.int .i64 a.sbits)).setCell ⟨w.heap.size, 4, none⟩ (.int .i64 a.dnet)).setCell ⟨w.heap.size, 5, none⟩ (.int .i64 a.dbits)).setCell ⟨w.heap.size, 6, none⟩ (.int .i64 a.proto)).setCell ⟨w.heap.size, 7, none⟩ (.int .i64 a.low)).setCell ⟨w.heap.size, 8, none⟩ (.int .i64 a.high)).setCell ⟨w.heap.size, 9, none⟩ (.int .i64 a.cls)).setCell ⟨w.heap.size + 1, 0, none⟩ (.int .i64 b.id)).setCell ⟨w.heap.size + 1, 1, none⟩ (.int .i64 b.prio)).setCell ⟨w.heap.size + 1, 2, none⟩ (.int .i64 b.snet)).setCell ⟨w.heap.size + 1, 3, none⟩ (.int .i64 b.sbits)).setCell ⟨w.heap.size + 1, 4, none⟩ (.int .i64 b.dnet)).setCell ⟨w.heap.size + 1, 5, none⟩ (.int .i64 b.dbits)).setCell ⟨w.heap.size + 1, 6, none⟩ (.int .i64 b.proto)).setCell ⟨w.heap.size + 1, 7, none⟩ (.int .i64 b.low)).setCell ⟨w.heap.size + 1, 8, none⟩ (.int .i64 b.high)).setCell ⟨w.heap.size + 1, 9, none⟩ (.int .i64 b.cls)) (w.heap.size + 1) #[.int .i64 b.id, .int .i64 b.prio, .int .i64 b.snet, .int .i64 b.sbits, .int .i64 b.dnet, .int .i64 b.dbits, .int .i64 b.proto, .int .i64 b.low, .int .i64 b.high, .int .i64 b.cls] 32 ∧ Below w.heap.size w ((((((((((((((((((((x.setCell ⟨w.heap.size, 0, none⟩ (.int .i64 a.id)).setCell ⟨w.heap.size, 1, none⟩ (.int .i64 a.prio)).setCell ⟨w.heap.size, 2, none⟩ (.int .i64 a.snet)).setCell ⟨w.heap.size, 3, none⟩ (.int .i64 a.sbits)).setCell ⟨w.heap.size, 4, none⟩ (.int .i64 a.dnet)).setCell ⟨w.heap.size, 5, none⟩ (.int .i64 a.dbits)).setCell ⟨w.heap.size, 6, none⟩ (.int .i64 a.proto)).setCell ⟨w.heap.size, 7, none⟩ (.int .i64 a.low)).setCell ⟨w.heap.size, 8, none⟩ (.int .i64 a.high)).setCell ⟨w.heap.size, 9, none⟩ (.int .i64 a.cls)).setCell ⟨w.heap.size + 1, 0, none⟩ (.int .i64 b.id)).setCell ⟨w.heap.size + 1, 1, none⟩ (.int .i64 b.prio)).setCell ⟨w.heap.size + 1, 2, none⟩ (.int .i64 b.snet)).setCell ⟨w.heap.size + 1, 3, none⟩ (.int .i64 b.sbits)).setCell ⟨w.heap.size + 1, 4, none⟩ (.int .i64 b.dnet)).setCell ⟨w.heap.size + 1, 5, none⟩ (.int .i64 b.dbits)).setCell ⟨w.heap.size + 1, 6, none⟩ (.int .i64 b.proto)).setCell ⟨w.heap.size + 1, 7, none⟩ (.int .i64 b.low)).setCell ⟨w.heap.size + 1, 8, none⟩ (.int .i64 b.high)).setCell ⟨w.heap.size + 1, 9, none⟩ (.int .i64 b.cls))) := by
    show ∀ (x : World) (a b : Ru), WkS V ac len cap w w1 x → _
    intro x a b h
    have q1 := H1.out.2
    have q3 := q1.size
    have q4 := h.kp.size
    have q5 := H1.out.1.cur.lt
    have bx : Below w.heap.size w x := bel_ru bel.out h.cur.bel (by omega) fun k hk => (h.kp.block k (by omega) (by omega)).trans (q1.block k hk)
    exact ⟨far_sets b (boxed_sets ⟨0, 0, 0, 0, 0, 0, 0, 0, 0, 0⟩ a h.r2) (by omega), boxed_sets ⟨0, 0, 0, 0, 0, 0, 0, 0, 0, 0⟩ b (far_sets a h.r3 (by omega)), below_sets b (below_sets a bx (Nat.le_refl _)) (by omega)⟩
  have FIN2 : Hid (∀ (x : World) (a b : Ru), WkS V ac len cap w w1 x → Boxed (((((((((((((((((((((x.setCell ⟨w.heap.size, 0, none⟩ (.int .i64 a.id)).setCell ⟨w.heap.size, 1, none⟩ (.int .i64 a.prio)).setCell ⟨w.heap.size, 2, none⟩ (.int .i64 a.snet)).setCell ⟨w.heap.size, 3, none⟩ (.int .i64 a.sbits)).setCell ⟨w.heap.size, 4, none⟩ (.int .i64 a.dnet)).setCell ⟨w.heap.size, 5, none⟩ (.int .i64 a.dbits)).setCell ⟨w.heap.size, 6, none⟩ (.int .i64 a.proto)).setCell ⟨w.heap.size, 7, none⟩ (.int .i64 a.low)).setCell ⟨w.heap.size, 8, none⟩ (.int .i64 a.high)).setCell ⟨w.heap.size, 9, none⟩ (.int .i64 a.cls)).setCell ⟨w.heap.size + 1, 0, none⟩ (.int .i64 b.id)).setCell ⟨w.heap.size + 1, 1, none⟩ (.int .i64 b.prio)).setCell ⟨w.heap.size + 1, 2, none⟩ (.int .i64 b.snet)).setCell ⟨w.heap.size + 1, 3, none⟩ (.int .i64 b.sbits)).setCell ⟨w.heap.size + 1, 4, none⟩ (.int .i64 b.dnet)).setCell ⟨w.heap.size + 1, 5, none⟩ (.int .i64 b.dbits)).setCell ⟨w.heap.size + 1, 6, none⟩ (.int .i64 b.proto)).setCell ⟨w.heap.size + 1, 7, none⟩ (.int .i64 b.low)).setCell ⟨w.heap.size + 1, 8, none⟩ (.int .i64 b.high)).setCell ⟨w.heap.size + 1, 9, none⟩ (.int .i64 b.cls))).drew w.heap.size #[.int .i64 a.id, .int .i64 a.prio, .int .i64 a.snet, .int .i64 a.sbits, .int .i64 a.dnet, .int .i64 a.dbits, .int .i64 a.proto, .int .i64 a.low, .int .i64 a.high, .int .i64 a.cls] 32 ∧ Boxed (((((((((((((((((((((x.setCell ⟨w.heap.size, 0, none⟩ (.int .i64 a.id)).setCell ⟨w.heap.size, 1, none⟩ (.int .i64 a.prio)).setCell ⟨w.heap.size, 2, none⟩ (.int .i64 a.snet)).setCell ⟨w.heap.size, 3, none⟩ (.int .i64 a.sbits)).setCell ⟨w.heap.size, 4, none⟩ (.int .i64 a.dnet)).setCell ⟨w.heap.size, 5, none⟩ (.int .i64 a.dbits)).setCell ⟨w.heap.size, 6, none⟩ (.int .i64 a.proto)).setCell ⟨w.heap.size, 7, none⟩ (.int .i64 a.low)).setCell ⟨w.heap.size, 8, none⟩ (.int .i64 a.high)).setCell ⟨w.heap.size, 9, none⟩ (.int .i64 a.cls)).setCell ⟨w.heap.size + 1, 0, none⟩ (.int .i64 b.id)).setCell ⟨w.heap.size + 1, 1, none⟩ (.int .i64 b.prio)).setCell ⟨w.heap.size + 1, 2, none⟩ (.int .i64 b.snet)).setCell ⟨w.heap.size + 1, 3, none⟩ (.int .i64 b.sbits)).setCell ⟨w.heap.size + 1, 4, none⟩ (.int .i64 b.dnet)).setCell ⟨w.heap.size + 1, 5, none⟩ (.int .i64 b.dbits)).setCell ⟨w.heap.size + 1, 6, none⟩ (.int .i64 b.proto)).setCell ⟨w.heap.size + 1, 7, none⟩ (.int .i64 b.low)).setCell ⟨w.heap.size + 1, 8, none⟩ (.int .i64 b.high)).setCell ⟨w.heap.size + 1, 9, none⟩ (.int .i64 b.cls))).drew (w.heap.size + 1) #[.int .i64 b.id, .int .i64 b.prio, .int .i64 b.snet, .int .i64 b.sbits, .int .i64 b.dnet, .int .i64 b.dbits, .int .i64 b.proto, .int .i64 b.low, .int .i64 b.high, .int .i64 b.cls] 32 ∧ Below w.heap.size w (((((((((((((((((((((x.setCell ⟨w.heap.size, 0, none⟩ (.int .i64 a.id)).setCell ⟨w.heap.size, 1, none⟩ (.int .i64 a.prio)).setCell ⟨w.heap.size, 2, none⟩ (.int .i64 a.snet)).setCell ⟨w.heap.size, 3, none⟩ (.int .i64 a.sbits)).setCell ⟨w.heap.size, 4, none⟩ (.int .i64 a.dnet)).setCell ⟨w.heap.size, 5, none⟩ (.int .i64 a.dbits)).setCell ⟨w.heap.size, 6, none⟩ (.int .i64 a.proto)).setCell ⟨w.heap.size, 7, none⟩ (.int .i64 a.low)).setCell ⟨w.heap.size, 8, none⟩ (.int .i64 a.high)).setCell ⟨w.heap.size, 9, none⟩ (.int .i64 a.cls)).setCell ⟨w.heap.size + 1, 0, none⟩ (.int .i64 b.id)).setCell ⟨w.heap.size + 1, 1, none⟩ (.int .i64 b.prio)).setCell ⟨w.heap.size + 1, 2, none⟩ (.int .i64 b.snet)).setCell ⟨w.heap.size + 1, 3, none⟩ (.int .i64 b.sbits)).setCell ⟨w.heap.size + 1, 4, none⟩ (.int .i64 b.dnet)).setCell ⟨w.heap.size + 1, 5, none⟩ (.int .i64 b.dbits)).setCell ⟨w.heap.size + 1, 6, none⟩ (.int .i64 b.proto)).setCell ⟨w.heap.size + 1, 7, none⟩ (.int .i64 b.low)).setCell ⟨w.heap.size + 1, 8, none⟩ (.int .i64 b.high)).setCell ⟨w.heap.size + 1, 9, none⟩ (.int .i64 b.cls))).drew) := by
    show ∀ (x : World) (a b : Ru), WkS V ac len cap w w1 x → _
    intro x a b h
    have hh := FIN.out x a b h
    exact ⟨hh.1.below hh.1.under (Below.refl _ _).drew, hh.2.1.below hh.2.1.under (Below.refl _ _).drew, hh.2.2.drew⟩
  go_wp2_with fail
  refine (drawRule hc _ H1.out.1.cur).mono ?_
  rintro e w2 ⟨⟨a, rfl⟩, c2, k2⟩
  have H2 : Hid (WkS V ac len cap w w1 w2) := H1.out.1.draw c2 k2
  have hq1 : w.heap.size + 1 + 1 < w1.heap.size := H1.out.1.cur.lt
  have hq2 : w1.heap.size ≤ w2.heap.size := k2.size
  clear c2 k2
  unfold Ru.val
  go_upto_region 3 with fail
  have H3 : Hid (WkS V ac len cap w w1 (w2.alloc (.cells #[.int .i64 a.id, .int .i64 a.prio, .int .i64 a.snet, .int .i64 a.sbits, .int .i64 a.dnet, .int .i64 a.dbits, .int .i64 a.proto, .int .i64 a.low, .int .i64 a.high, .int .i64 a.cls] 32)) ∧ Boxed (w2.alloc (.cells #[.int .i64 a.id, .int .i64 a.prio, .int .i64 a.snet, .int .i64 a.sbits, .int .i64 a.dnet, .int .i64 a.dbits, .int .i64 a.proto, .int .i64 a.low, .int .i64 a.high, .int .i64 a.cls] 32)) w2.heap.size #[.int .i64 a.id, .int .i64 a.prio, .int .i64 a.snet, .int .i64 a.sbits, .int .i64 a.dnet, .int .i64 a.dbits, .int .i64 a.proto, .int .i64 a.low, .int .i64 a.high, .int .i64 a.cls] 32) := ⟨H2.out.more _, Boxed.new _ _ _⟩
  clear H2
  generalize w2.alloc (.cells #[.int .i64 a.id, .int .i64 a.prio, .int .i64 a.snet, .int .i64 a.sbits, .int .i64 a.dnet, .int .i64 a.dbits, .int .i64 a.proto, .int .i64 a.low, .int .i64 a.high, .int .i64 a.cls] 32) = w3 at H3 ⊢
  generalize w2.heap.size = B5 at H3 hq2 ⊢
  go_cut [16] (fun s wc => Hid (∃ b : Bool, s = .bool b ∧ (b = true → a.ok = true) ∧ WkS V ac len cap w w1 wc ∧ Boxed wc B5 #[.int .i64 a.id, .int .i64 a.prio, .int .i64 a.snet, .int .i64 a.sbits, .int .i64 a.dnet, .int .i64 a.dbits, .int .i64 a.proto, .int .i64 a.low, .int .i64 a.high, .int .i64 a.cls] 32))
  case first =>
    have CK := fun w => specRule a w
    unfold Ru.val at CK
    have CK' : Hid _ := CK
    clear CK
    go_wp2_with fail
    refine (drawOnce hc 2 (by omega) _ H3.out.1.cur).mono ?_
    rintro e w4 ⟨⟨bo, rfl⟩, c4, k4⟩
    have H4 : Hid (WkS V ac len cap w w1 w4 ∧ Boxed w4 B5 #[.int .i64 a.id, .int .i64 a.prio, .int .i64 a.snet, .int .i64 a.sbits, .int .i64 a.dnet, .int .i64 a.dbits, .int .i64 a.proto, .int .i64 a.low, .int .i64 a.high, .int .i64 a.cls] 32) := ⟨H3.out.1.draw c4 k4, H3.out.2.keep (by omega) k4⟩
    clear c4 k4 H3
    have x0 : w4.cell? ⟨B5, 0, none⟩ = some (.int .i64 a.id) := H4.out.2.cell 0 rfl
    have x1 : w4.cell? ⟨B5, 1, none⟩ = some (.int .i64 a.prio) := H4.out.2.cell 1 rfl
    have x2 : w4.cell? ⟨B5, 2, none⟩ = some (.int .i64 a.snet) := H4.out.2.cell 2 rfl
    have x3 : w4.cell? ⟨B5, 3, none⟩ = some (.int .i64 a.sbits) := H4.out.2.cell 3 rfl
    have x4 : w4.cell? ⟨B5, 4, none⟩ = some (.int .i64 a.dnet) := H4.out.2.cell 4 rfl
    have x5 : w4.cell? ⟨B5, 5, none⟩ = some (.int .i64 a.dbits) := H4.out.2.cell 5 rfl
    have x6 : w4.cell? ⟨B5, 6, none⟩ = some (.int .i64 a.proto) := H4.out.2.cell 6 rfl
    have x7 : w4.cell? ⟨B5, 7, none⟩ = some (.int .i64 a.low) := H4.out.2.cell 7 rfl
    have x8 : w4.cell? ⟨B5, 8, none⟩ = some (.int .i64 a.high) := H4.out.2.cell 8 rfl
    have x9 : w4.cell? ⟨B5, 9, none⟩ = some (.int .i64 a.cls) := H4.out.2.cell 9 rfl
    cases bo
    · go_wp2_with fail
      go_meet
      exact ⟨false, rfl, (fun e => by cases e), H4.out⟩
    · go_wp2_with fail
      refine (CK'.out _).mono ?_
      rintro e w5 ⟨rfl, hw5⟩
      have H5 : Hid (WkS V ac len cap w w1 w5 ∧ Boxed w5 B5 #[.int .i64 a.id, .int .i64 a.prio, .int .i64 a.snet, .int .i64 a.sbits, .int .i64 a.dnet, .int .i64 a.dbits, .int .i64 a.proto, .int .i64 a.low, .int .i64 a.high, .int .i64 a.cls] 32) := by rw [hw5]; exact ⟨H4.out.1.more _, H4.out.2.more _⟩
      clear hw5 H4 x0 x1 x2 x3 x4 x5 x6 x7 x8 x9
      go_wp2_with fail
      go_meet
      exact ⟨a.ok, rfl, id, H5.out⟩
  case rest =>
    obtain ⟨bo, rfl, hok, hx⟩ := hcut.out
    obtain ⟨w4, rfl⟩ : ∃ w4, w4 = wc := ⟨_, rfl⟩
    have H4 : Hid (WkS V ac len cap w w1 w4 ∧ Boxed w4 B5 #[.int .i64 a.id, .int .i64 a.prio, .int .i64 a.snet, .int .i64 a.sbits, .int .i64 a.dnet, .int .i64 a.dbits, .int .i64 a.proto, .int .i64 a.low, .int .i64 a.high, .int .i64 a.cls] 32) := hx
    clear hcut hx H3
    have x0 : w4.cell? ⟨B5, 0, none⟩ = some (.int .i64 a.id) := H4.out.2.cell 0 rfl
    have x1 : w4.cell? ⟨B5, 1, none⟩ = some (.int .i64 a.prio) := H4.out.2.cell 1 rfl
    have x2 : w4.cell? ⟨B5, 2, none⟩ = some (.int .i64 a.snet) := H4.out.2.cell 2 rfl
    have x3 : w4.cell? ⟨B5, 3, none⟩ = some (.int .i64 a.sbits) := H4.out.2.cell 3 rfl
    have x4 : w4.cell? ⟨B5, 4, none⟩ = some (.int .i64 a.dnet) := H4.out.2.cell 4 rfl
    have x5 : w4.cell? ⟨B5, 5, none⟩ = some (.int .i64 a.dbits) := H4.out.2.cell 5 rfl
    have x6 : w4.cell? ⟨B5, 6, none⟩ = some (.int .i64 a.proto) := H4.out.2.cell 6 rfl
    have x7 : w4.cell? ⟨B5, 7, none⟩ = some (.int .i64 a.low) := H4.out.2.cell 7 rfl
    have x8 : w4.cell? ⟨B5, 8, none⟩ = some (.int .i64 a.high) := H4.out.2.cell 8 rfl
    have x9 : w4.cell? ⟨B5, 9, none⟩ = some (.int .i64 a.cls) := H4.out.2.cell 9 rfl
    cases bo
    · clear hok
      go_wp2_with fail
      go_region_law (refine step_call rfl 39 rfl #[.pointer (some ⟨w.heap.size + 1 + 1, 0, none⟩)] (by kernel_rfl) (drawRule hc w4.drew H4.out.1.cur.drew) ?_; rintro e x ⟨⟨b, rfl⟩, cz, kz⟩; refine ⟨_, rfl, ?_⟩; have HZ : Hid (WkS V ac len cap w w1 x ∧ Boxed x B5 #[.int .i64 a.id, .int .i64 a.prio, .int .i64 a.snet, .int .i64 a.sbits, .int .i64 a.dnet, .int .i64 a.dbits, .int .i64 a.proto, .int .i64 a.low, .int .i64 a.high, .int .i64 a.cls] 32) := ⟨H4.out.1.draw cz ((Keep.refl _ _).drew.trans kz), H4.out.2.keep (by omega) ((Keep.refl _ _).drew.trans kz)⟩; clear cz kz; unfold Ru.val; have y0 : x.cell? ⟨B5, 0, none⟩ = some (.int .i64 a.id) := HZ.out.2.cell 0 rfl; have y1 : x.cell? ⟨B5, 1, none⟩ = some (.int .i64 a.prio) := HZ.out.2.cell 1 rfl; have y2 : x.cell? ⟨B5, 2, none⟩ = some (.int .i64 a.snet) := HZ.out.2.cell 2 rfl; have y3 : x.cell? ⟨B5, 3, none⟩ = some (.int .i64 a.sbits) := HZ.out.2.cell 3 rfl; have y4 : x.cell? ⟨B5, 4, none⟩ = some (.int .i64 a.dnet) := HZ.out.2.cell 4 rfl; have y5 : x.cell? ⟨B5, 5, none⟩ = some (.int .i64 a.dbits) := HZ.out.2.cell 5 rfl; have y6 : x.cell? ⟨B5, 6, none⟩ = some (.int .i64 a.proto) := HZ.out.2.cell 6 rfl; have y7 : x.cell? ⟨B5, 7, none⟩ = some (.int .i64 a.low) := HZ.out.2.cell 7 rfl; have y8 : x.cell? ⟨B5, 8, none⟩ = some (.int .i64 a.high) := HZ.out.2.cell 8 rfl; have y9 : x.cell? ⟨B5, 9, none⟩ = some (.int .i64 a.cls) := HZ.out.2.cell 9 rfl; have z0 : x.cell? ⟨w.heap.size, 0, none⟩ = some (.int .i64 0) := HZ.out.1.r2.cell 0 rfl; have z1 : x.cell? ⟨w.heap.size, 1, none⟩ = some (.int .i64 0) := HZ.out.1.r2.cell 1 rfl; have z2 : x.cell? ⟨w.heap.size, 2, none⟩ = some (.int .i64 0) := HZ.out.1.r2.cell 2 rfl; have z3 : x.cell? ⟨w.heap.size, 3, none⟩ = some (.int .i64 0) := HZ.out.1.r2.cell 3 rfl; have z4 : x.cell? ⟨w.heap.size, 4, none⟩ = some (.int .i64 0) := HZ.out.1.r2.cell 4 rfl; have z5 : x.cell? ⟨w.heap.size, 5, none⟩ = some (.int .i64 0) := HZ.out.1.r2.cell 5 rfl; have z6 : x.cell? ⟨w.heap.size, 6, none⟩ = some (.int .i64 0) := HZ.out.1.r2.cell 6 rfl; have z7 : x.cell? ⟨w.heap.size, 7, none⟩ = some (.int .i64 0) := HZ.out.1.r2.cell 7 rfl; have z8 : x.cell? ⟨w.heap.size, 8, none⟩ = some (.int .i64 0) := HZ.out.1.r2.cell 8 rfl; have z9 : x.cell? ⟨w.heap.size, 9, none⟩ = some (.int .i64 0) := HZ.out.1.r2.cell 9 rfl; have iz0 := HZ.out.1.r2.ice 0; have iz1 := HZ.out.1.r2.ice 1; have iz2 := HZ.out.1.r2.ice 2; have iz3 := HZ.out.1.r2.ice 3; have iz4 := HZ.out.1.r2.ice 4; have iz5 := HZ.out.1.r2.ice 5; have iz6 := HZ.out.1.r2.ice 6; have iz7 := HZ.out.1.r2.ice 7; have iz8 := HZ.out.1.r2.ice 8; have iz9 := HZ.out.1.r2.ice 9; have v0 : x.cell? ⟨w.heap.size + 1, 0, none⟩ = some (.int .i64 0) := HZ.out.1.r3.cell 0 rfl; have v1 : x.cell? ⟨w.heap.size + 1, 1, none⟩ = some (.int .i64 0) := HZ.out.1.r3.cell 1 rfl; have v2 : x.cell? ⟨w.heap.size + 1, 2, none⟩ = some (.int .i64 0) := HZ.out.1.r3.cell 2 rfl; have v3 : x.cell? ⟨w.heap.size + 1, 3, none⟩ = some (.int .i64 0) := HZ.out.1.r3.cell 3 rfl; have v4 : x.cell? ⟨w.heap.size + 1, 4, none⟩ = some (.int .i64 0) := HZ.out.1.r3.cell 4 rfl; have v5 : x.cell? ⟨w.heap.size + 1, 5, none⟩ = some (.int .i64 0) := HZ.out.1.r3.cell 5 rfl; have v6 : x.cell? ⟨w.heap.size + 1, 6, none⟩ = some (.int .i64 0) := HZ.out.1.r3.cell 6 rfl; have v7 : x.cell? ⟨w.heap.size + 1, 7, none⟩ = some (.int .i64 0) := HZ.out.1.r3.cell 7 rfl; have v8 : x.cell? ⟨w.heap.size + 1, 8, none⟩ = some (.int .i64 0) := HZ.out.1.r3.cell 8 rfl; have v9 : x.cell? ⟨w.heap.size + 1, 9, none⟩ = some (.int .i64 0) := HZ.out.1.r3.cell 9 rfl; have iv0 := HZ.out.1.r3.ice 0; have iv1 := HZ.out.1.r3.ice 1; have iv2 := HZ.out.1.r3.ice 2; have iv3 := HZ.out.1.r3.ice 3; have iv4 := HZ.out.1.r3.ice 4; have iv5 := HZ.out.1.r3.ice 5; have iv6 := HZ.out.1.r3.ice 6; have iv7 := HZ.out.1.r3.ice 7; have iv8 := HZ.out.1.r3.ice 8; have iv9 := HZ.out.1.r3.ice 9)
      all_goals
        have HF : Hid _ := FIN.out x a b HZ.out.1
        clear HZ
        go_wp2
        refine bodyPost_ret (results_row_row Try.results22 _ _ w.heap.size (w.heap.size + 1) _ _ rfl (run_loadVar_row _ w.heap.size _ _ _ _ _ HF.out.1 Try.underlying32 rfl (by kernel_rfl)) rfl (run_loadVar_row _ (w.heap.size + 1) _ _ _ _ _ HF.out.2.1 Try.underlying32 rfl (by kernel_rfl))) rfl ⟨⟨a, b, rfl⟩, HF.out.2.2⟩
    · have hok := hok rfl
      have hlo : 0 ≤ a.low ∧ a.low ≤ a.high ∧ a.high ≤ 65535 ∧ 0 ≤ a.sbits ∧ a.sbits ≤ 32 := by
        have hs := inB_true.1 (netB_parts (Ru.ok_nets hok).1).1
        unfold Ru.ok at hok
        simp only [Bool.and_eq_true, inB_true] at hok
        omega
      clear hok
      obtain ⟨p1, p2, p3, p4, p5⟩ := hlo
      go_wp2_with fail
      have H6 : Hid (WkS V ac len cap w w1 (w4.alloc (.cells #[.int .i64 a.id, .int .i64 a.prio, .int .i64 a.snet, .int .i64 a.sbits, .int .i64 a.dnet, .int .i64 a.dbits, .int .i64 6, .int .i64 a.low, .int .i64 a.high, .int .i64 a.cls] 32)) ∧ Boxed (w4.alloc (.cells #[.int .i64 a.id, .int .i64 a.prio, .int .i64 a.snet, .int .i64 a.sbits, .int .i64 a.dnet, .int .i64 a.dbits, .int .i64 6, .int .i64 a.low, .int .i64 a.high, .int .i64 a.cls] 32)) B5 #[.int .i64 a.id, .int .i64 a.prio, .int .i64 a.snet, .int .i64 a.sbits, .int .i64 a.dnet, .int .i64 a.dbits, .int .i64 a.proto, .int .i64 a.low, .int .i64 a.high, .int .i64 a.cls] 32 ∧ Boxed (w4.alloc (.cells #[.int .i64 a.id, .int .i64 a.prio, .int .i64 a.snet, .int .i64 a.sbits, .int .i64 a.dnet, .int .i64 a.dbits, .int .i64 6, .int .i64 a.low, .int .i64 a.high, .int .i64 a.cls] 32)) w4.heap.size #[.int .i64 a.id, .int .i64 a.prio, .int .i64 a.snet, .int .i64 a.sbits, .int .i64 a.dnet, .int .i64 a.dbits, .int .i64 6, .int .i64 a.low, .int .i64 a.high, .int .i64 a.cls] 32 ∧ w1.heap.size ≤ w4.heap.size) := ⟨H4.out.1.more _, H4.out.2.more _, Boxed.new _ _ _, H4.out.1.kp.size⟩
      have hne : B5 ≠ w4.heap.size := fun e => by have := H4.out.2.under; omega
      clear H4 x0 x1 x2 x3 x4 x5 x6 x7 x8 x9
      generalize w4.alloc (.cells #[.int .i64 a.id, .int .i64 a.prio, .int .i64 a.snet, .int .i64 a.sbits, .int .i64 a.dnet, .int .i64 a.dbits, .int .i64 6, .int .i64 a.low, .int .i64 a.high, .int .i64 a.cls] 32) = w6 at H6 ⊢
      generalize w4.heap.size = B6 at H6 hne ⊢
      have l7 : w6.cell? ⟨B6, 7, none⟩ = some (.int .i64 a.low) := H6.out.2.2.1.cell 7 rfl
      have l8 : w6.cell? ⟨B6, 8, none⟩ = some (.int .i64 a.high) := H6.out.2.2.1.cell 8 rfl
      have lb : B6 < w6.heap.size := H6.out.2.2.1.under
      have q1 : IntKind.i64.wrap (a.high - a.low) = a.high - a.low := by rw [IntKind.wrap_i64]; omega
      have q2 : IntKind.i64.wrap (a.high - a.low + 1) = a.high - a.low + 1 := by rw [IntKind.wrap_i64]; omega
      have hB6 : w.heap.size + 1 + 1 < B6 := Nat.lt_of_lt_of_le hq1 H6.out.2.2.2
      have hB6' : w1.heap.size ≤ B6 := H6.out.2.2.2
      go_cut [] (fun wc => Hid (∃ z : Int, WkS V ac len cap w w1 wc ∧ Boxed wc B5 #[.int .i64 a.id, .int .i64 a.prio, .int .i64 a.snet, .int .i64 a.sbits, .int .i64 a.dnet, .int .i64 a.dbits, .int .i64 a.proto, .int .i64 a.low, .int .i64 a.high, .int .i64 a.cls] 32 ∧ Boxed wc B6 #[.int .i64 a.id, .int .i64 a.prio, .int .i64 a.snet, .int .i64 a.sbits, .int .i64 a.dnet, .int .i64 a.dbits, .int .i64 6, .int .i64 z, .int .i64 a.high, .int .i64 a.cls] 32 ∧ B5 ≠ B6))
      case first =>
        go_region_law (refine step_call rfl 56 rfl #[.pointer (some ⟨w.heap.size + 1 + 1, 0, none⟩), .int .i64 (a.high - a.low + 1)] (by kernel_rfl) (drawBelow hc _ (by omega) w6.drew H6.out.1.cur.drew) ?_; rintro e w7 ⟨⟨y, rfl, y0, y1⟩, c7, k7⟩; refine ⟨_, rfl, ?_⟩; have H7 : Hid (WkS V ac len cap w w1 w7 ∧ Boxed w7 B5 #[.int .i64 a.id, .int .i64 a.prio, .int .i64 a.snet, .int .i64 a.sbits, .int .i64 a.dnet, .int .i64 a.dbits, .int .i64 a.proto, .int .i64 a.low, .int .i64 a.high, .int .i64 a.cls] 32 ∧ Boxed w7 B6 #[.int .i64 a.id, .int .i64 a.prio, .int .i64 a.snet, .int .i64 a.sbits, .int .i64 a.dnet, .int .i64 a.dbits, .int .i64 6, .int .i64 a.low, .int .i64 a.high, .int .i64 a.cls] 32) := ⟨H6.out.1.draw c7 ((Keep.refl _ _).drew.trans k7), H6.out.2.1.keep (by omega) ((Keep.refl _ _).drew.trans k7), H6.out.2.2.1.keep (by omega) ((Keep.refl _ _).drew.trans k7)⟩; have d7 : w7.cell? ⟨B6, 7, none⟩ = some (.int .i64 a.low) := H7.out.2.2.cell 7 rfl; have i7 := H7.out.2.2.ice 7; have lb7 : B6 < w7.heap.size := H7.out.2.2.under; clear c7 k7)
        all_goals
          have H8 : Hid (∀ v : Int, WkS V ac len cap w w1 (w7.setCell ⟨B6, 7, none⟩ (.int .i64 v)) ∧ Boxed (w7.setCell ⟨B6, 7, none⟩ (.int .i64 v)) B5 #[.int .i64 a.id, .int .i64 a.prio, .int .i64 a.snet, .int .i64 a.sbits, .int .i64 a.dnet, .int .i64 a.dbits, .int .i64 a.proto, .int .i64 a.low, .int .i64 a.high, .int .i64 a.cls] 32 ∧ Boxed (w7.setCell ⟨B6, 7, none⟩ (.int .i64 v)) B6 #[.int .i64 a.id, .int .i64 a.prio, .int .i64 a.snet, .int .i64 a.sbits, .int .i64 a.dnet, .int .i64 a.dbits, .int .i64 6, .int .i64 v, .int .i64 a.high, .int .i64 a.cls] 32 ∧ B5 ≠ B6) := fun v => ⟨H7.out.1.put hB6 hle hB6' 7 _, H7.out.2.1.far hne 7 _, by have := H7.out.2.2.put 7 (.int .i64 v); simpa using this, hne⟩
          go_wp2_with fail
          go_meet
          exact ⟨_, H8.out _⟩
      case rest =>
      obtain ⟨z, hx⟩ := hcut.out
      have H8 : Hid (WkS V ac len cap w w1 wc ∧ Boxed wc B5 #[.int .i64 a.id, .int .i64 a.prio, .int .i64 a.snet, .int .i64 a.sbits, .int .i64 a.dnet, .int .i64 a.dbits, .int .i64 a.proto, .int .i64 a.low, .int .i64 a.high, .int .i64 a.cls] 32 ∧ Boxed wc B6 #[.int .i64 a.id, .int .i64 a.prio, .int .i64 a.snet, .int .i64 a.sbits, .int .i64 a.dnet, .int .i64 a.dbits, .int .i64 6, .int .i64 z, .int .i64 a.high, .int .i64 a.cls] 32 ∧ B5 ≠ B6) := hx
      clear hcut hx l7 l8 lb q1 q2 H6
      have l3 : wc.cell? ⟨B6, 3, none⟩ = some (.int .i64 a.sbits) := H8.out.2.2.1.cell 3 rfl
      have i3 := H8.out.2.2.1.ice 3
      by_cases hs : a.sbits < 32
      · have H9 : Hid (WkS V ac len cap w w1 (wc.setCell ⟨B6, 3, none⟩ (.int .i64 (a.sbits + 1))) ∧ Boxed (wc.setCell ⟨B6, 3, none⟩ (.int .i64 (a.sbits + 1))) B5 #[.int .i64 a.id, .int .i64 a.prio, .int .i64 a.snet, .int .i64 a.sbits, .int .i64 a.dnet, .int .i64 a.dbits, .int .i64 a.proto, .int .i64 a.low, .int .i64 a.high, .int .i64 a.cls] 32 ∧ Boxed (wc.setCell ⟨B6, 3, none⟩ (.int .i64 (a.sbits + 1))) B6 #[.int .i64 a.id, .int .i64 a.prio, .int .i64 a.snet, .int .i64 (a.sbits + 1), .int .i64 a.dnet, .int .i64 a.dbits, .int .i64 6, .int .i64 z, .int .i64 a.high, .int .i64 a.cls] 32) := ⟨H8.out.1.put hB6 hle hB6' 3 _, H8.out.2.1.far H8.out.2.2.2 3 _, by have := H8.out.2.2.1.put 3 (.int .i64 (a.sbits + 1)); simpa using this⟩
        go_wp2_with fail
        clear l3 i3 H8
        generalize wc.setCell ⟨B6, 3, none⟩ (.int .i64 (a.sbits + 1)) = x at H9 ⊢
        obtain ⟨b, hb⟩ : ∃ b : Ru, b = ⟨a.id, a.prio, a.snet, a.sbits + 1, a.dnet, a.dbits, 6, z, a.high, a.cls⟩ := ⟨_, rfl⟩
        have H9 : Hid (WkS V ac len cap w w1 x ∧ Boxed x B5 #[.int .i64 a.id, .int .i64 a.prio, .int .i64 a.snet, .int .i64 a.sbits, .int .i64 a.dnet, .int .i64 a.dbits, .int .i64 a.proto, .int .i64 a.low, .int .i64 a.high, .int .i64 a.cls] 32 ∧ Boxed x B6 #[.int .i64 b.id, .int .i64 b.prio, .int .i64 b.snet, .int .i64 b.sbits, .int .i64 b.dnet, .int .i64 b.dbits, .int .i64 b.proto, .int .i64 b.low, .int .i64 b.high, .int .i64 b.cls] 32) := by rw [hb]; exact H9.out
        clear hb
        have y0 : x.cell? ⟨B5, 0, none⟩ = some (.int .i64 a.id) := H9.out.2.1.cell 0 rfl
        have y1 : x.cell? ⟨B5, 1, none⟩ = some (.int .i64 a.prio) := H9.out.2.1.cell 1 rfl
        have y2 : x.cell? ⟨B5, 2, none⟩ = some (.int .i64 a.snet) := H9.out.2.1.cell 2 rfl
        have y3 : x.cell? ⟨B5, 3, none⟩ = some (.int .i64 a.sbits) := H9.out.2.1.cell 3 rfl
        have y4 : x.cell? ⟨B5, 4, none⟩ = some (.int .i64 a.dnet) := H9.out.2.1.cell 4 rfl
        have y5 : x.cell? ⟨B5, 5, none⟩ = some (.int .i64 a.dbits) := H9.out.2.1.cell 5 rfl
        have y6 : x.cell? ⟨B5, 6, none⟩ = some (.int .i64 a.proto) := H9.out.2.1.cell 6 rfl
        have y7 : x.cell? ⟨B5, 7, none⟩ = some (.int .i64 a.low) := H9.out.2.1.cell 7 rfl
        have y8 : x.cell? ⟨B5, 8, none⟩ = some (.int .i64 a.high) := H9.out.2.1.cell 8 rfl
        have y9 : x.cell? ⟨B5, 9, none⟩ = some (.int .i64 a.cls) := H9.out.2.1.cell 9 rfl
        have u0 : x.cell? ⟨B6, 0, none⟩ = some (.int .i64 b.id) := H9.out.2.2.cell 0 rfl
        have u1 : x.cell? ⟨B6, 1, none⟩ = some (.int .i64 b.prio) := H9.out.2.2.cell 1 rfl
        have u2 : x.cell? ⟨B6, 2, none⟩ = some (.int .i64 b.snet) := H9.out.2.2.cell 2 rfl
        have u3 : x.cell? ⟨B6, 3, none⟩ = some (.int .i64 b.sbits) := H9.out.2.2.cell 3 rfl
        have u4 : x.cell? ⟨B6, 4, none⟩ = some (.int .i64 b.dnet) := H9.out.2.2.cell 4 rfl
        have u5 : x.cell? ⟨B6, 5, none⟩ = some (.int .i64 b.dbits) := H9.out.2.2.cell 5 rfl
        have u6 : x.cell? ⟨B6, 6, none⟩ = some (.int .i64 b.proto) := H9.out.2.2.cell 6 rfl
        have u7 : x.cell? ⟨B6, 7, none⟩ = some (.int .i64 b.low) := H9.out.2.2.cell 7 rfl
        have u8 : x.cell? ⟨B6, 8, none⟩ = some (.int .i64 b.high) := H9.out.2.2.cell 8 rfl
        have u9 : x.cell? ⟨B6, 9, none⟩ = some (.int .i64 b.cls) := H9.out.2.2.cell 9 rfl
        have z0 : x.cell? ⟨w.heap.size, 0, none⟩ = some (.int .i64 0) := H9.out.1.r2.cell 0 rfl
        have z1 : x.cell? ⟨w.heap.size, 1, none⟩ = some (.int .i64 0) := H9.out.1.r2.cell 1 rfl
        have z2 : x.cell? ⟨w.heap.size, 2, none⟩ = some (.int .i64 0) := H9.out.1.r2.cell 2 rfl
        have z3 : x.cell? ⟨w.heap.size, 3, none⟩ = some (.int .i64 0) := H9.out.1.r2.cell 3 rfl
        have z4 : x.cell? ⟨w.heap.size, 4, none⟩ = some (.int .i64 0) := H9.out.1.r2.cell 4 rfl
        have z5 : x.cell? ⟨w.heap.size, 5, none⟩ = some (.int .i64 0) := H9.out.1.r2.cell 5 rfl
        have z6 : x.cell? ⟨w.heap.size, 6, none⟩ = some (.int .i64 0) := H9.out.1.r2.cell 6 rfl
        have z7 : x.cell? ⟨w.heap.size, 7, none⟩ = some (.int .i64 0) := H9.out.1.r2.cell 7 rfl
        have z8 : x.cell? ⟨w.heap.size, 8, none⟩ = some (.int .i64 0) := H9.out.1.r2.cell 8 rfl
        have z9 : x.cell? ⟨w.heap.size, 9, none⟩ = some (.int .i64 0) := H9.out.1.r2.cell 9 rfl
        have iz0 := H9.out.1.r2.ice 0
        have iz1 := H9.out.1.r2.ice 1
        have iz2 := H9.out.1.r2.ice 2
        have iz3 := H9.out.1.r2.ice 3
        have iz4 := H9.out.1.r2.ice 4
        have iz5 := H9.out.1.r2.ice 5
        have iz6 := H9.out.1.r2.ice 6
        have iz7 := H9.out.1.r2.ice 7
        have iz8 := H9.out.1.r2.ice 8
        have iz9 := H9.out.1.r2.ice 9
        have v0 : x.cell? ⟨w.heap.size + 1, 0, none⟩ = some (.int .i64 0) := H9.out.1.r3.cell 0 rfl
        have v1 : x.cell? ⟨w.heap.size + 1, 1, none⟩ = some (.int .i64 0) := H9.out.1.r3.cell 1 rfl
        have v2 : x.cell? ⟨w.heap.size + 1, 2, none⟩ = some (.int .i64 0) := H9.out.1.r3.cell 2 rfl
        have v3 : x.cell? ⟨w.heap.size + 1, 3, none⟩ = some (.int .i64 0) := H9.out.1.r3.cell 3 rfl
        have v4 : x.cell? ⟨w.heap.size + 1, 4, none⟩ = some (.int .i64 0) := H9.out.1.r3.cell 4 rfl
        have v5 : x.cell? ⟨w.heap.size + 1, 5, none⟩ = some (.int .i64 0) := H9.out.1.r3.cell 5 rfl
        have v6 : x.cell? ⟨w.heap.size + 1, 6, none⟩ = some (.int .i64 0) := H9.out.1.r3.cell 6 rfl
        have v7 : x.cell? ⟨w.heap.size + 1, 7, none⟩ = some (.int .i64 0) := H9.out.1.r3.cell 7 rfl
        have v8 : x.cell? ⟨w.heap.size + 1, 8, none⟩ = some (.int .i64 0) := H9.out.1.r3.cell 8 rfl
        have v9 : x.cell? ⟨w.heap.size + 1, 9, none⟩ = some (.int .i64 0) := H9.out.1.r3.cell 9 rfl
        have iv0 := H9.out.1.r3.ice 0
        have iv1 := H9.out.1.r3.ice 1
        have iv2 := H9.out.1.r3.ice 2
        have iv3 := H9.out.1.r3.ice 3
        have iv4 := H9.out.1.r3.ice 4
        have iv5 := H9.out.1.r3.ice 5
        have iv6 := H9.out.1.r3.ice 6
        have iv7 := H9.out.1.r3.ice 7
        have iv8 := H9.out.1.r3.ice 8
        have iv9 := H9.out.1.r3.ice 9
        have HF : Hid _ := FIN2.out x a b H9.out.1
        clear H9
        go_region
        all_goals
          go_wp2
          refine bodyPost_ret (results_row_row Try.results22 _ _ w.heap.size (w.heap.size + 1) _ _ rfl (run_loadVar_row _ w.heap.size _ _ _ _ _ HF.out.1 Try.underlying32 rfl (by kernel_rfl)) rfl (run_loadVar_row _ (w.heap.size + 1) _ _ _ _ _ HF.out.2.1 Try.underlying32 rfl (by kernel_rfl))) rfl ⟨⟨a, b, rfl⟩, HF.out.2.2⟩
      · go_wp2_with fail
        clear l3 i3
        obtain ⟨x, rfl⟩ : ∃ x, x = wc := ⟨_, rfl⟩
        obtain ⟨b, hb⟩ : ∃ b : Ru, b = ⟨a.id, a.prio, a.snet, a.sbits, a.dnet, a.dbits, 6, z, a.high, a.cls⟩ := ⟨_, rfl⟩
        have H9 : Hid (WkS V ac len cap w w1 x ∧ Boxed x B5 #[.int .i64 a.id, .int .i64 a.prio, .int .i64 a.snet, .int .i64 a.sbits, .int .i64 a.dnet, .int .i64 a.dbits, .int .i64 a.proto, .int .i64 a.low, .int .i64 a.high, .int .i64 a.cls] 32 ∧ Boxed x B6 #[.int .i64 b.id, .int .i64 b.prio, .int .i64 b.snet, .int .i64 b.sbits, .int .i64 b.dnet, .int .i64 b.dbits, .int .i64 b.proto, .int .i64 b.low, .int .i64 b.high, .int .i64 b.cls] 32) := by rw [hb]; exact ⟨H8.out.1, H8.out.2.1, H8.out.2.2.1⟩
        clear hb H8
        have y0 : x.cell? ⟨B5, 0, none⟩ = some (.int .i64 a.id) := H9.out.2.1.cell 0 rfl
        have y1 : x.cell? ⟨B5, 1, none⟩ = some (.int .i64 a.prio) := H9.out.2.1.cell 1 rfl
        have y2 : x.cell? ⟨B5, 2, none⟩ = some (.int .i64 a.snet) := H9.out.2.1.cell 2 rfl
        have y3 : x.cell? ⟨B5, 3, none⟩ = some (.int .i64 a.sbits) := H9.out.2.1.cell 3 rfl
        have y4 : x.cell? ⟨B5, 4, none⟩ = some (.int .i64 a.dnet) := H9.out.2.1.cell 4 rfl
        have y5 : x.cell? ⟨B5, 5, none⟩ = some (.int .i64 a.dbits) := H9.out.2.1.cell 5 rfl
        have y6 : x.cell? ⟨B5, 6, none⟩ = some (.int .i64 a.proto) := H9.out.2.1.cell 6 rfl
        have y7 : x.cell? ⟨B5, 7, none⟩ = some (.int .i64 a.low) := H9.out.2.1.cell 7 rfl
        have y8 : x.cell? ⟨B5, 8, none⟩ = some (.int .i64 a.high) := H9.out.2.1.cell 8 rfl
        have y9 : x.cell? ⟨B5, 9, none⟩ = some (.int .i64 a.cls) := H9.out.2.1.cell 9 rfl
        have u0 : x.cell? ⟨B6, 0, none⟩ = some (.int .i64 b.id) := H9.out.2.2.cell 0 rfl
        have u1 : x.cell? ⟨B6, 1, none⟩ = some (.int .i64 b.prio) := H9.out.2.2.cell 1 rfl
        have u2 : x.cell? ⟨B6, 2, none⟩ = some (.int .i64 b.snet) := H9.out.2.2.cell 2 rfl
        have u3 : x.cell? ⟨B6, 3, none⟩ = some (.int .i64 b.sbits) := H9.out.2.2.cell 3 rfl
        have u4 : x.cell? ⟨B6, 4, none⟩ = some (.int .i64 b.dnet) := H9.out.2.2.cell 4 rfl
        have u5 : x.cell? ⟨B6, 5, none⟩ = some (.int .i64 b.dbits) := H9.out.2.2.cell 5 rfl
        have u6 : x.cell? ⟨B6, 6, none⟩ = some (.int .i64 b.proto) := H9.out.2.2.cell 6 rfl
        have u7 : x.cell? ⟨B6, 7, none⟩ = some (.int .i64 b.low) := H9.out.2.2.cell 7 rfl
        have u8 : x.cell? ⟨B6, 8, none⟩ = some (.int .i64 b.high) := H9.out.2.2.cell 8 rfl
        have u9 : x.cell? ⟨B6, 9, none⟩ = some (.int .i64 b.cls) := H9.out.2.2.cell 9 rfl
        have z0 : x.cell? ⟨w.heap.size, 0, none⟩ = some (.int .i64 0) := H9.out.1.r2.cell 0 rfl
        have z1 : x.cell? ⟨w.heap.size, 1, none⟩ = some (.int .i64 0) := H9.out.1.r2.cell 1 rfl
        have z2 : x.cell? ⟨w.heap.size, 2, none⟩ = some (.int .i64 0) := H9.out.1.r2.cell 2 rfl
        have z3 : x.cell? ⟨w.heap.size, 3, none⟩ = some (.int .i64 0) := H9.out.1.r2.cell 3 rfl
        have z4 : x.cell? ⟨w.heap.size, 4, none⟩ = some (.int .i64 0) := H9.out.1.r2.cell 4 rfl
        have z5 : x.cell? ⟨w.heap.size, 5, none⟩ = some (.int .i64 0) := H9.out.1.r2.cell 5 rfl
        have z6 : x.cell? ⟨w.heap.size, 6, none⟩ = some (.int .i64 0) := H9.out.1.r2.cell 6 rfl
        have z7 : x.cell? ⟨w.heap.size, 7, none⟩ = some (.int .i64 0) := H9.out.1.r2.cell 7 rfl
        have z8 : x.cell? ⟨w.heap.size, 8, none⟩ = some (.int .i64 0) := H9.out.1.r2.cell 8 rfl
        have z9 : x.cell? ⟨w.heap.size, 9, none⟩ = some (.int .i64 0) := H9.out.1.r2.cell 9 rfl
        have iz0 := H9.out.1.r2.ice 0
        have iz1 := H9.out.1.r2.ice 1
        have iz2 := H9.out.1.r2.ice 2
        have iz3 := H9.out.1.r2.ice 3
        have iz4 := H9.out.1.r2.ice 4
        have iz5 := H9.out.1.r2.ice 5
        have iz6 := H9.out.1.r2.ice 6
        have iz7 := H9.out.1.r2.ice 7
        have iz8 := H9.out.1.r2.ice 8
        have iz9 := H9.out.1.r2.ice 9
        have v0 : x.cell? ⟨w.heap.size + 1, 0, none⟩ = some (.int .i64 0) := H9.out.1.r3.cell 0 rfl
        have v1 : x.cell? ⟨w.heap.size + 1, 1, none⟩ = some (.int .i64 0) := H9.out.1.r3.cell 1 rfl
        have v2 : x.cell? ⟨w.heap.size + 1, 2, none⟩ = some (.int .i64 0) := H9.out.1.r3.cell 2 rfl
        have v3 : x.cell? ⟨w.heap.size + 1, 3, none⟩ = some (.int .i64 0) := H9.out.1.r3.cell 3 rfl
        have v4 : x.cell? ⟨w.heap.size + 1, 4, none⟩ = some (.int .i64 0) := H9.out.1.r3.cell 4 rfl
        have v5 : x.cell? ⟨w.heap.size + 1, 5, none⟩ = some (.int .i64 0) := H9.out.1.r3.cell 5 rfl
        have v6 : x.cell? ⟨w.heap.size + 1, 6, none⟩ = some (.int .i64 0) := H9.out.1.r3.cell 6 rfl
        have v7 : x.cell? ⟨w.heap.size + 1, 7, none⟩ = some (.int .i64 0) := H9.out.1.r3.cell 7 rfl
        have v8 : x.cell? ⟨w.heap.size + 1, 8, none⟩ = some (.int .i64 0) := H9.out.1.r3.cell 8 rfl
        have v9 : x.cell? ⟨w.heap.size + 1, 9, none⟩ = some (.int .i64 0) := H9.out.1.r3.cell 9 rfl
        have iv0 := H9.out.1.r3.ice 0
        have iv1 := H9.out.1.r3.ice 1
        have iv2 := H9.out.1.r3.ice 2
        have iv3 := H9.out.1.r3.ice 3
        have iv4 := H9.out.1.r3.ice 4
        have iv5 := H9.out.1.r3.ice 5
        have iv6 := H9.out.1.r3.ice 6
        have iv7 := H9.out.1.r3.ice 7
        have iv8 := H9.out.1.r3.ice 8
        have iv9 := H9.out.1.r3.ice 9
        have HF : Hid _ := FIN2.out x a b H9.out.1
        clear H9
        go_region
        all_goals
          go_wp2
          refine bodyPost_ret (results_row_row Try.results22 _ _ w.heap.size (w.heap.size + 1) _ _ rfl (run_loadVar_row _ w.heap.size _ _ _ _ _ HF.out.1 Try.underlying32 rfl (by kernel_rfl)) rfl (run_loadVar_row _ (w.heap.size + 1) _ _ _ _ _ HF.out.2.1 Try.underlying32 rfl (by kernel_rfl))) rfl ⟨⟨a, b, rfl⟩, HF.out.2.2⟩
end Go.Proofs.Ytdifegaokdoleaa
