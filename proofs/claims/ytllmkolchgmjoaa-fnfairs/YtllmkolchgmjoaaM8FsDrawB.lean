import Derived.Test.YtllmkolchgmjoaaDraw
import Derived.Test.YtllmkolchgmjoaaFsDraw
import Derived.Test.YtllmkolchgmjoaaM7DrawO
import Derived.Test.YtllmkolchgmjoaaRegList
import Derived.Test.YtllmkolchgmjoaaRegGuard
/-
  The model's drawing between two bounds (l1From). By the verifier.
-/
namespace Go.Proofs.Ytllmkolchgmjoaa
open Go.RowKit

theorem drawFrom {W : World} {bc : Nat} {a : Option Addr} {len cap : Nat} (hc : Hid (Code W a len)) (lo hi : Int) (h0 : -4294967296 ≤ lo) (h1 : lo ≤ hi) (h2 : hi ≤ 4294967296) (w : World) (cur : Hid (Cur W bc a len cap w)) :
    Calls Try.prog 48 #[.pointer (some ⟨bc, 0, none⟩), .int .i64 lo, .int .i64 hi] w fun e w' => (∃ x : Int, e = .returned (.int .i64 x) ∧ lo ≤ x ∧ x ≤ hi) ∧ Cur W bc a len cap w' ∧ Keep bc w w' := by
  go_enter Try.func48, Try.ntmps48
  go_wp2_with fail
  refine (drawBelow hc (hi - lo + 1) (by omega) _ cur).mono ?_
  rintro e w1 ⟨⟨x, rfl, x0, x1⟩, c1⟩
  have Hc : Hid (Cur W bc a len cap w1 ∧ Keep bc w w1) := c1
  clear c1 cur
  go_wp2
  go_ret
  exact ⟨⟨_, rfl, by omega, by omega⟩, Hc.out⟩
end Go.Proofs.Ytllmkolchgmjoaa

/-
  The model's drawing of flows and of one of them (Begins). By the verifier, by program.
-/
namespace Go.Proofs.Ytllmkolchgmjoaa
open Go.RowKit

/-- What lies behind the deal that was drawn: the cursor, the deal's variable, the deal's own. -/
structure FsP (W : World) (ac : Option Addr) (len cap : Nat) (w : World) (bc B b t : Nat) (f : Int) (p : Option Addr) (n q : Nat) (r : Fs) (x : World) : Prop where
  o : DrO 26 W ac len cap w bc B #[.int .i64 f, .slice p n q] x
  mem : FsIn b t x (.agg #[.int .i64 f, .slice p n q]) r
  lo : bc < b
  up : t ≤ x.heap.size
section
variable {W : World} {ac : Option Addr} {len cap : Nat} {w : World} {bc B b t : Nat} {f : Int} {p : Option Addr} {n q : Nat} {r : Fs} {x x' : World}
theorem FsP.draw (h : FsP W ac len cap w bc B b t f p n q r x) (c : Cur W bc ac len cap x') (k : Keep bc x x') : FsP W ac len cap w bc B b t f p n q r x' := by
  have h1 := h.lo
  have h4 := h.up
  exact ⟨h.o.draw c k, h.mem.keep k.size fun y y1 y2 => k.block y (by omega) (by omega), h.lo, Nat.le_trans h4 k.size⟩
theorem FsP.below (h : FsP W ac len cap w bc B b t f p n q r x) (g : Below x.heap.size x x') : FsP W ac len cap w bc B b t f p n q r x' :=
  ⟨h.o.below g, h.mem.below g, h.lo, Nat.le_trans h.up g.size⟩
theorem FsP.row (h : FsP W ac len cap w bc B b t f p n q r x) {g : Nat} (hg : w.heap.size ≤ g) (hg2 : g < bc) (cs : Array Value) : FsP W ac len cap w bc B b t f p n q r (x.setRow g cs) := by
  have h1 := h.lo
  have h4 := h.up
  have o : ∀ k, k ≠ g → (x.setRow g cs).heap[k]? = x.heap[k]? := fun k hk => setRow_other _ _ _ _ hk
  have sz : (x.setRow g cs).heap.size = x.heap.size := by simp [World.setRow]
  exact ⟨h.o.row hg hg2 cs, h.mem.keep (by rw [sz]; exact Nat.le_refl _) fun k k1 k2 => o k (by omega), h.lo, by rw [sz]; exact h.up⟩
end

set_option maxHeartbeats 6400000 in
set_option maxRecDepth 100000 in
theorem dDrawBegins {W : World} {ac : Option Addr} {len cap : Nat} (hc : Hid (Code W ac len)) (w : World) (bel : Hid (Below W.heap.size W w)) :
    Calls Try.prog 19 #[.slice ac len cap] w fun e w' => (∃ v r host, e = .returned (.tuple #[v, .int .i64 host]) ∧ FsIn w.heap.size w'.heap.size w' v r ∧ r.big ≤ 200 ∧ -1 ≤ host ∧ host ≤ 6) ∧ Below w.heap.size w w' := by
  have hle := bel.out.size
  obtain ⟨w0, hw0⟩ : ∃ w0, w0 = w.alloc (.cells #[.int .i64 0, .slice none 0 0] 26) := ⟨_, rfl⟩
  have hs0 : w0.heap.size = w.heap.size + 1 := by rw [hw0]; simp
  have H0 : Hid (Below W.heap.size W w0 ∧ Below w.heap.size w w0 ∧ Boxed w0 w.heap.size #[.int .i64 0, .slice none 0 0] 26) := by
    rw [hw0]
    exact ⟨bel.out.alloc hle _, (Below.refl _ _).alloc (Nat.le_refl _) _, Boxed.new _ _ _⟩
  have HW0 : Hid (w0 = _) := hw0
  have HS0 : Hid (w0.heap.size = _) := hs0
  clear hw0 hs0
  go_enter Try.func19, Try.ntmps19
  go_wp2_with fail
  rw [← HW0.out]
  refine (drawNew hc _ H0.out.1).mono ?_
  rintro e w1 ⟨rfl, c1, b1⟩
  rw [HS0.out] at c1 b1 ⊢
  have H1 : Hid (Cur W (w.heap.size + 1) ac len cap w1 ∧ Below w.heap.size w w1 ∧ Boxed w1 w.heap.size #[.int .i64 0, .slice none 0 0] 26 ∧ w.heap.size + 1 < w1.heap.size) := ⟨c1, H0.out.2.1.trans (b1.mono (by omega)), H0.out.2.2.below (by omega) b1, c1.lt⟩
  clear c1 b1 H0 HW0 HS0
  go_wp2_with fail
  refine (drawFair hc _ H1.out.1).mono ?_
  rintro e w2 ⟨⟨v, r, rfl, i2, hbig⟩, c2, k2⟩
  obtain ⟨p, q, ev⟩ : ∃ p q, v = .agg #[.int .i64 r.now, .slice p r.flows.length q] := by
    obtain ⟨p, q, e, _⟩ := i2
    exact ⟨p, q, e⟩
  subst ev
  have Hbig : Hid (r.big ≤ 200) := hbig
  have X2 : Hid (FsP W ac len cap w (w.heap.size + 1) w2.heap.size w1.heap.size w2.heap.size r.now p r.flows.length q r (w2.alloc (.cells #[.int .i64 r.now, .slice p r.flows.length q] 26)) ∧ Boxed (w2.alloc (.cells #[.int .i64 r.now, .slice p r.flows.length q] 26)) w.heap.size #[.int .i64 0, .slice none 0 0] 26) := by
    have q1 := H1.out.2.1.size
    have q2 := k2.size
    have q3 := H1.out.1.lt
    have b2 : Below w.heap.size w w2 := bel_two bel.out c2.bel (by omega) fun k hk => (k2.block k (by omega) (by omega)).trans (H1.out.2.1.block k hk)
    exact ⟨⟨⟨c2.alloc _, b2.alloc b2.size _, Boxed.new _ _ _, by omega, by omega, bel.out⟩, i2.below ((Below.refl _ _).alloc (Nat.le_refl _) _), q3, by simp⟩, (boxKeep H1.out.2.2.1 (by omega) k2).more _⟩
  generalize r.now = f at X2 ⊢
  generalize r.flows.length = n at X2 ⊢
  clear i2 c2 k2 hbig
  go_wp2_with fail
  generalize w2.alloc (.cells #[.int .i64 f, .slice p n q] 26) = w3 at X2 ⊢
  generalize w1.heap.size = b at X2
  obtain ⟨t, ht⟩ : ∃ t, t = w2.heap.size := ⟨_, rfl⟩
  have X3 : Hid (FsP W ac len cap w (w.heap.size + 1) w2.heap.size b t f p n q r w3 ∧ Boxed w3 w.heap.size #[.int .i64 0, .slice none 0 0] 26) := by rw [ht]; exact X2
  clear X2 ht H1
  generalize w2.heap.size = B at X3 ⊢
  refine region_lists (G := Unit) (by kernel_rfl) (by kernel_rfl) (by kernel_rfl) (fun _ => 99) (fun (L : Nat → Bool) (_ : Unit) (x : World) => FsP W ac len cap w (w.heap.size + 1) B b t f p n q r x ∧ (∃ z0 z1, Boxed x w.heap.size #[z0, z1] 26) ∧ (L 3 = true → Boxed x w.heap.size #[.int .i64 f, .slice p n q] 26)) (fun _ _ _ _ _ => True) (fun i y x v => ([fun _ _ v => v = .agg #[.int .i64 f, .slice p n q], fun _ _ v => v = .pointer (some ⟨w.heap.size + 1, 0, none⟩), fun _ _ v => ∃ z : Int, v = .int .i64 z ∧ -1 ≤ z ∧ z ≤ 6, fun _ _ _ => True, fun _ _ v => ∃ z : Int, v = .int .i64 z ∧ -1 ≤ z ∧ z ≤ 6] : List (Unit → World → Value → Prop)).getD i (fun _ _ _ => True) y x v) ?hR () ?h0 ?step ?last
  case hR =>
    intro i j y y' x x' v hi hj hne hu h1 h2 hp hr
    have hj' : j < 5 := hj
    have hcases : j = 0 ∨ j = 1 ∨ j = 2 ∨ j = 3 ∨ j = 4 := by omega
    rcases hcases with rfl | rfl | rfl | rfl | rfl
    · exact hp
    · exact hp
    · exact hp
    · exact hp
    · exact hp
  case h0 => exact ⟨X3.out.1.below (Below.refl _ _).drew, ⟨_, _, X3.out.2⟩, fun h => by cases h⟩
  case step =>
    intro i o hi ho L a' y x hLi hwt hre hkp hI hp
    have sB : a'.tmps.getD 5 undef = .pointer (some ⟨B, 0, none⟩) := hkp.slot 5 (by kernel_rfl)
    have sC : a'.tmps.getD 4 undef = .pointer (some ⟨w.heap.size + 1, 0, none⟩) := hkp.slot 4 (by kernel_rfl)
    have s2 : a'.tmps.getD 2 undef = .pointer (some ⟨w.heap.size, 0, none⟩) := hkp.slot 2 (by kernel_rfl)
    have hD := hI.1
    have hcc := hD.o.hc
    have hi' : i < 5 := hi
    have hcases : i = 0 ∨ i = 1 ∨ i = 2 ∨ i = 3 ∨ i = 4 := by omega
    rcases hcases with rfl | rfl | rfl | rfl | rfl
    · cases ho
      exact ⟨wanted_none rfl, wp_load_row 26 (.tmp 5) rfl B sB _ _ _ _ hD.o.out Try.underlying26 rfl (by kernel_rfl) ⟨_, (), rfl, trivial, hI, fun u hu => hu (fun h => by cases h)⟩⟩
    · cases ho
      exact ⟨wanted_none rfl, op_move 4 rfl ⟨_, (), rfl, trivial, hI, fun u hu => (hu (fun h => by cases h)).trans sC⟩⟩
    · cases ho
      have q0 : a'.tmps[11]?.getD undef = .pointer (some ⟨w.heap.size + 1, 0, none⟩) := by have h2 : a'.tmps.getD 11 undef = .pointer (some ⟨w.heap.size + 1, 0, none⟩) := hp 1 (of_decide_eq_true (by kernel_rfl)) (.inr (by decide)); simpa using h2
      refine ⟨wanted_none rfl, op_callB (by simp [execOp, resolve, Deferred.ofValue, invoke, Act.eval, q0]) (drawFrom hc (-1) 6 (by omega) (by omega) (by omega) x hD.o.cur) ?_⟩
      rintro e z ⟨⟨v, rfl, v0, v1⟩, ci, ki⟩
      exact ⟨_, rfl, _, (), rfl, trivial, ⟨hD.draw ci ki, (hI.2.1.imp fun z0 h => h.imp fun z1 h => boxKeep h (by omega) ki), fun h => boxKeep (hI.2.2 h) (by omega) ki⟩, fun u hu => ⟨v, hu (fun h => by cases h), v0, v1⟩⟩
    · cases ho
      have e1 : a'.tmps.getD 10 undef = .agg #[.int .i64 f, .slice p n q] := hp 0 (of_decide_eq_true (by kernel_rfl)) (.inr (by decide))
      obtain ⟨z0, z1, hz⟩ := hI.2.1
      exact ⟨wanted_none rfl, wp_store_row 26 (.tmp 2) (.tmp 10) rfl w.heap.size #[.int .i64 f, .slice p n q] (by simpa [Act.eval] using s2) (by simpa [Act.eval] using e1) _ _ hz (by kernel_rfl) rfl (by simp [Value.oneCell']) ⟨_, (), rfl, trivial, ⟨hD.row (Nat.le_refl _) (by omega) _, ⟨_, _, setRow_heap _ _ _ _ _ _ hz⟩, fun _ => setRow_heap _ _ _ _ _ _ hz⟩, fun _ _ => trivial⟩⟩
    · cases ho
      obtain ⟨z, e1, b1⟩ := hp 2 (of_decide_eq_true (by kernel_rfl)) (.inr (by decide))
      have e1 : a'.tmps.getD 12 undef = .int .i64 z := e1
      exact ⟨wanted_none rfl, opAssign 12 rfl ⟨_, (), rfl, trivial, hI, fun u hu => ⟨_, (hu (fun h => by cases h)).trans e1, b1⟩⟩⟩
  case last =>
  intro L a' y x hall hkp hI hp
  obtain ⟨z, hz, zb⟩ := hp 4 (by decide) (by decide)
  have e3 : a'.tmps.getD 3 undef = .int .i64 z := hz
  have s2 : a'.tmps.getD 2 undef = .pointer (some ⟨w.heap.size, 0, none⟩) := hkp.slot 2 (by kernel_rfl)
  have b1 := hI.2.2 (hall 3 (by decide))
  have hd : a'.defers = [] := hkp.defers
  have M : FsIn w.heap.size x.heap.size x (.agg #[.int .i64 f, .slice p n q]) r := hI.1.mem.wide (by have h1 := hI.1.lo; have h2 := hI.1.o.hc; omega) hI.1.up (Nat.le_refl _)
  have Fin : Hid (_ ∧ _) := And.intro (results_row_tmp Try.results19 a'.tmps x w.heap.size _ _ _ _ (.int .i64 z) s2 e3 b1 Try.underlying26 rfl (by kernel_rfl)) hd
  have Bl : Hid (Below w.heap.size w x) := hI.1.o.bel
  have HM : Hid _ := M
  have Hz : Hid (-1 ≤ z ∧ z ≤ 6) := zb
  clear hp hkp hI hz e3 s2 b1 hall hd M zb
  go_wp2
  exact bodyPost_ret Fin.out.1 Fin.out.2 ⟨⟨_, r, z, rfl, HM.out, Hbig.out, Hz.out⟩, Bl.out⟩

end Go.Proofs.Ytllmkolchgmjoaa
