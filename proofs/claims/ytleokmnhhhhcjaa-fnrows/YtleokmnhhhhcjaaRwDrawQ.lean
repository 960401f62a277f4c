/-
  The model's drawing of rows and a place (Popped, Weight), of rows, a place and an item (Pushed). By the verifier, by program.
-/
import Derived.Test.YtleokmnhhhhcjaaRwDrawL
import Derived.Test.YtleokmnhhhhcjaaRwPuPo
import Derived.Test.YtleokmnhhhhcjaaRwReg
import Derived.Test.YtleokmnhhhhcjaaDrawFrom
namespace Go.Proofs.Ytleokmnhhhhcjaa
open Go.RowKit

/-- What lies behind the rows that were drawn: the cursor, the rows' variable, the rows' own. -/
structure DrP (W : World) (ac : Option Addr) (len cap : Nat) (w : World) (bc B b t : Nat) (f : Int) (p : Option Addr) (n q : Nat) (r : Rw) (x : World) : Prop where
  cur : Cur W bc ac len cap x
  bel : Below w.heap.size w x
  out : Boxed x B #[.int .i64 f, .slice p n q] 26
  mem : RwIn b t x (.agg #[.int .i64 f, .slice p n q]) r
  lo : bc < b
  up : t ≤ x.heap.size
  hB : bc < B
  hc : w.heap.size < bc
  hW : Below W.heap.size W w
section
variable {W : World} {ac : Option Addr} {len cap : Nat} {w : World} {bc B b t : Nat} {f : Int} {p : Option Addr} {n q : Nat} {r : Rw} {x x' : World}
theorem DrP.draw (h : DrP W ac len cap w bc B b t f p n q r x) (c : Cur W bc ac len cap x') (k : Keep bc x x') : DrP W ac len cap w bc B b t f p n q r x' := by
  have h1 := h.lo
  have h2 := h.hB
  have h3 := h.bel.size
  have h4 := h.up
  have h5 := h.hc
  exact ⟨c, bel_two h.hW c.bel (Nat.le_trans h3 k.size) fun y hy => (k.block y (by omega) (by omega)).trans (h.bel.block y hy), h.out.keep (by omega) k, h.mem.keep k.size fun y y1 y2 => k.block y (by omega) (by omega), h.lo, Nat.le_trans h4 k.size, h.hB, h.hc, h.hW⟩
theorem DrP.below (h : DrP W ac len cap w bc B b t f p n q r x) (g : Below x.heap.size x x') : DrP W ac len cap w bc B b t f p n q r x' :=
  ⟨h.cur.below h.cur.lt g, h.bel.trans (g.mono h.bel.size), h.out.below h.out.under g, h.mem.below g, h.lo, Nat.le_trans h.up g.size, h.hB, h.hc, h.hW⟩
theorem DrP.row (h : DrP W ac len cap w bc B b t f p n q r x) {g : Nat} (hg : w.heap.size ≤ g) (hg2 : g < bc) (cs : Array Value) : DrP W ac len cap w bc B b t f p n q r (x.setRow g cs) := by
  have h1 := h.lo
  have h2 := h.hB
  have h4 := h.up
  have h6 := h.hW.size
  have o : ∀ k, k ≠ g → (x.setRow g cs).heap[k]? = x.heap[k]? := fun k hk => setRow_other _ _ _ _ hk
  have sz : (x.setRow g cs).heap.size = x.heap.size := by simp [World.setRow]
  exact ⟨h.cur.other (B := g) (by omega) o (below_setRow (Below.refl _ _) (by omega) _), below_setRow h.bel hg _, (o B (by omega)).trans h.out, h.mem.keep (by rw [sz]; exact Nat.le_refl _) fun k k1 k2 => o k (by omega), h.lo, by rw [sz]; exact h.up, h.hB, h.hc, h.hW⟩
end
theorem box_keep {x x' : World} {g bc : Nat} {cs : Array Value} {t : TypeId} (h : Boxed x g cs t) (hg : g ≠ bc) (k : Keep bc x x') : Boxed x' g cs t := by
  unfold Boxed
  rw [k.block g hg h.under]
  exact h
theorem box_row {x : World} {g g' : Nat} {cs ds : Array Value} {t : TypeId} (h : Boxed x g cs t) (hg : g ≠ g') : Boxed (x.setRow g' ds) g cs t := by
  unfold Boxed
  rw [setRow_other _ _ _ _ hg]
  exact h

/-- Results: a struct's variable, a slot, a struct's variable. -/
theorem results_row_tmp_row {P : Program} {fn : Func} {p q x : Tmp} {ty tz : TypeId} (h : fn.results = #[.cell p ty, .tmp x, .cell q tz]) (tmps : Array Value) (w : World) (g k : Nat) (t u : TypeId) (cs ds : Array Value) (fr gr : Nat × Nat) (d d' : TypeDesc) (v : Value)
    (hp : tmps.getD p undef = .pointer (some ⟨g, 0, none⟩)) (hv : tmps.getD x undef = v) (hq : tmps.getD q undef = .pointer (some ⟨k, 0, none⟩)) (hg : w.heap[g]? = some (.cells cs t fr)) (hk : w.heap[k]? = some (.cells ds u gr))
    (hu : P.underlying ty = some d) (hd : (match d with | .struct _ | .array _ _ => true | _ => false) = true) (hi : (P.info? ty).map (·.size) = some cs.size)
    (hu' : P.underlying tz = some d') (hd' : (match d' with | .struct _ | .array _ _ => true | _ => false) = true) (hi' : (P.info? tz).map (·.size) = some ds.size) :
    (results fn tmps).run P w = .ok (.tuple #[.agg cs, v, .agg ds]) w := by
  have hp' : tmps[p]?.getD undef = .pointer (some ⟨g, 0, none⟩) := by simpa using hp
  have hq' : tmps[q]?.getD undef = .pointer (some ⟨k, 0, none⟩) := by simpa using hq
  have hv' : tmps[x]?.getD undef = v := by simpa using hv
  simp [results, h, hp', hq', hv', asAddr, run_loadVar_row w g t ty cs fr d hg hu hd hi, run_loadVar_row w k u tz ds gr d' hk hu' hd' hi']

set_option maxHeartbeats 6400000 in
set_option maxRecDepth 100000 in
theorem drawPopped {W : World} {ac : Option Addr} {len cap : Nat} (hc : Hid (Code W ac len)) (w : World) (bel : Hid (Below W.heap.size W w)) :
    Calls Try.prog 7 #[.slice ac len cap] w fun e w' => (∃ v r row, e = .returned (.tuple #[v, .int .i64 row]) ∧ RwIn w.heap.size w'.heap.size w' v r ∧ r.big ≤ 100) ∧ Below w.heap.size w w' := by
  have hle := bel.out.size
  obtain ⟨w0, hw0⟩ : ∃ w0, w0 = w.alloc (.cells #[.int .i64 0, .slice none 0 0] 26) := ⟨_, rfl⟩
  have hs0 : w0.heap.size = w.heap.size + 1 := by rw [hw0]; simp
  have H0 : Hid (Below W.heap.size W w0 ∧ Below w.heap.size w w0 ∧ Boxed w0 w.heap.size #[.int .i64 0, .slice none 0 0] 26) := by
    rw [hw0]
    exact ⟨bel.out.alloc hle _, (Below.refl _ _).alloc (Nat.le_refl _) _, Boxed.new _ _ _⟩
  have HW0 : Hid (w0 = _) := hw0
  have HS0 : Hid (w0.heap.size = _) := hs0
  clear hw0 hs0
  go_enter Try.func7, Try.ntmps7
  go_wp2_with fail
  rw [← HW0.out]
  refine (drawNew hc _ H0.out.1).mono ?_
  rintro e w1 ⟨rfl, c1, b1⟩
  rw [HS0.out] at c1 b1 ⊢
  have H1 : Hid (Cur W (w.heap.size + 1) ac len cap w1 ∧ Below w.heap.size w w1 ∧ Boxed w1 w.heap.size #[.int .i64 0, .slice none 0 0] 26 ∧ w.heap.size + 1 < w1.heap.size) := ⟨c1, H0.out.2.1.trans (b1.mono (by omega)), H0.out.2.2.below (by omega) b1, c1.lt⟩
  clear c1 b1 H0 HW0 HS0
  go_wp2_with fail
  refine (drawRows hc _ H1.out.1).mono ?_
  rintro e w2 ⟨⟨v, r, rfl, i2, hbig⟩, c2, k2⟩
  obtain ⟨p, q, ev⟩ : ∃ p q, v = .agg #[.int .i64 r.most, .slice p r.lists.length q] := by
    obtain ⟨p, q, e, _⟩ := i2
    exact ⟨p, q, e⟩
  subst ev
  have X2 : Hid (DrP W ac len cap w (w.heap.size + 1) w2.heap.size w1.heap.size w2.heap.size r.most p r.lists.length q r (w2.alloc (.cells #[.int .i64 r.most, .slice p r.lists.length q] 26)) ∧ Boxed (w2.alloc (.cells #[.int .i64 r.most, .slice p r.lists.length q] 26)) w.heap.size #[.int .i64 0, .slice none 0 0] 26) := by
    have q1 := H1.out.2.1.size
    have q2 := k2.size
    have q3 := H1.out.1.lt
    have b2 : Below w.heap.size w w2 := bel_two bel.out c2.bel (by omega) fun k hk => (k2.block k (by omega) (by omega)).trans (H1.out.2.1.block k hk)
    exact ⟨⟨c2.alloc _, b2.alloc b2.size _, Boxed.new _ _ _, i2.below ((Below.refl _ _).alloc (Nat.le_refl _) _), q3, by simp, by omega, by omega, bel.out⟩, (box_keep H1.out.2.2.1 (by omega) k2).more _⟩
  have Hbig : Hid (r.big ≤ 100) := hbig
  generalize r.most = f at X2 ⊢
  generalize r.lists.length = n at X2 ⊢
  clear i2 c2 k2 hbig
  go_wp2_with fail
  generalize w2.alloc (.cells #[.int .i64 f, .slice p n q] 26) = w3 at X2 ⊢
  generalize w1.heap.size = b at X2
  obtain ⟨t, ht⟩ : ∃ t, t = w2.heap.size := ⟨_, rfl⟩
  have X3 : Hid (DrP W ac len cap w (w.heap.size + 1) w2.heap.size b t f p n q r w3 ∧ Boxed w3 w.heap.size #[.int .i64 0, .slice none 0 0] 26) := by rw [ht]; exact X2
  clear X2 ht H1
  generalize w2.heap.size = B at X3 ⊢
  refine (drawOnce hc 12 (by omega) _ X3.out.1.cur).mono ?_
  rintro e w4 ⟨⟨bo, rfl⟩, c4, k4⟩
  have X4 : Hid (DrP W ac len cap w (w.heap.size + 1) B b t f p n q r w4 ∧ Boxed w4 w.heap.size #[.int .i64 0, .slice none 0 0] 26) := ⟨X3.out.1.draw c4 k4, box_keep X3.out.2 (by have := X3.out.1.hc; omega) k4⟩
  clear c4 k4 X3
  cases bo
  · go_wp2_with fail
    refine region_lists (G := Unit) (by kernel_rfl) (by kernel_rfl) (by kernel_rfl) (fun _ => 99) (fun (L : Nat → Bool) (_ : Unit) (x : World) => DrP W ac len cap w (w.heap.size + 1) B b t f p n q r x ∧ (∃ z0 z1, Boxed x w.heap.size #[z0, z1] 26) ∧ (L 3 = true → Boxed x w.heap.size #[.int .i64 f, .slice p n q] 26)) (fun i _ x _ x' => ∀ k, w.heap.size + 1 < k → k < x.heap.size → x'.heap[k]? = x.heap[k]?) (fun i y x v => ([fun _ _ v => v = .agg #[.int .i64 f, .slice p n q], fun _ _ v => v = .pointer (some ⟨w.heap.size + 1, 0, none⟩), fun _ _ v => ∃ j : Nat, v = .int .i64 (j : Int) ∧ j < 4, fun _ _ _ => True, fun _ _ v => ∃ z : Int, v = .int .i64 z] : List (Unit → World → Value → Prop)).getD i (fun _ _ _ => True) y x v) ?hR () ?h0 ?step ?last
    case hR =>
      intro i j y y' x x' v hi hj hne hu h1 h2 hp hr
      have hj' : j < 5 := hj
      have hcases : j = 0 ∨ j = 1 ∨ j = 2 ∨ j = 3 ∨ j = 4 := by omega
      rcases hcases with rfl | rfl | rfl | rfl | rfl
      · exact hp
      · exact hp
      · exact hp
      · exact hp
      · exact hp
    case h0 => exact ⟨X4.out.1.below (Below.refl _ _).drew, ⟨_, _, X4.out.2⟩, (fun h => by cases h)⟩
    case step =>
      intro i o hi ho L a' y x hLi hwt hre hkp hI hp
      have sB : a'.tmps.getD 5 undef = .pointer (some ⟨B, 0, none⟩) := hkp.slot 5 (by kernel_rfl)
      have sC : a'.tmps.getD 4 undef = .pointer (some ⟨w.heap.size + 1, 0, none⟩) := hkp.slot 4 (by kernel_rfl)
      have s2 : a'.tmps.getD 2 undef = .pointer (some ⟨w.heap.size, 0, none⟩) := hkp.slot 2 (by kernel_rfl)
      have hD := hI.1
      have hcc := hD.hc
      have hi' : i < 5 := hi
      have hcases : i = 0 ∨ i = 1 ∨ i = 2 ∨ i = 3 ∨ i = 4 := by omega
      rcases hcases with rfl | rfl | rfl | rfl | rfl
      · cases ho
        exact ⟨wanted_none rfl, wp_load_row 26 (.tmp 5) rfl B sB _ _ _ _ hD.out Try.underlying26 rfl (by kernel_rfl) ⟨_, (), rfl, fun _ _ _ => rfl, hI, fun u hu => hu (fun h => by cases h)⟩⟩
      · cases ho
        exact ⟨wanted_none rfl, op_move 4 rfl ⟨_, (), rfl, fun _ _ _ => rfl, hI, fun u hu => (hu (fun h => by cases h)).trans sC⟩⟩
      · cases ho
        have q0 : a'.tmps[19]?.getD undef = .pointer (some ⟨w.heap.size + 1, 0, none⟩) := by have h2 : a'.tmps.getD 19 undef = .pointer (some ⟨w.heap.size + 1, 0, none⟩) := hp 1 (of_decide_eq_true (by kernel_rfl)) (.inr (by decide)); simpa using h2
        refine ⟨wanted_none rfl, op_callB (by simp [execOp, resolve, Deferred.ofValue, invoke, Act.eval, q0]) (drawBelow hc 4 (by omega) x hD.cur) ?_⟩
        rintro e z ⟨⟨v, rfl, v0, v1⟩, ci, ki⟩
        obtain ⟨j, rfl⟩ := Int.eq_ofNat_of_zero_le v0
        exact ⟨_, rfl, _, (), rfl, fun k h1 h2 => ki.block k (by omega) h2, ⟨hD.draw ci ki, (hI.2.1.imp fun z0 h => h.imp fun z1 h => box_keep h (by omega) ki), fun h => box_keep (hI.2.2 h) (by omega) ki⟩, fun u hu => ⟨j, hu (fun h => by cases h), by omega⟩⟩
      · cases ho
        have e1 : a'.tmps.getD 18 undef = .agg #[.int .i64 f, .slice p n q] := hp 0 (of_decide_eq_true (by kernel_rfl)) (.inr (by decide))
        obtain ⟨z0, z1, hz⟩ := hI.2.1
        exact ⟨wanted_none rfl, wp_store_row 26 (.tmp 2) (.tmp 18) rfl w.heap.size #[.int .i64 f, .slice p n q] (by simpa [Act.eval] using s2) (by simpa [Act.eval] using e1) _ _ hz (by kernel_rfl) rfl (by simp [Value.oneCell']) ⟨_, (), rfl, fun k h1 _ => setRow_other _ _ _ _ (by omega), ⟨hD.row (Nat.le_refl _) (by omega) _, ⟨_, _, setRow_heap _ _ _ _ _ _ hz⟩, fun _ => setRow_heap _ _ _ _ _ _ hz⟩, fun _ _ => trivial⟩⟩
      · cases ho
        obtain ⟨z, e1, _⟩ := hp 2 (of_decide_eq_true (by kernel_rfl)) (.inr (by decide))
        have e1 : a'.tmps.getD 20 undef = .int .i64 (z : Int) := e1
        exact ⟨wanted_none rfl, op_assign 20 rfl ⟨_, (), rfl, fun _ _ _ => rfl, hI, fun u hu => ⟨_, (hu (fun h => by cases h)).trans e1⟩⟩⟩
    case last =>
    intro L a' y x hall hkp hI hp
    obtain ⟨z, hz⟩ := hp 4 (by decide) (by decide)
    have e3 : a'.tmps.getD 3 undef = .int .i64 z := hz
    have s2 : a'.tmps.getD 2 undef = .pointer (some ⟨w.heap.size, 0, none⟩) := hkp.slot 2 (by kernel_rfl)
    have b1 := hI.2.2 (hall 3 (by decide))
    have hd : a'.defers = [] := hkp.defers
    have M : RwIn w.heap.size x.heap.size x (.agg #[.int .i64 f, .slice p n q]) r := hI.1.mem.wide (by have h1 := hI.1.lo; have h2 := hI.1.hc; omega) hI.1.up (Nat.le_refl _)
    have Fin : Hid (_ ∧ _) := And.intro (results_row_tmp Try.results7 a'.tmps x w.heap.size _ _ _ _ (.int .i64 z) s2 e3 b1 Try.underlying26 rfl (by kernel_rfl)) hd
    have Bl : Hid (Below w.heap.size w x) := hI.1.bel
    have HM : Hid _ := M
    clear hp hkp hI hz e3 s2 b1 hall hd M
    go_wp2
    exact bodyPost_ret Fin.out.1 Fin.out.2 ⟨⟨_, r, z, rfl, HM.out, Hbig.out⟩, Bl.out⟩
  · go_wp2_with fail
    refine region_lists (G := Unit) (by kernel_rfl) (by kernel_rfl) (by kernel_rfl) (fun _ => 99) (fun (L : Nat → Bool) (_ : Unit) (x : World) => DrP W ac len cap w (w.heap.size + 1) B b t f p n q r x ∧ (∃ z0 z1, Boxed x w.heap.size #[z0, z1] 26) ∧ (L 6 = true → Boxed x w.heap.size #[.int .i64 f, .slice p n q] 26)) (fun i _ x _ x' => ∀ k, w.heap.size + 1 < k → k < x.heap.size → x'.heap[k]? = x.heap[k]?) (fun i y x v => ([fun _ _ v => v = .agg #[.int .i64 f, .slice p n q], fun _ x v => ∃ n1, v = .slice (some ⟨n1, 0, none⟩) 4 4 ∧ Boxed x n1 #[.int .i64 (-1), .int .i64 16, .int .i64 4611686018427387904, .int .i64 (-9223372036854775808)] 2 ∧ w.heap.size + 1 < n1, fun _ _ v => v = .pointer (some ⟨w.heap.size + 1, 0, none⟩), fun _ _ v => ∃ j : Nat, v = .int .i64 (j : Int) ∧ j < 4, fun _ x v => ∃ (n1 : Nat) (j : Nat), v = .pointer (some ⟨n1, j, none⟩) ∧ Boxed x n1 #[.int .i64 (-1), .int .i64 16, .int .i64 4611686018427387904, .int .i64 (-9223372036854775808)] 2 ∧ w.heap.size + 1 < n1 ∧ j < 4, fun _ _ v => ∃ z : Int, v = .int .i64 z, fun _ _ _ => True, fun _ _ v => ∃ z : Int, v = .int .i64 z] : List (Unit → World → Value → Prop)).getD i (fun _ _ _ => True) y x v) ?hR () ?h0 ?step ?last
    case hR =>
      intro i j y y' x x' v hi hj hne hu h1 h2 hp hr
      have hj' : j < 8 := hj
      have hcases : j = 0 ∨ j = 1 ∨ j = 2 ∨ j = 3 ∨ j = 4 ∨ j = 5 ∨ j = 6 ∨ j = 7 := by omega
      rcases hcases with rfl | rfl | rfl | rfl | rfl | rfl | rfl | rfl
      · exact hp
      · obtain ⟨n1, e, hb, hl⟩ := hp
        exact ⟨n1, e, (hr n1 hl hb.under).trans hb, hl⟩
      · exact hp
      · exact hp
      · obtain ⟨n1, j, e, hb, hl, hj⟩ := hp
        exact ⟨n1, j, e, (hr n1 hl hb.under).trans hb, hl, hj⟩
      · exact hp
      · exact hp
      · exact hp
    case h0 => exact ⟨X4.out.1.below (Below.refl _ _).drew, ⟨_, _, X4.out.2⟩, (fun h => by cases h)⟩
    case step =>
      intro i o hi ho L a' y x hLi hwt hre hkp hI hp
      have sB : a'.tmps.getD 5 undef = .pointer (some ⟨B, 0, none⟩) := hkp.slot 5 (by kernel_rfl)
      have sC : a'.tmps.getD 4 undef = .pointer (some ⟨w.heap.size + 1, 0, none⟩) := hkp.slot 4 (by kernel_rfl)
      have s2 : a'.tmps.getD 2 undef = .pointer (some ⟨w.heap.size, 0, none⟩) := hkp.slot 2 (by kernel_rfl)
      have hD := hI.1
      have hcc := hD.hc
      have hi' : i < 8 := hi
      have hcases : i = 0 ∨ i = 1 ∨ i = 2 ∨ i = 3 ∨ i = 4 ∨ i = 5 ∨ i = 6 ∨ i = 7 := by omega
      rcases hcases with rfl | rfl | rfl | rfl | rfl | rfl | rfl | rfl
      · cases ho
        exact ⟨wanted_none rfl, wp_load_row 26 (.tmp 5) rfl B sB _ _ _ _ hD.out Try.underlying26 rfl (by kernel_rfl) ⟨_, (), rfl, fun _ _ _ => rfl, hI, fun u hu => hu (fun h => by cases h)⟩⟩
      · cases ho
        refine ⟨wanted_none rfl, Oper.wp_mono (K := fun a'' w'' => a'' = a'.put (some 13) (.slice (some ⟨x.heap.size, 0, none⟩) 4 4) ∧ w'' = x.alloc (.cells #[.int .i64 (-1), .int .i64 16, .int .i64 4611686018427387904, .int .i64 (-9223372036854775808)] 2)) ?_ ?_⟩
        · rintro _ _ ⟨rfl, rfl⟩
          have bl : Below x.heap.size x (x.alloc (.cells #[.int .i64 (-1), .int .i64 16, .int .i64 4611686018427387904, .int .i64 (-9223372036854775808)] 2)) := (Below.refl _ _).alloc (Nat.le_refl _) _
          exact ⟨_, (), rfl, fun k _ h2 => bl.block k h2, ⟨hD.below bl, (hI.2.1.imp fun z0 h => h.imp fun z1 h => Boxed.more h _), fun h => Boxed.more (hI.2.2 h) _⟩, fun u hu => ⟨x.heap.size, hu (fun h => by cases h), Boxed.new _ _ _, hD.cur.lt⟩⟩
        · unfold Oper.wp
          simp [go_sem]
      · cases ho
        exact ⟨wanted_none rfl, op_move 4 rfl ⟨_, (), rfl, fun _ _ _ => rfl, hI, fun u hu => (hu (fun h => by cases h)).trans sC⟩⟩
      · cases ho
        have q0 : a'.tmps[14]?.getD undef = .pointer (some ⟨w.heap.size + 1, 0, none⟩) := by have h2 : a'.tmps.getD 14 undef = .pointer (some ⟨w.heap.size + 1, 0, none⟩) := hp 2 (of_decide_eq_true (by kernel_rfl)) (.inr (by decide)); simpa using h2
        refine ⟨wanted_none rfl, op_callB (by simp [execOp, resolve, Deferred.ofValue, invoke, Act.eval, q0]) (drawBelow hc 4 (by omega) x hD.cur) ?_⟩
        rintro e z ⟨⟨v, rfl, v0, v1⟩, ci, ki⟩
        obtain ⟨j, rfl⟩ := Int.eq_ofNat_of_zero_le v0
        exact ⟨_, rfl, _, (), rfl, fun k h1 h2 => ki.block k (by omega) h2, ⟨hD.draw ci ki, (hI.2.1.imp fun z0 h => h.imp fun z1 h => box_keep h (by omega) ki), fun h => box_keep (hI.2.2 h) (by omega) ki⟩, fun u hu => ⟨j, hu (fun h => by cases h), by omega⟩⟩
      · cases ho
        obtain ⟨n1, e1, hb1, hl1⟩ := hp 1 (of_decide_eq_true (by kernel_rfl)) (.inr (by decide))
        obtain ⟨j, e2, hj2⟩ := hp 3 (of_decide_eq_true (by kernel_rfl)) (.inr (by decide))
        have q1 : a'.tmps[13]?.getD undef = .slice (some ⟨n1, 0, none⟩) 4 4 := by have h2 : a'.tmps.getD 13 undef = .slice (some ⟨n1, 0, none⟩) 4 4 := e1; simpa using h2
        have q2 : a'.tmps[15]?.getD undef = .int .i64 (j : Int) := by have h2 : a'.tmps.getD 15 undef = .int .i64 (j : Int) := e2; simpa using h2
        refine ⟨wanted_none rfl, Oper.wp_mono (K := fun a'' w'' => a'' = a'.put (some 16) (.pointer (some ⟨n1, j, none⟩)) ∧ w'' = x) ?_ ?_⟩
        · rintro _ _ ⟨rfl, rfl⟩
          exact ⟨_, (), rfl, fun _ _ _ => rfl, hI, fun u hu => ⟨n1, j, hu (fun h => by cases h), hb1, hl1, hj2⟩⟩
        · have hj4 : (j : Int) < 4 := by omega
          unfold Oper.wp
          simp [go_sem, q1, q2, hj4]
      · cases ho
        obtain ⟨n1, j, e1, hb1, hl1, hj1⟩ := hp 4 (of_decide_eq_true (by kernel_rfl)) (.inr (by decide))
        have q1 : a'.tmps[16]?.getD undef = .pointer (some ⟨n1, j, none⟩) := by have h2 : a'.tmps.getD 16 undef = .pointer (some ⟨n1, j, none⟩) := e1; simpa using h2
        obtain ⟨z, hz⟩ : ∃ z : Int, x.cell? ⟨n1, j, none⟩ = some (.int .i64 z) := by
          have hj' : j = 0 ∨ j = 1 ∨ j = 2 ∨ j = 3 := by omega
          rcases hj' with rfl | rfl | rfl | rfl
          · exact ⟨_, hb1.cell 0 rfl⟩
          · exact ⟨_, hb1.cell 1 rfl⟩
          · exact ⟨_, hb1.cell 2 rfl⟩
          · exact ⟨_, hb1.cell 3 rfl⟩
        refine ⟨wanted_none rfl, Oper.wp_mono (K := fun a'' w'' => a'' = a'.put (some 17) (.int .i64 z) ∧ w'' = x) ?_ ?_⟩
        · rintro _ _ ⟨rfl, rfl⟩
          exact ⟨_, (), rfl, fun _ _ _ => rfl, hI, fun u hu => ⟨z, hu (fun h => by cases h)⟩⟩
        · unfold Oper.wp
          simp [go_sem, q1, hz]
      · cases ho
        have e1 : a'.tmps.getD 12 undef = .agg #[.int .i64 f, .slice p n q] := hp 0 (of_decide_eq_true (by kernel_rfl)) (.inr (by decide))
        obtain ⟨z0, z1, hz⟩ := hI.2.1
        exact ⟨wanted_none rfl, wp_store_row 26 (.tmp 2) (.tmp 12) rfl w.heap.size #[.int .i64 f, .slice p n q] (by simpa [Act.eval] using s2) (by simpa [Act.eval] using e1) _ _ hz (by kernel_rfl) rfl (by simp [Value.oneCell']) ⟨_, (), rfl, fun k h1 _ => setRow_other _ _ _ _ (by omega), ⟨hD.row (Nat.le_refl _) (by omega) _, ⟨_, _, setRow_heap _ _ _ _ _ _ hz⟩, fun _ => setRow_heap _ _ _ _ _ _ hz⟩, fun _ _ => trivial⟩⟩
      · cases ho
        obtain ⟨z, e1⟩ := hp 5 (of_decide_eq_true (by kernel_rfl)) (.inr (by decide))
        have e1 : a'.tmps.getD 17 undef = .int .i64 z := e1
        exact ⟨wanted_none rfl, op_assign 17 rfl ⟨_, (), rfl, fun _ _ _ => rfl, hI, fun u hu => ⟨_, (hu (fun h => by cases h)).trans e1⟩⟩⟩
    case last =>
    intro L a' y x hall hkp hI hp
    obtain ⟨z, hz⟩ := hp 7 (by decide) (by decide)
    have e3 : a'.tmps.getD 3 undef = .int .i64 z := hz
    have s2 : a'.tmps.getD 2 undef = .pointer (some ⟨w.heap.size, 0, none⟩) := hkp.slot 2 (by kernel_rfl)
    have b1 := hI.2.2 (hall 6 (by decide))
    have hd : a'.defers = [] := hkp.defers
    have M : RwIn w.heap.size x.heap.size x (.agg #[.int .i64 f, .slice p n q]) r := hI.1.mem.wide (by have h1 := hI.1.lo; have h2 := hI.1.hc; omega) hI.1.up (Nat.le_refl _)
    have Fin : Hid (_ ∧ _) := And.intro (results_row_tmp Try.results7 a'.tmps x w.heap.size _ _ _ _ (.int .i64 z) s2 e3 b1 Try.underlying26 rfl (by kernel_rfl)) hd
    have Bl : Hid (Below w.heap.size w x) := hI.1.bel
    have HM : Hid _ := M
    clear hp hkp hI hz e3 s2 b1 hall hd M
    go_wp2
    exact bodyPost_ret Fin.out.1 Fin.out.2 ⟨⟨_, r, z, rfl, HM.out, Hbig.out⟩, Bl.out⟩

set_option maxHeartbeats 6400000 in
set_option maxRecDepth 100000 in
theorem drawPushed {W : World} {ac : Option Addr} {len cap : Nat} (hc : Hid (Code W ac len)) (w : World) (bel : Hid (Below W.heap.size W w)) :
    Calls Try.prog 5 #[.slice ac len cap] w fun e w' => (∃ v r row i, e = .returned (.tuple #[v, .int .i64 row, .agg #[.int .i64 (It.id i), .int .i64 (It.size i), .int .i64 (It.tm i)]]) ∧ RwIn w.heap.size w'.heap.size w' v r ∧ r.big ≤ 100) ∧ Below w.heap.size w w' := by
  have hle := bel.out.size
  obtain ⟨w0, hw0⟩ : ∃ w0, w0 = (w.alloc (.cells #[.int .i64 0, .slice none 0 0] 26)).alloc (.cells #[.int .i64 0, .int .i64 0, .int .i64 0] 28) := ⟨_, rfl⟩
  have hs0 : w0.heap.size = w.heap.size + 1 + 1 := by rw [hw0]; simp
  have H0 : Hid (Below W.heap.size W w0 ∧ Below w.heap.size w w0 ∧ Boxed w0 w.heap.size #[.int .i64 0, .slice none 0 0] 26 ∧ Boxed w0 (w.heap.size + 1) #[.int .i64 0, .int .i64 0, .int .i64 0] 28) := by
    rw [hw0]
    refine ⟨(bel.out.alloc hle _).alloc (by simp; omega) _, ((Below.refl _ _).alloc (Nat.le_refl _) _).alloc (by simp) _, (Boxed.new _ _ _).more _, ?_⟩
    have := Boxed.new (w.alloc (.cells #[.int .i64 0, .slice none 0 0] 26)) #[.int .i64 0, .int .i64 0, .int .i64 0] 28
    simpa using this
  have HW0 : Hid (w0 = _) := hw0
  have HS0 : Hid (w0.heap.size = _) := hs0
  clear hw0 hs0
  go_enter Try.func5, Try.ntmps5
  go_wp2_with fail
  rw [← HW0.out]
  refine (drawNew hc _ H0.out.1).mono ?_
  rintro e w1 ⟨rfl, c1, b1⟩
  rw [HS0.out] at c1 b1 ⊢
  have H1 : Hid (Cur W (w.heap.size + 1 + 1) ac len cap w1 ∧ Below w.heap.size w w1 ∧ Boxed w1 w.heap.size #[.int .i64 0, .slice none 0 0] 26 ∧ Boxed w1 (w.heap.size + 1) #[.int .i64 0, .int .i64 0, .int .i64 0] 28 ∧ w.heap.size + 1 + 1 < w1.heap.size) := ⟨c1, H0.out.2.1.trans (b1.mono (by omega)), H0.out.2.2.1.below (by omega) b1, H0.out.2.2.2.below (by omega) b1, c1.lt⟩
  clear c1 b1 H0 HW0 HS0
  go_wp2_with fail
  refine (drawRows hc _ H1.out.1).mono ?_
  rintro e w2 ⟨⟨v, r, rfl, i2, hbig⟩, c2, k2⟩
  obtain ⟨p, q, ev⟩ : ∃ p q, v = .agg #[.int .i64 r.most, .slice p r.lists.length q] := by
    obtain ⟨p, q, e, _⟩ := i2
    exact ⟨p, q, e⟩
  subst ev
  have X2 : Hid (DrP W ac len cap w (w.heap.size + 1 + 1) w2.heap.size w1.heap.size w2.heap.size r.most p r.lists.length q r (w2.alloc (.cells #[.int .i64 r.most, .slice p r.lists.length q] 26)) ∧ Boxed (w2.alloc (.cells #[.int .i64 r.most, .slice p r.lists.length q] 26)) w.heap.size #[.int .i64 0, .slice none 0 0] 26 ∧ Boxed (w2.alloc (.cells #[.int .i64 r.most, .slice p r.lists.length q] 26)) (w.heap.size + 1) #[.int .i64 0, .int .i64 0, .int .i64 0] 28) := by
    have q1 := H1.out.2.1.size
    have q2 := k2.size
    have q3 := H1.out.1.lt
    have b2 : Below w.heap.size w w2 := bel_two bel.out c2.bel (by omega) fun k hk => (k2.block k (by omega) (by omega)).trans (H1.out.2.1.block k hk)
    exact ⟨⟨c2.alloc _, b2.alloc b2.size _, Boxed.new _ _ _, i2.below ((Below.refl _ _).alloc (Nat.le_refl _) _), q3, by simp, by omega, by omega, bel.out⟩, (box_keep H1.out.2.2.1 (by omega) k2).more _, (box_keep H1.out.2.2.2.1 (by omega) k2).more _⟩
  have Hbig : Hid (r.big ≤ 100) := hbig
  generalize r.most = f at X2 ⊢
  generalize r.lists.length = n at X2 ⊢
  clear i2 c2 k2 hbig
  go_wp2_with fail
  generalize w2.alloc (.cells #[.int .i64 f, .slice p n q] 26) = w3 at X2 ⊢
  generalize w1.heap.size = b at X2
  obtain ⟨t, ht⟩ : ∃ t, t = w2.heap.size := ⟨_, rfl⟩
  have X3 : Hid (DrP W ac len cap w (w.heap.size + 1 + 1) w2.heap.size b t f p n q r w3 ∧ Boxed w3 w.heap.size #[.int .i64 0, .slice none 0 0] 26 ∧ Boxed w3 (w.heap.size + 1) #[.int .i64 0, .int .i64 0, .int .i64 0] 28) := by rw [ht]; exact X2
  clear X2 ht H1
  generalize w2.heap.size = B at X3 ⊢
  refine (drawFrom hc (-1) 6 (by omega) (by omega) (by omega) _ X3.out.1.cur).mono ?_
  rintro e w4 ⟨⟨row, rfl, r0, r1⟩, c4, k4⟩
  have X4 : Hid (DrP W ac len cap w (w.heap.size + 1 + 1) B b t f p n q r w4 ∧ Boxed w4 w.heap.size #[.int .i64 0, .slice none 0 0] 26 ∧ Boxed w4 (w.heap.size + 1) #[.int .i64 0, .int .i64 0, .int .i64 0] 28) := ⟨X3.out.1.draw c4 k4, box_keep X3.out.2.1 (by omega) k4, box_keep X3.out.2.2 (by omega) k4⟩
  clear c4 k4 X3 r0 r1
  go_wp2_with fail
  refine region_lists (G := Unit) (by kernel_rfl) (by kernel_rfl) (by kernel_rfl) (fun _ => 99) (fun (L : Nat → Bool) (_ : Unit) (x : World) => DrP W ac len cap w (w.heap.size + 1 + 1) B b t f p n q r x ∧ (∃ z0 z1, Boxed x w.heap.size #[z0, z1] 26) ∧ (L 4 = true → Boxed x w.heap.size #[.int .i64 f, .slice p n q] 26) ∧ (∃ z0 z1 z2, Boxed x (w.heap.size + 1) #[z0, z1, z2] 28) ∧ (L 6 = true → ∃ i : It, Boxed x (w.heap.size + 1) #[.int .i64 i.id, .int .i64 i.size, .int .i64 i.tm] 28)) (fun i _ x _ x' => ∀ k, w.heap.size + 1 + 1 < k → k < x.heap.size → x'.heap[k]? = x.heap[k]?) (fun i y x v => ([fun _ _ v => v = .agg #[.int .i64 f, .slice p n q], fun _ _ v => ∃ z : Int, v = .int .i64 z, fun _ _ v => v = .pointer (some ⟨w.heap.size + 1 + 1, 0, none⟩), fun _ _ v => ∃ i : It, v = i.val, fun _ _ _ => True, fun _ _ v => ∃ z : Int, v = .int .i64 z, fun _ _ _ => True] : List (Unit → World → Value → Prop)).getD i (fun _ _ _ => True) y x v) ?hR () ?h0 ?step ?last
  case hR =>
    intro i j y y' x x' v hi hj hne hu h1 h2 hp hr
    have hj' : j < 7 := hj
    have hcases : j = 0 ∨ j = 1 ∨ j = 2 ∨ j = 3 ∨ j = 4 ∨ j = 5 ∨ j = 6 := by omega
    rcases hcases with rfl | rfl | rfl | rfl | rfl | rfl | rfl
    · exact hp
    · exact hp
    · exact hp
    · exact hp
    · exact hp
    · exact hp
    · exact hp
  case h0 => exact ⟨X4.out.1.below (Below.refl _ _).drew, ⟨_, _, X4.out.2.1⟩, (fun h => by cases h), ⟨_, _, _, X4.out.2.2⟩, (fun h => by cases h)⟩
  case step =>
    intro i o hi ho L a' y x hLi hwt hre hkp hI hp
    have sB : a'.tmps.getD 6 undef = .pointer (some ⟨B, 0, none⟩) := hkp.slot 6 (by kernel_rfl)
    have sC : a'.tmps.getD 5 undef = .pointer (some ⟨w.heap.size + 1 + 1, 0, none⟩) := hkp.slot 5 (by kernel_rfl)
    have s2 : a'.tmps.getD 2 undef = .pointer (some ⟨w.heap.size, 0, none⟩) := hkp.slot 2 (by kernel_rfl)
    have s4 : a'.tmps.getD 4 undef = .pointer (some ⟨w.heap.size + 1, 0, none⟩) := hkp.slot 4 (by kernel_rfl)
    have s7 : a'.tmps.getD 7 undef = .int .i64 row := hkp.slot 7 (by kernel_rfl)
    have hD := hI.1
    have hcc := hD.hc
    have hi' : i < 7 := hi
    have hcases : i = 0 ∨ i = 1 ∨ i = 2 ∨ i = 3 ∨ i = 4 ∨ i = 5 ∨ i = 6 := by omega
    rcases hcases with rfl | rfl | rfl | rfl | rfl | rfl | rfl
    · cases ho
      exact ⟨wanted_none rfl, wp_load_row 26 (.tmp 6) rfl B sB _ _ _ _ hD.out Try.underlying26 rfl (by kernel_rfl) ⟨_, (), rfl, fun _ _ _ => rfl, hI, fun u hu => hu (fun h => by cases h)⟩⟩
    · cases ho
      exact ⟨wanted_none rfl, op_move 7 rfl ⟨_, (), rfl, fun _ _ _ => rfl, hI, fun u hu => ⟨row, (hu (fun h => by cases h)).trans s7⟩⟩⟩
    · cases ho
      exact ⟨wanted_none rfl, op_move 5 rfl ⟨_, (), rfl, fun _ _ _ => rfl, hI, fun u hu => (hu (fun h => by cases h)).trans sC⟩⟩
    · cases ho
      have q0 : a'.tmps[16]?.getD undef = .pointer (some ⟨w.heap.size + 1 + 1, 0, none⟩) := by have h2 : a'.tmps.getD 16 undef = .pointer (some ⟨w.heap.size + 1 + 1, 0, none⟩) := hp 2 (of_decide_eq_true (by kernel_rfl)) (.inr (by decide)); simpa using h2
      refine ⟨wanted_none rfl, op_callB (by simp [execOp, resolve, Deferred.ofValue, invoke, Act.eval, q0]) (drawItem hc x hD.cur) ?_⟩
      rintro e z ⟨⟨v, rfl, it, rfl⟩, ci, ki⟩
      exact ⟨_, rfl, _, (), rfl, fun k h1 h2 => ki.block k (by omega) h2, ⟨hD.draw ci ki, (hI.2.1.imp fun z0 h => h.imp fun z1 h => box_keep h (by omega) ki), fun h => box_keep (hI.2.2.1 h) (by omega) ki, (hI.2.2.2.1.imp fun z0 h => h.imp fun z1 h => h.imp fun z2 h => box_keep h (by omega) ki), fun h => (hI.2.2.2.2 h).imp fun i h => box_keep h (by omega) ki⟩, fun u hu => ⟨it, hu (fun h => by cases h)⟩⟩
    · cases ho
      have e1 : a'.tmps.getD 14 undef = .agg #[.int .i64 f, .slice p n q] := hp 0 (of_decide_eq_true (by kernel_rfl)) (.inr (by decide))
      obtain ⟨z0, z1, hz⟩ := hI.2.1
      exact ⟨wanted_none rfl, wp_store_row 26 (.tmp 2) (.tmp 14) rfl w.heap.size #[.int .i64 f, .slice p n q] (by simpa [Act.eval] using s2) (by simpa [Act.eval] using e1) _ _ hz (by kernel_rfl) rfl (by simp [Value.oneCell']) ⟨_, (), rfl, fun k h1 _ => setRow_other _ _ _ _ (by omega), ⟨hD.row (Nat.le_refl _) (by omega) _, ⟨_, _, setRow_heap _ _ _ _ _ _ hz⟩, fun _ => setRow_heap _ _ _ _ _ _ hz, (hI.2.2.2.1.imp fun z0 h => h.imp fun z1 h => h.imp fun z2 h => box_row h (by omega)), fun h => (hI.2.2.2.2 h).imp fun i h => box_row h (by omega)⟩, fun _ _ => trivial⟩⟩
    · cases ho
      obtain ⟨z, e1⟩ := hp 1 (of_decide_eq_true (by kernel_rfl)) (.inr (by decide))
      have e1 : a'.tmps.getD 15 undef = .int .i64 z := e1
      exact ⟨wanted_none rfl, op_assign 15 rfl ⟨_, (), rfl, fun _ _ _ => rfl, hI, fun u hu => ⟨_, (hu (fun h => by cases h)).trans e1⟩⟩⟩
    · cases ho
      obtain ⟨it, e1⟩ := hp 3 (of_decide_eq_true (by kernel_rfl)) (.inr (by decide))
      have e1 : a'.tmps.getD 17 undef = .agg #[.int .i64 it.id, .int .i64 it.size, .int .i64 it.tm] := e1
      obtain ⟨z0, z1, z2, hz⟩ := hI.2.2.2.1
      exact ⟨wanted_none rfl, wp_store_row 28 (.tmp 4) (.tmp 17) rfl (w.heap.size + 1) #[.int .i64 it.id, .int .i64 it.size, .int .i64 it.tm] (by simpa [Act.eval] using s4) (by simpa [Act.eval] using e1) _ _ hz (by kernel_rfl) rfl (by simp [Value.oneCell']) ⟨_, (), rfl, fun k h1 _ => setRow_other _ _ _ _ (by omega), ⟨hD.row (by omega) (by omega) _, (hI.2.1.imp fun z0 h => h.imp fun z1 h => box_row h (by omega)), fun h => box_row (hI.2.2.1 h) (by omega), ⟨_, _, _, setRow_heap _ _ _ _ _ _ hz⟩, fun _ => ⟨it, setRow_heap _ _ _ _ _ _ hz⟩⟩, fun _ _ => trivial⟩⟩
  case last =>
  intro L a' y x hall hkp hI hp
  obtain ⟨z, hz⟩ := hp 5 (by decide) (by decide)
  have e3 : a'.tmps.getD 3 undef = .int .i64 z := hz
  have s2 : a'.tmps.getD 2 undef = .pointer (some ⟨w.heap.size, 0, none⟩) := hkp.slot 2 (by kernel_rfl)
  have b1 := hI.2.2.1 (hall 4 (by decide))
  have hd : a'.defers = [] := hkp.defers
  have M : RwIn w.heap.size x.heap.size x (.agg #[.int .i64 f, .slice p n q]) r := hI.1.mem.wide (by have h1 := hI.1.lo; have h2 := hI.1.hc; omega) hI.1.up (Nat.le_refl _)
  obtain ⟨it, b2⟩ := hI.2.2.2.2 (hall 6 (by decide))
  have s4 : a'.tmps.getD 4 undef = .pointer (some ⟨w.heap.size + 1, 0, none⟩) := hkp.slot 4 (by kernel_rfl)
  have Fin : Hid (_ ∧ _) := And.intro (results_row_tmp_row Try.results5 a'.tmps x w.heap.size (w.heap.size + 1) _ _ _ _ _ _ _ _ (.int .i64 z) s2 e3 s4 b1 b2 Try.underlying26 rfl (by kernel_rfl) Try.underlying28 rfl (by kernel_rfl)) hd
  have Bl : Hid (Below w.heap.size w x) := hI.1.bel
  have HM : Hid _ := M
  clear hp hkp hI hz e3 s2 s4 b1 b2 hall hd M
  go_wp2
  exact bodyPost_ret Fin.out.1 Fin.out.2 ⟨⟨_, r, z, it, rfl, HM.out, Hbig.out⟩, Bl.out⟩
end Go.Proofs.Ytleokmnhhhhcjaa
