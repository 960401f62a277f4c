/-
  The model's drawing of a deal. By the verifier, by program.
-/
import Derived.Test.YtojmghnbekneiaaDlDr
import Derived.Test.YtojmghnbekneiaaRegList
import Derived.Test.YtojmghnbekneiaaRegGuard
import Derived.Test.YtojmghnbekneiaaM1LikeInt
import Derived.Deep.DeepCutAuto
import Derived.Deep.RegionLaw
import Derived.Laws.MakeOwn
import Derived.Laws.ResultCell
namespace Go.Proofs.Ytojmghnbekneiaa
open Go.RowKit

section
variable {W : World} {bc : Nat} {ac : Option Addr} {len cap : Nat} {w : World} {rs : List Hsr} {l : List Hs} {f : Int} {b n q t : Nat} {x : World}
theorem DdV.heads (h : DdV W bc ac len cap w f b n q t rs l x) : (x.cell? ⟨b, 0, none⟩ = some (.int .i64 (hsrAt rs 0).turn) ∧ x.frozen? ⟨b, 0, none⟩ = false) ∧ (x.cell? ⟨b, 1, none⟩ = some (hsrAt rs 0).hd ∧ x.frozen? ⟨b, 1, none⟩ = false) := by
  have hcl := hscells_length rs
  have hl := h.mem.len
  have h0 := h.n0
  have h1 := h.hn
  have ho := h.mem.outer
  rw [h1] at ho
  have c0 := ho.cells 0 (by omega)
  have c1 := ho.cells 1 (by omega)
  obtain ⟨g0, g1⟩ := hscells_get rs 0 (by omega)
  simp only [Nat.zero_mul, Nat.zero_add] at g0 g1 c0 c1
  rw [g0] at c0
  rw [g1] at c1
  exact ⟨c0, c1⟩
theorem DdV.flow0 {y off m c : Nat} (h : DdV W bc ac len cap w f b n q t rs l x) (e : (hsrAt rs 0).hd = .slice (some ⟨y, off, none⟩) m c) (hm : (hsAt l 0).flows.length = m) (h1 : 1 ≤ m) : ∃ z : Int, x.cell? ⟨y, off, none⟩ = some (.int .i64 z) ∧ x.frozen? ⟨y, off, none⟩ = false ∧ w.heap.size + 2 ≤ y := by
  have hr := h.mem.row 0 (by have := h.n0; have := h.hn; omega)
  unfold IntIn at hr
  rw [e, hm] at hr
  have c0 := SlIn.cells hr 0 (by simp; omega)
  have i0 := SlIn.in hr (k := y) (o := off) ⟨off, _, c, rfl, Nat.le_refl _, by simp; omega⟩
  rw [List.getElem?_map, List.getElem?_eq_getElem (by omega)] at c0
  exact ⟨_, c0.1, c0.2, i0.1⟩
theorem small_set {l : List Hs} {r : Hs} (h : ∀ k, k < l.length → (hsAt l k).flows.length ≤ 9) (hr : r.flows.length ≤ 9) (h0 : 0 < l.length) : ∀ k, k < (l.set 0 r).length → (hsAt (l.set 0 r) k).flows.length ≤ 9 := by
  intro k hk
  rw [List.length_set] at hk
  by_cases e : k = 0
  · subst e; rw [hsAt_set h0]; exact hr
  · rw [hsAt_other e]; exact h k hk
theorem DdV.putF {y off m c : Nat} {z : Int} (h : DdV W bc ac len cap w f b n q t rs l x) (e : (hsrAt rs 0).hd = .slice (some ⟨y, off, none⟩) m c) (hm : (hsAt l 0).flows.length = m) (h1 : 1 ≤ m) : ∃ f' t' rs' l', DdV W bc ac len cap w f' b n q t' rs' l' (x.setCell ⟨y, off, none⟩ (.int .i64 z)) := by
  obtain ⟨_, _, _, hy⟩ := h.flow0 e hm h1
  have h0 : 0 < l.length := by have := h.n0; have := h.hn; omega
  have m1 := h.mem.put (j := 0) (i := 0) h0 (by omega) (by rw [hm]; exact e) z
  have bel : Below (w.heap.size + 2) x (x.setCell ⟨y, off, none⟩ (.int .i64 z)) := (Below.refl _ _).setCell (by show w.heap.size + 2 ≤ y; exact hy) _
  exact ⟨_, _, _, _, h.other bel m1 (Nat.le_trans h.up bel.size) (by rw [List.length_set]; exact h.hn) (small_set h.sm (by simp only [List.length_set]; exact h.sm 0 h0) h0)⟩
theorem DdV.putT {z : Int} (h : DdV W bc ac len cap w f b n q t rs l x) : ∃ f' t' rs' l', DdV W bc ac len cap w f' b n q t' rs' l' (x.setCell ⟨b, 0, none⟩ (.int .i64 z)) := by
  have h0 : 0 < l.length := by have := h.n0; have := h.hn; omega
  have m0 := h.mem
  have m1 := m0.putTurn (j := 0) h0 (x := b) (off := 0) (c := q) (by rw [h.hn]) z
  simp only [Nat.zero_mul, Nat.zero_add] at m1
  have bel : Below (w.heap.size + 2) x (x.setCell ⟨b, 0, none⟩ (.int .i64 z)) := (Below.refl _ _).setCell (by show w.heap.size + 2 ≤ b; exact h.at_b.1) _
  exact ⟨_, _, _, _, h.other bel m1 (Nat.le_trans h.up bel.size) (by rw [List.length_set]; exact h.hn) (small_set h.sm (h.sm 0 h0) h0)⟩
theorem made_ints (m : Nat) : (madeCells #[Value.int .i64 0] (m * 1)).toList = (List.replicate m (0 : Int)).map (Value.int .i64) := by
  apply List.ext_getElem?
  intro i
  by_cases hi : i < m
  · simp [madeCells, hi, Nat.mod_one]
  · rw [List.getElem?_eq_none (by simp [madeCells]; omega), List.getElem?_eq_none (by simp; omega)]
theorem DdV.putL {m : Nat} (hm : m ≤ 9) (h : DdV W bc ac len cap w f b n q t rs l x) : ∃ f' t' rs' l', DdV W bc ac len cap w f' b n q t' rs' l' ((x.alloc (.cells (madeCells #[.int .i64 0] (m * 1)) 2)).setCell ⟨b, 1, none⟩ (.slice (some ⟨x.heap.size, 0, none⟩) m m)) := by
  have h0 : 0 < l.length := by have := h.n0; have := h.hn; omega
  have hs := h.at_b
  have hu := h.up
  have g : Below x.heap.size x (x.alloc (.cells (madeCells #[.int .i64 0] (m * 1)) 2)) := (Below.refl _ _).alloc (Nat.le_refl _) _
  have hr : IRow x.heap.size (x.alloc (.cells (madeCells #[.int .i64 0] (m * 1)) 2)) (.slice (some ⟨x.heap.size, 0, none⟩) m m) (List.replicate m 0) := by
    have := World.ownsRow_lit (size := 1) (e := 2) (base := x.heap.size) x (madeCells #[.int .i64 0] (m * 1)) m (Nat.le_refl _) (by unfold maxLen; omega) (by rw [size_madeCells])
    rw [made_ints] at this
    unfold IRow
    rw [List.length_replicate]
    exact this
  have m1 := h.mem.fresh (j := 0) h0 (x := b) (off := 0) (c := q) (by rw [h.hn]) g (t' := x.heap.size + 1) (fl := List.replicate m 0) (IntIn.of_row hr (fun k hk => by cases hk; show x.heap.size < x.heap.size + 1; omega) (by simp)) ⟨_, m, by rw [List.length_replicate], by simp, fun e => by cases e⟩ (by omega) (by omega) (by simp) hu
  simp only [Nat.zero_mul, Nat.zero_add] at m1
  have bel : Below (w.heap.size + 2) x ((x.alloc (.cells (madeCells #[.int .i64 0] (m * 1)) 2)).setCell ⟨b, 1, none⟩ (.slice (some ⟨x.heap.size, 0, none⟩) m m)) := (g.mono (by omega)).setCell (by show w.heap.size + 2 ≤ b; exact hs.1) _
  exact ⟨_, _, _, _, h.other bel m1 (by simp [World.setCell]) (by rw [List.length_set]; exact h.hn) (small_set h.sm (by simpa using hm) h0)⟩
end
theorem intsMake (n : Nat) (hn : n ≤ 1000) (wx : World) : (Instr.makeSlice 33 (.int .i64 (n : Int)) (.int .i64 (n : Int))).run Try.prog wx = .ok (.slice (some ⟨wx.heap.size, 0, none⟩) n n) (wx.alloc (.cells (madeCells #[.int .i64 0] (n * 1)) 2)) := by
  obtain ⟨i0, hi, hz0, hz1, hz2⟩ := info_parts info2'
  have := run_make (P := Try.prog) wx 33 2 i0 (.int .i64 0) Try.underlying33 hi hz0 .i64 .i64 n n (by omega) (by omega) (by rw [hz2]; omega) (by omega)
  rw [this, hz1]; simp [Value.cells]

set_option maxHeartbeats 12800000 in
set_option maxRecDepth 100000 in
theorem drawDeal {W : World} {bc : Nat} {a : Option Addr} {len cap : Nat} (hc : Hid (Code W a len)) (w : World) (cur : Hid (Cur W bc a len cap w)) :
    Calls Try.prog 36 #[.pointer (some ⟨bc, 0, none⟩)] w fun e w' => (∃ v d, e = .returned v ∧ DlIn w.heap.size w'.heap.size w' v d ∧ d.big ≤ 100) ∧ Cur W bc a len cap w' ∧ Keep bc w w' := by
  have hbc := cur.out.lt
  have H0 : Hid (DdW W bc a len cap w (.slice none 0 0) [] [] ((w.alloc (.cells #[.int .i64 0, .slice none 0 0] 26)).alloc (.cells #[.int .i64 0, .slice none 0 0] 26))) := by
    refine ⟨(cur.out.alloc _).alloc _, ((Keep.refl _ w).alloc _).alloc _, (Boxed.new _ _ _).more _, ?_, HsG.nil _ _, hbc, fun k hk => by simp at hk⟩
    have := Boxed.new (w.alloc (.cells #[.int .i64 0, .slice none 0 0] 26)) #[.int .i64 0, .slice none 0 0] 26
    simpa using this
  go_enter Try.func36, Try.ntmps36
  go_wp2_with fail
  generalize (w.alloc (.cells #[.int .i64 0, .slice none 0 0] 26)).alloc (.cells #[.int .i64 0, .slice none 0 0] 26) = w1 at H0 ⊢
  refine (drawBelow hc 4 (by omega) _ H0.out.cur).mono ?_
  rintro e w2 ⟨⟨y, rfl, y0, y1⟩, c2, k2⟩
  obtain ⟨j, rfl⟩ := Int.eq_ofNat_of_zero_le y0
  have H2 : Hid (∃ v rs l, DdW W bc a len cap w v rs l w2 ∧ l.length + (1 + j) ≤ 4 ∧ 1 ≤ l.length + (1 + j)) := ⟨_, _, _, H0.out.draw c2 k2, by simp only [List.length_nil]; omega, by simp only [List.length_nil]; omega⟩
  have hj : 1 + j ≤ 4 := by omega
  clear c2 k2 H0 y0 y1
  obtain ⟨k0, hk0⟩ : ∃ k0, k0 = 1 + j := ⟨_, rfl⟩
  have ek : (1 + (j : Int)) = (k0 : Int) := by omega
  rw [← hk0] at H2 hj
  clear hk0
  go_wp2_with fail
  go_loopw [4, 5, 6, 7] (fun s _ _ _ wr => ∃ k : Nat, k ≤ 4 ∧ s = .int .i64 k ∧ Hid (∃ v rs l, DdW W bc a len cap w v rs l wr ∧ l.length + k ≤ 4 ∧ 1 ≤ l.length + k)) (fun s _ _ _ _ => (intOf s).toNat)
  case atStart => exact ⟨k0, hj, by rw [← ek], H2.out⟩
  case round =>
    obtain ⟨k', hk9, rfl, HE⟩ := hrel
    clear H2 ek
    obtain ⟨v, rs, l, HR⟩ : ∃ v rs l, Hid (DdW W bc a len cap w v rs l wr ∧ l.length + k' ≤ 4 ∧ 1 ≤ l.length + k') := HE.out
    clear HE
    obtain ⟨k, rfl⟩ : ∃ k, k = k' := ⟨_, rfl⟩
    by_cases hk : k = 0
    · subst hk
      obtain ⟨b, q, ev, HV⟩ : ∃ b q, v = .slice (some ⟨b, 0, none⟩) l.length q ∧ Hid (DdV W bc a len cap w 0 b l.length q wr.heap.size rs l wr) := HR.out.1.end (by have := HR.out.2; omega)
      have hn1 : 1 ≤ l.length := HV.out.n0
      have hn4 : l.length ≤ 4 := HV.out.n4
      obtain ⟨ah, ch, eh, _, hnc⟩ := HV.out.mem.cap 0 (by omega)
      have hpos : 1 ≤ (hsAt l 0).flows.length := (HR.out.1.sm 0 (by omega)).1
      obtain ⟨yb, off, ea, _⟩ : ∃ g off, ah = some ⟨g, off, none⟩ ∧ True := by
        have hr := HV.out.mem.row 0 (by omega)
        unfold IntIn at hr
        rw [eh] at hr
        obtain ⟨g, off, e, _⟩ := SlIn.some hr (by intro e; have := congrArg List.length e; simp at this; rw [this] at hpos; simp at hpos)
        exact ⟨g, off, e, trivial⟩
      rw [ea] at eh
      obtain ⟨m, hm⟩ : ∃ m, (hsAt l 0).flows.length = m := ⟨_, rfl⟩
      rw [hm] at eh hpos
      have Eh : Hid ((hsrAt rs 0).hd = .slice (some ⟨yb, off, none⟩) m ch ∧ (hsAt l 0).flows.length = m ∧ 1 ≤ m) := ⟨eh, hm, hpos⟩
      clear eh hnc ea HR ev hm
      obtain ⟨n, hn⟩ : ∃ n, l.length = n := ⟨_, rfl⟩
      rw [hn] at HV hn1 hn4
      have hni : (0 : Int) < (n : Int) := by omega
      have hnn : 0 < n := by omega
      have hmn : 0 < m := by omega
      have cc1 : wr.cell? ⟨w.heap.size + 1, 1, none⟩ = some (.slice (some ⟨b, 0, none⟩) n q) := HV.out.out.cell 1 rfl
      generalize ht : wr.heap.size = t at HV
      clear ht hn
      go_wp2_with fail
      refine (drawBelow hc (n : Int) hni _ HV.out.cur).mono ?_
      rintro e w3 ⟨⟨z, rfl, z0, z1⟩, c3, k3⟩
      have H3 : Hid (DdV W bc a len cap w 0 b n q t rs l w3) := HV.out.draw c3 k3
      clear c3 k3 z0 z1 HV cc1
      have cc0 : w3.cell? ⟨w.heap.size + 1, 0, none⟩ = some (.int .i64 0) := H3.out.out.cell 0 rfl
      have ii0 := H3.out.out.ice 0
      go_upto_region 16 with fail
      have H4 : Hid (DdV W bc a len cap w z b n q t rs l (w3.setCell ⟨w.heap.size + 1, 0, none⟩ (.int .i64 z))) := H3.out.turn
      generalize w3.setCell ⟨w.heap.size + 1, 0, none⟩ (.int .i64 z) = w4 at H4 ⊢
      obtain ⟨f, hf⟩ : ∃ f, f = z := ⟨_, rfl⟩
      subst hf
      clear H3 cc0 ii0
      go_wp2_with fail
      refine (drawOnce hc 12 (by omega) _ H4.out.cur).mono ?_
      rintro e w5 ⟨⟨bo, rfl⟩, c5, k5⟩
      have H5 : Hid (DdV W bc a len cap w f b n q t rs l w5) := H4.out.draw c5 k5
      clear c5 k5 H4
      cases bo
      · skip
        go_wp2_with (first | (refine wpList_load_row rfl 26 (.tmp 3) rfl (w.heap.size + 1) rfl _ _ _ _ H5.out.out Try.underlying26 rfl (by kernel_rfl) ?_) | (refine wpList_store_row rfl 26 (.tmp 2) (.tmp 100) rfl w.heap.size _ rfl rfl _ _ H5.out.res (by kernel_rfl) rfl (by simp [Value.oneCell']) ?_))
        exact bodyPost_ret (results_cell_row Try.results36 _ _ w.heap.size _ _ _ _ rfl (setRow_heap _ w.heap.size _ _ _ _ H5.out.res) Try.underlying26 rfl (by kernel_rfl)) rfl ⟨⟨_, _, rfl, H5.out.fin.1⟩, H5.out.fin.2⟩
      go_wp2_with fail
      refine (drawBelow hc 4 (by omega) _ H5.out.cur).mono ?_
      rintro e w6 ⟨⟨qq, rfl, q0, q1⟩, c6, k6⟩
      have H6 : Hid (DdV W bc a len cap w f b n q t rs l w6) := H5.out.draw c6 k6
      clear c6 k6 H5
      have hq : qq = 0 ∨ qq = 1 ∨ qq = 2 ∨ qq = 3 := by omega
      clear q0 q1
      rcases hq with rfl | rfl | rfl | rfl
      · skip
        go_wp2_with fail
        refine region_lists (G := Unit) (by kernel_rfl) (by kernel_rfl) (by kernel_rfl) (fun i => if i = 3 then 6 else if i = 6 then 7 else 99) (fun (L : Nat → Bool) (_ : Unit) (x : World) => (L 9 = false → DdV W bc a len cap w f b n q t rs l x) ∧ (L 9 = true → ∃ f' t' rs' l', DdV W bc a len cap w f' b n q t' rs' l' x)) (fun i _ x _ x' => (i ≠ 3 → i ≠ 5 → i ≠ 9 → x' = x) ∧ (i ≠ 9 → ∀ k, k ≠ bc → k < x.heap.size → x'.heap[k]? = x.heap[k]?)) (fun i y x u => ([fun _ _ u => u = (.pointer (some ⟨w.heap.size + 1, 1, none⟩)), fun _ _ u => u = (.slice (some ⟨b, 0, none⟩) n q), fun _ _ u => u = (.int .i64 (n : Int)), fun _ x u => ∃ n1, u = .slice (some ⟨n1, 0, none⟩) 2 2 ∧ Boxed x n1 #[.int .i64 (-1), .int .i64 (n : Int)] 2 ∧ n1 ≠ bc, fun _ _ u => u = (.pointer (some ⟨bc, 0, none⟩)), fun _ _ u => ∃ j : Nat, u = .int .i64 (j : Int) ∧ j < 2, fun _ x u => ∃ n1 j, u = .pointer (some ⟨n1, j, none⟩) ∧ Boxed x n1 #[.int .i64 (-1), .int .i64 (n : Int)] 2 ∧ n1 ≠ bc ∧ j < 2, fun _ _ u => ∃ z : Int, u = .int .i64 z, fun _ _ u => u = (.pointer (some ⟨w.heap.size + 1, 0, none⟩)), fun _ _ _ => True] : List (Unit → World → Value → Prop)).getD i (fun _ _ _ => True) y x u) ?hR () ?h0 ?step ?last
        case hR =>
          intro i j y y' x x' u hi hj hne hu h1 h2 hp hr
          have hi' : i < 10 := hi
          have hj' : j < 10 := hj
          have hcases : j = 0 ∨ j = 1 ∨ j = 2 ∨ j = 3 ∨ j = 4 ∨ j = 5 ∨ j = 6 ∨ j = 7 ∨ j = 8 ∨ j = 9 := by omega
          rcases hcases with rfl | rfl | rfl | rfl | rfl | rfl | rfl | rfl | rfl | rfl
          · exact hp
          · exact hp
          · exact hp
          · by_cases hst : i = 9
            · subst hst
              first | exact absurd h1 (by decide +kernel) | exact absurd h2 (by decide +kernel)
            · obtain ⟨n1, e1, b1, l1⟩ := hp
              exact ⟨n1, e1, (hr.2 hst n1 l1 b1.under).trans b1, l1⟩
          · exact hp
          · exact hp
          · by_cases hst : i = 9
            · subst hst
              first | exact absurd h1 (by decide +kernel) | exact absurd h2 (by decide +kernel)
            · obtain ⟨n1, jj, e1, b1, l1, l2⟩ := hp
              exact ⟨n1, jj, e1, (hr.2 hst n1 l1 b1.under).trans b1, l1, l2⟩
          · exact hp
          · exact hp
          · exact hp
        case h0 => exact ⟨fun _ => H6.out.below (Below.refl _ _).drew, fun h => by cases h⟩
        case step =>
          intro i o hi ho L a' y x hLi hwt hre hkp hI hp
          have s0 : a'.tmps[0]?.getD undef = (.pointer (some ⟨bc, 0, none⟩)) := by have h2 : a'.tmps.getD 0 undef = (.pointer (some ⟨bc, 0, none⟩)) := hkp.slot 0 (by kernel_rfl); simpa using h2
          have s3 : a'.tmps[3]?.getD undef = (.pointer (some ⟨w.heap.size + 1, 0, none⟩)) := by have h2 : a'.tmps.getD 3 undef = (.pointer (some ⟨w.heap.size + 1, 0, none⟩)) := hkp.slot 3 (by kernel_rfl); simpa using h2
          have hi' : i < 10 := hi
          have hcases : i = 0 ∨ i = 1 ∨ i = 2 ∨ i = 3 ∨ i = 4 ∨ i = 5 ∨ i = 6 ∨ i = 7 ∨ i = 8 ∨ i = 9 := by omega
          rcases hcases with rfl | rfl | rfl | rfl | rfl | rfl | rfl | rfl | rfl | rfl
          · cases ho
            have hD : DdV W bc a len cap w f b n q t rs l x := hI.1 (hre 9 (by decide +kernel))
            refine ⟨wanted_none rfl, Oper.wp_mono (K := fun a'' w'' => a'' = a'.put (some 58) (.pointer (some ⟨w.heap.size + 1, 1, none⟩)) ∧ w'' = x) ?_ ?_⟩
            · rintro _ _ ⟨rfl, rfl⟩
              exact ⟨_, (), rfl, ⟨fun _ _ _ => rfl, fun _ _ _ _ => rfl⟩, ⟨fun _ => hD, fun h => by have h' : (if (9 : Nat) = 0 then true else L 9) = true := h; have h3 : L 9 = false := hre 9 (by decide +kernel); simp [h3] at h'⟩, fun u hu => hu (fun h => by cases h)⟩
            · unfold Oper.wp
              simp [go_sem, s3]
          · cases ho
            have hD : DdV W bc a len cap w f b n q t rs l x := hI.1 (hre 9 (by decide +kernel))
            have q0 : a'.tmps[58]?.getD undef = (.pointer (some ⟨w.heap.size + 1, 1, none⟩)) := by have h2 : a'.tmps.getD 58 undef = (.pointer (some ⟨w.heap.size + 1, 1, none⟩)) := hp 0 (of_decide_eq_true (by kernel_rfl)) (.inr (by decide)); simpa using h2
            have fc : x.cell? ⟨w.heap.size + 1, 1, none⟩ = some (.slice (some ⟨b, 0, none⟩) n q) := hD.out.cell 1 rfl
            refine ⟨wanted_none rfl, Oper.wp_mono (K := fun a'' w'' => a'' = a'.put (some 59) (.slice (some ⟨b, 0, none⟩) n q) ∧ w'' = x) ?_ ?_⟩
            · rintro _ _ ⟨rfl, rfl⟩
              exact ⟨_, (), rfl, ⟨fun _ _ _ => rfl, fun _ _ _ _ => rfl⟩, ⟨fun _ => hD, fun h => by have h' : (if (9 : Nat) = 1 then true else L 9) = true := h; have h3 : L 9 = false := hre 9 (by decide +kernel); simp [h3] at h'⟩, fun u hu => hu (fun h => by cases h)⟩
            · unfold Oper.wp
              simp [go_sem, q0, fc]
          · cases ho
            have hD : DdV W bc a len cap w f b n q t rs l x := hI.1 (hre 9 (by decide +kernel))
            have q1 : a'.tmps[59]?.getD undef = (.slice (some ⟨b, 0, none⟩) n q) := by have h2 : a'.tmps.getD 59 undef = (.slice (some ⟨b, 0, none⟩) n q) := hp 1 (of_decide_eq_true (by kernel_rfl)) (.inr (by decide)); simpa using h2
            refine ⟨wanted_none rfl, Oper.wp_mono (K := fun a'' w'' => a'' = a'.put (some 60) (.int .i64 (n : Int)) ∧ w'' = x) ?_ ?_⟩
            · rintro _ _ ⟨rfl, rfl⟩
              exact ⟨_, (), rfl, ⟨fun _ _ _ => rfl, fun _ _ _ _ => rfl⟩, ⟨fun _ => hD, fun h => by have h' : (if (9 : Nat) = 2 then true else L 9) = true := h; have h3 : L 9 = false := hre 9 (by decide +kernel); simp [h3] at h'⟩, fun u hu => hu (fun h => by cases h)⟩
            · unfold Oper.wp
              simp [go_sem, q1]
          · cases ho
            have hD : DdV W bc a len cap w f b n q t rs l x := hI.1 (hre 9 (by decide +kernel))
            have q2 : a'.tmps[60]?.getD undef = (.int .i64 (n : Int)) := by have h2 : a'.tmps.getD 60 undef = (.int .i64 (n : Int)) := hp 2 (of_decide_eq_true (by kernel_rfl)) (.inr (by decide)); simpa using h2
            refine ⟨wanted_none rfl, Oper.wp_mono (K := fun a'' w'' => a'' = a'.put (some 61) (.slice (some ⟨x.heap.size, 0, none⟩) 2 2) ∧ w'' = x.alloc (.cells #[.int .i64 (-1), .int .i64 (n : Int)] 2)) ?_ ?_⟩
            · rintro _ _ ⟨rfl, rfl⟩
              have bl : Below x.heap.size x (x.alloc (.cells #[.int .i64 (-1), .int .i64 (n : Int)] 2)) := (Below.refl _ _).alloc (Nat.le_refl _) _
              exact ⟨_, (), rfl, ⟨fun h _ _ => absurd rfl h, fun _ k k1 k2 => bl.block k k2⟩, ⟨fun _ => hD.below bl, fun h => by have h' : (if (9 : Nat) = 3 then true else L 9) = true := h; have h3 : L 9 = false := hre 9 (by decide +kernel); simp [h3] at h'⟩, fun u hu => ⟨x.heap.size, hu (fun h => by cases h), Boxed.new _ _ _, hD.cur.ne⟩⟩
            · unfold Oper.wp
              simp [go_sem, q2]
          · cases ho
            have hD : DdV W bc a len cap w f b n q t rs l x := hI.1 (hre 9 (by decide +kernel))
            refine ⟨wanted_none rfl, Oper.wp_mono (K := fun a'' w'' => a'' = a'.put (some 62) (.pointer (some ⟨bc, 0, none⟩)) ∧ w'' = x) ?_ ?_⟩
            · rintro _ _ ⟨rfl, rfl⟩
              exact ⟨_, (), rfl, ⟨fun _ _ _ => rfl, fun _ _ _ _ => rfl⟩, ⟨fun _ => hD, fun h => by have h' : (if (9 : Nat) = 4 then true else L 9) = true := h; have h3 : L 9 = false := hre 9 (by decide +kernel); simp [h3] at h'⟩, fun u hu => hu (fun h => by cases h)⟩
            · unfold Oper.wp
              simp [go_sem, s0]
          · cases ho
            have hD : DdV W bc a len cap w f b n q t rs l x := hI.1 (hre 9 (by decide +kernel))
            have q0 : a'.tmps[62]?.getD undef = (.pointer (some ⟨bc, 0, none⟩)) := by have h2 : a'.tmps.getD 62 undef = (.pointer (some ⟨bc, 0, none⟩)) := hp 4 (of_decide_eq_true (by kernel_rfl)) (.inr (by decide)); simpa using h2
            refine ⟨wanted_none rfl, op_callB (by simp [execOp, resolve, Deferred.ofValue, invoke, Act.eval, q0]) (drawBelow hc 2 (by omega) x hD.cur) ?_⟩
            rintro e z ⟨⟨v, rfl, v0, v1⟩, ci, ki⟩
            obtain ⟨j, rfl⟩ := Int.eq_ofNat_of_zero_le v0
            exact ⟨_, rfl, _, (), rfl, ⟨fun _ h _ => absurd rfl h, fun _ k k1 k2 => ki.block k k1 k2⟩, ⟨fun _ => hD.draw ci ki, fun h => by have h' : (if (9 : Nat) = 5 then true else L 9) = true := h; have h3 : L 9 = false := hre 9 (by decide +kernel); simp [h3] at h'⟩, fun u hu => ⟨j, hu (fun h => by cases h), by omega⟩⟩
          · cases ho
            have hD : DdV W bc a len cap w f b n q t rs l x := hI.1 (hre 9 (by decide +kernel))
            obtain ⟨n1, e1, hb1, hl1⟩ := hp 3 (of_decide_eq_true (by kernel_rfl)) (.inl rfl)
            obtain ⟨j, e2, hj2⟩ := hp 5 (of_decide_eq_true (by kernel_rfl)) (.inr (by decide))
            have q1 : a'.tmps[61]?.getD undef = .slice (some ⟨n1, 0, none⟩) 2 2 := by have h2 : a'.tmps.getD 61 undef = .slice (some ⟨n1, 0, none⟩) 2 2 := e1; simpa using h2
            have q2 : a'.tmps[63]?.getD undef = .int .i64 (j : Int) := by have h2 : a'.tmps.getD 63 undef = .int .i64 (j : Int) := e2; simpa using h2
            refine ⟨wanted_none rfl, Oper.wp_mono (K := fun a'' w'' => a'' = a'.put (some 64) (.pointer (some ⟨n1, j, none⟩)) ∧ w'' = x) ?_ ?_⟩
            · rintro _ _ ⟨rfl, rfl⟩
              exact ⟨_, (), rfl, ⟨fun _ _ _ => rfl, fun _ _ _ _ => rfl⟩, ⟨fun _ => hD, fun h => by have h' : (if (9 : Nat) = 6 then true else L 9) = true := h; have h3 : L 9 = false := hre 9 (by decide +kernel); simp [h3] at h'⟩, fun u hu => ⟨n1, j, hu (fun h => by cases h), hb1, hl1, hj2⟩⟩
            · have hj4 : (j : Int) < 2 := by omega
              unfold Oper.wp
              simp [go_sem, q1, q2, hj4]
          · cases ho
            have hD : DdV W bc a len cap w f b n q t rs l x := hI.1 (hre 9 (by decide +kernel))
            obtain ⟨n1, j, e1, hb1, hl1, hj1⟩ := hp 6 (of_decide_eq_true (by kernel_rfl)) (.inl rfl)
            have q1 : a'.tmps[64]?.getD undef = .pointer (some ⟨n1, j, none⟩) := by have h2 : a'.tmps.getD 64 undef = .pointer (some ⟨n1, j, none⟩) := e1; simpa using h2
            obtain ⟨z, hz⟩ : ∃ z : Int, x.cell? ⟨n1, j, none⟩ = some (.int .i64 z) := by
              have hj' : j = 0 ∨ j = 1 := by omega
              rcases hj' with rfl | rfl
              · exact ⟨_, hb1.cell 0 rfl⟩
              · exact ⟨_, hb1.cell 1 rfl⟩
            refine ⟨wanted_none rfl, Oper.wp_mono (K := fun a'' w'' => a'' = a'.put (some 65) (.int .i64 z) ∧ w'' = x) ?_ ?_⟩
            · rintro _ _ ⟨rfl, rfl⟩
              exact ⟨_, (), rfl, ⟨fun _ _ _ => rfl, fun _ _ _ _ => rfl⟩, ⟨fun _ => hD, fun h => by have h' : (if (9 : Nat) = 7 then true else L 9) = true := h; have h3 : L 9 = false := hre 9 (by decide +kernel); simp [h3] at h'⟩, fun u hu => ⟨z, hu (fun h => by cases h)⟩⟩
            · unfold Oper.wp
              simp [go_sem, q1, hz]
          · cases ho
            have hD : DdV W bc a len cap w f b n q t rs l x := hI.1 (hre 9 (by decide +kernel))
            refine ⟨wanted_none rfl, Oper.wp_mono (K := fun a'' w'' => a'' = a'.put (some 66) (.pointer (some ⟨w.heap.size + 1, 0, none⟩)) ∧ w'' = x) ?_ ?_⟩
            · rintro _ _ ⟨rfl, rfl⟩
              exact ⟨_, (), rfl, ⟨fun _ _ _ => rfl, fun _ _ _ _ => rfl⟩, ⟨fun _ => hD, fun h => by have h' : (if (9 : Nat) = 8 then true else L 9) = true := h; have h3 : L 9 = false := hre 9 (by decide +kernel); simp [h3] at h'⟩, fun u hu => hu (fun h => by cases h)⟩
            · unfold Oper.wp
              simp [go_sem, s3]
          · cases ho
            have hD : DdV W bc a len cap w f b n q t rs l x := hI.1 hLi
            have qa : a'.tmps[66]?.getD undef = (.pointer (some ⟨w.heap.size + 1, 0, none⟩)) := by have h2 : a'.tmps.getD 66 undef = (.pointer (some ⟨w.heap.size + 1, 0, none⟩)) := hp 8 (of_decide_eq_true (by kernel_rfl)) (.inr (by decide)); simpa using h2
            obtain ⟨z, e1⟩ := hp 7 (of_decide_eq_true (by kernel_rfl)) (.inr (by decide))
            have qv : a'.tmps[65]?.getD undef = (.int .i64 z) := by have h2 : a'.tmps.getD 65 undef = (.int .i64 z) := e1; simpa using h2
            have fc : x.cell? ⟨w.heap.size + 1, 0, none⟩ = some (.int .i64 f) := hD.out.cell 0 rfl
            have fi : x.frozen? ⟨w.heap.size + 1, 0, none⟩ = false := hD.out.ice 0
            have Z := hD.turn (z := z)
            have Z2 : ∃ f' t' rs' l', DdV W bc a len cap w f' b n q t' rs' l' (x.setCell ⟨w.heap.size + 1, 0, none⟩ (.int .i64 z)) := ⟨_, _, _, _, Z⟩
            refine ⟨wanted_none rfl, Oper.wp_mono (K := fun a'' w'' => a'' = a'.put none undef ∧ w'' = x.setCell ⟨w.heap.size + 1, 0, none⟩ (.int .i64 z)) ?_ ?_⟩
            · rintro _ _ ⟨rfl, rfl⟩
              exact ⟨undef, (), rfl, ⟨fun _ _ h => absurd rfl h, fun h => absurd rfl h⟩, ⟨fun h => by simp at h, fun _ => Z2⟩, fun _ _ => trivial⟩
            · unfold Oper.wp
              simp [go_sem, qa, qv, fc, fi]
        case last =>
        intro L a' y x hall hkp hI hp
        obtain ⟨f', t', rs', l', hZ⟩ := hI.2 (hall 9 (by decide))
        have HZ : Hid (DdV W bc a len cap w f' b n q t' rs' l' x) := hZ
        have ha := hkp.pick [true, true, true, true, true, true, true, true, true, true, true, true, true, true, true, true, true, true, true, true, true, true, true, true, true, true, true, true, true, true, true, true, true, true, true, true, true, true, true, true, true, true, true, true, true, true, true, true, true, true, true, true, true, true, true, true, true, true, false, false, false, false, false, false, false, false, false, true, true, true, true, true, true, true, true, true, true, true, true, true, true, true, true, true, true, true, true, true, true, true, true, true, true, true, true, true, true, true, true, true, true] (by kernel_rfl)
        simp only [pickS] at ha
        clear hp hkp hI hall hZ
        generalize a'.tmps.getD 58 undef = yy58 at ha
        generalize a'.tmps.getD 59 undef = yy59 at ha
        generalize a'.tmps.getD 60 undef = yy60 at ha
        generalize a'.tmps.getD 61 undef = yy61 at ha
        generalize a'.tmps.getD 62 undef = yy62 at ha
        generalize a'.tmps.getD 63 undef = yy63 at ha
        generalize a'.tmps.getD 64 undef = yy64 at ha
        generalize a'.tmps.getD 65 undef = yy65 at ha
        generalize a'.tmps.getD 66 undef = yy66 at ha
        rw [ha]
        clear ha
        go_wp2_with (first | (refine wpList_load_row rfl 26 (.tmp 3) rfl (w.heap.size + 1) rfl _ _ _ _ HZ.out.out Try.underlying26 rfl (by kernel_rfl) ?_) | (refine wpList_store_row rfl 26 (.tmp 2) (.tmp 100) rfl w.heap.size _ rfl rfl _ _ HZ.out.res (by kernel_rfl) rfl (by simp [Value.oneCell']) ?_))
        exact bodyPost_ret (results_cell_row Try.results36 _ _ w.heap.size _ _ _ _ rfl (setRow_heap _ w.heap.size _ _ _ _ HZ.out.res) Try.underlying26 rfl (by kernel_rfl)) rfl ⟨⟨_, _, rfl, HZ.out.fin.1⟩, HZ.out.fin.2⟩
      · skip
        go_wp2_with fail
        refine region_lists (G := Unit) (by kernel_rfl) (by kernel_rfl) (by kernel_rfl) (fun i => if i = 5 then 8 else if i = 8 then 9 else 99) (fun (L : Nat → Bool) (_ : Unit) (x : World) => (L 11 = false → DdV W bc a len cap w f b n q t rs l x) ∧ (L 11 = true → ∃ f' t' rs' l', DdV W bc a len cap w f' b n q t' rs' l' x)) (fun i _ x _ x' => (i ≠ 5 → i ≠ 7 → i ≠ 11 → x' = x) ∧ (i ≠ 11 → ∀ k, k ≠ bc → k < x.heap.size → x'.heap[k]? = x.heap[k]?)) (fun i y x u => ([fun _ _ u => u = (.pointer (some ⟨w.heap.size + 1, 1, none⟩)), fun _ _ u => u = (.slice (some ⟨b, 0, none⟩) n q), fun _ _ u => u = (.pointer (some ⟨b, 0, none⟩)), fun _ _ u => u = (.pointer (some ⟨b, 1, none⟩)), fun _ _ u => u = (.slice (some ⟨yb, off, none⟩) m ch), fun _ x u => ∃ n1, u = .slice (some ⟨n1, 0, none⟩) 3 3 ∧ Boxed x n1 #[.int .i64 (-1), .int .i64 1000, .int .i64 1001] 2 ∧ n1 ≠ bc, fun _ _ u => u = (.pointer (some ⟨bc, 0, none⟩)), fun _ _ u => ∃ j : Nat, u = .int .i64 (j : Int) ∧ j < 3, fun _ x u => ∃ n1 j, u = .pointer (some ⟨n1, j, none⟩) ∧ Boxed x n1 #[.int .i64 (-1), .int .i64 1000, .int .i64 1001] 2 ∧ n1 ≠ bc ∧ j < 3, fun _ _ u => ∃ z : Int, u = .int .i64 z, fun _ _ u => u = (.pointer (some ⟨yb, off, none⟩)), fun _ _ _ => True] : List (Unit → World → Value → Prop)).getD i (fun _ _ _ => True) y x u) ?hR () ?h0 ?step ?last
        case hR =>
          intro i j y y' x x' u hi hj hne hu h1 h2 hp hr
          have hi' : i < 12 := hi
          have hj' : j < 12 := hj
          have hcases : j = 0 ∨ j = 1 ∨ j = 2 ∨ j = 3 ∨ j = 4 ∨ j = 5 ∨ j = 6 ∨ j = 7 ∨ j = 8 ∨ j = 9 ∨ j = 10 ∨ j = 11 := by omega
          rcases hcases with rfl | rfl | rfl | rfl | rfl | rfl | rfl | rfl | rfl | rfl | rfl | rfl
          · exact hp
          · exact hp
          · exact hp
          · exact hp
          · exact hp
          · by_cases hst : i = 11
            · subst hst
              first | exact absurd h1 (by decide +kernel) | exact absurd h2 (by decide +kernel)
            · obtain ⟨n1, e1, b1, l1⟩ := hp
              exact ⟨n1, e1, (hr.2 hst n1 l1 b1.under).trans b1, l1⟩
          · exact hp
          · exact hp
          · by_cases hst : i = 11
            · subst hst
              first | exact absurd h1 (by decide +kernel) | exact absurd h2 (by decide +kernel)
            · obtain ⟨n1, jj, e1, b1, l1, l2⟩ := hp
              exact ⟨n1, jj, e1, (hr.2 hst n1 l1 b1.under).trans b1, l1, l2⟩
          · exact hp
          · exact hp
          · exact hp
        case h0 => exact ⟨fun _ => H6.out.below (Below.refl _ _).drew, fun h => by cases h⟩
        case step =>
          intro i o hi ho L a' y x hLi hwt hre hkp hI hp
          have s0 : a'.tmps[0]?.getD undef = (.pointer (some ⟨bc, 0, none⟩)) := by have h2 : a'.tmps.getD 0 undef = (.pointer (some ⟨bc, 0, none⟩)) := hkp.slot 0 (by kernel_rfl); simpa using h2
          have s3 : a'.tmps[3]?.getD undef = (.pointer (some ⟨w.heap.size + 1, 0, none⟩)) := by have h2 : a'.tmps.getD 3 undef = (.pointer (some ⟨w.heap.size + 1, 0, none⟩)) := hkp.slot 3 (by kernel_rfl); simpa using h2
          have hi' : i < 12 := hi
          have hcases : i = 0 ∨ i = 1 ∨ i = 2 ∨ i = 3 ∨ i = 4 ∨ i = 5 ∨ i = 6 ∨ i = 7 ∨ i = 8 ∨ i = 9 ∨ i = 10 ∨ i = 11 := by omega
          rcases hcases with rfl | rfl | rfl | rfl | rfl | rfl | rfl | rfl | rfl | rfl | rfl | rfl
          · cases ho
            have hD : DdV W bc a len cap w f b n q t rs l x := hI.1 (hre 11 (by decide +kernel))
            refine ⟨wanted_none rfl, Oper.wp_mono (K := fun a'' w'' => a'' = a'.put (some 69) (.pointer (some ⟨w.heap.size + 1, 1, none⟩)) ∧ w'' = x) ?_ ?_⟩
            · rintro _ _ ⟨rfl, rfl⟩
              exact ⟨_, (), rfl, ⟨fun _ _ _ => rfl, fun _ _ _ _ => rfl⟩, ⟨fun _ => hD, fun h => by have h' : (if (11 : Nat) = 0 then true else L 11) = true := h; have h3 : L 11 = false := hre 11 (by decide +kernel); simp [h3] at h'⟩, fun u hu => hu (fun h => by cases h)⟩
            · unfold Oper.wp
              simp [go_sem, s3]
          · cases ho
            have hD : DdV W bc a len cap w f b n q t rs l x := hI.1 (hre 11 (by decide +kernel))
            have q0 : a'.tmps[69]?.getD undef = (.pointer (some ⟨w.heap.size + 1, 1, none⟩)) := by have h2 : a'.tmps.getD 69 undef = (.pointer (some ⟨w.heap.size + 1, 1, none⟩)) := hp 0 (of_decide_eq_true (by kernel_rfl)) (.inr (by decide)); simpa using h2
            have fc : x.cell? ⟨w.heap.size + 1, 1, none⟩ = some (.slice (some ⟨b, 0, none⟩) n q) := hD.out.cell 1 rfl
            refine ⟨wanted_none rfl, Oper.wp_mono (K := fun a'' w'' => a'' = a'.put (some 70) (.slice (some ⟨b, 0, none⟩) n q) ∧ w'' = x) ?_ ?_⟩
            · rintro _ _ ⟨rfl, rfl⟩
              exact ⟨_, (), rfl, ⟨fun _ _ _ => rfl, fun _ _ _ _ => rfl⟩, ⟨fun _ => hD, fun h => by have h' : (if (11 : Nat) = 1 then true else L 11) = true := h; have h3 : L 11 = false := hre 11 (by decide +kernel); simp [h3] at h'⟩, fun u hu => hu (fun h => by cases h)⟩
            · unfold Oper.wp
              simp [go_sem, q0, fc]
          · cases ho
            have hD : DdV W bc a len cap w f b n q t rs l x := hI.1 (hre 11 (by decide +kernel))
            have q1 : a'.tmps[70]?.getD undef = (.slice (some ⟨b, 0, none⟩) n q) := by have h2 : a'.tmps.getD 70 undef = (.slice (some ⟨b, 0, none⟩) n q) := hp 1 (of_decide_eq_true (by kernel_rfl)) (.inr (by decide)); simpa using h2
            refine ⟨wanted_none rfl, Oper.wp_mono (K := fun a'' w'' => a'' = a'.put (some 71) (.pointer (some ⟨b, 0, none⟩)) ∧ w'' = x) ?_ ?_⟩
            · rintro _ _ ⟨rfl, rfl⟩
              exact ⟨_, (), rfl, ⟨fun _ _ _ => rfl, fun _ _ _ _ => rfl⟩, ⟨fun _ => hD, fun h => by have h' : (if (11 : Nat) = 2 then true else L 11) = true := h; have h3 : L 11 = false := hre 11 (by decide +kernel); simp [h3] at h'⟩, fun u hu => hu (fun h => by cases h)⟩
            · unfold Oper.wp
              simp [go_sem, q1, hnn]
          · cases ho
            have hD : DdV W bc a len cap w f b n q t rs l x := hI.1 (hre 11 (by decide +kernel))
            have q2 : a'.tmps[71]?.getD undef = (.pointer (some ⟨b, 0, none⟩)) := by have h2 : a'.tmps.getD 71 undef = (.pointer (some ⟨b, 0, none⟩)) := hp 2 (of_decide_eq_true (by kernel_rfl)) (.inr (by decide)); simpa using h2
            refine ⟨wanted_none rfl, Oper.wp_mono (K := fun a'' w'' => a'' = a'.put (some 72) (.pointer (some ⟨b, 1, none⟩)) ∧ w'' = x) ?_ ?_⟩
            · rintro _ _ ⟨rfl, rfl⟩
              exact ⟨_, (), rfl, ⟨fun _ _ _ => rfl, fun _ _ _ _ => rfl⟩, ⟨fun _ => hD, fun h => by have h' : (if (11 : Nat) = 3 then true else L 11) = true := h; have h3 : L 11 = false := hre 11 (by decide +kernel); simp [h3] at h'⟩, fun u hu => hu (fun h => by cases h)⟩
            · unfold Oper.wp
              simp [go_sem, q2]
          · cases ho
            have hD : DdV W bc a len cap w f b n q t rs l x := hI.1 (hre 11 (by decide +kernel))
            have q3 : a'.tmps[72]?.getD undef = (.pointer (some ⟨b, 1, none⟩)) := by have h2 : a'.tmps.getD 72 undef = (.pointer (some ⟨b, 1, none⟩)) := hp 3 (of_decide_eq_true (by kernel_rfl)) (.inr (by decide)); simpa using h2
            have fc : x.cell? ⟨b, 1, none⟩ = some (.slice (some ⟨yb, off, none⟩) m ch) := by rw [hD.heads.2.1, Eh.out.1]
            refine ⟨wanted_none rfl, Oper.wp_mono (K := fun a'' w'' => a'' = a'.put (some 73) (.slice (some ⟨yb, off, none⟩) m ch) ∧ w'' = x) ?_ ?_⟩
            · rintro _ _ ⟨rfl, rfl⟩
              exact ⟨_, (), rfl, ⟨fun _ _ _ => rfl, fun _ _ _ _ => rfl⟩, ⟨fun _ => hD, fun h => by have h' : (if (11 : Nat) = 4 then true else L 11) = true := h; have h3 : L 11 = false := hre 11 (by decide +kernel); simp [h3] at h'⟩, fun u hu => hu (fun h => by cases h)⟩
            · unfold Oper.wp
              simp [go_sem, q3, fc]
          · cases ho
            have hD : DdV W bc a len cap w f b n q t rs l x := hI.1 (hre 11 (by decide +kernel))
            refine ⟨wanted_none rfl, Oper.wp_mono (K := fun a'' w'' => a'' = a'.put (some 74) (.slice (some ⟨x.heap.size, 0, none⟩) 3 3) ∧ w'' = x.alloc (.cells #[.int .i64 (-1), .int .i64 1000, .int .i64 1001] 2)) ?_ ?_⟩
            · rintro _ _ ⟨rfl, rfl⟩
              have bl : Below x.heap.size x (x.alloc (.cells #[.int .i64 (-1), .int .i64 1000, .int .i64 1001] 2)) := (Below.refl _ _).alloc (Nat.le_refl _) _
              exact ⟨_, (), rfl, ⟨fun h _ _ => absurd rfl h, fun _ k k1 k2 => bl.block k k2⟩, ⟨fun _ => hD.below bl, fun h => by have h' : (if (11 : Nat) = 5 then true else L 11) = true := h; have h3 : L 11 = false := hre 11 (by decide +kernel); simp [h3] at h'⟩, fun u hu => ⟨x.heap.size, hu (fun h => by cases h), Boxed.new _ _ _, hD.cur.ne⟩⟩
            · unfold Oper.wp
              simp [go_sem]
          · cases ho
            have hD : DdV W bc a len cap w f b n q t rs l x := hI.1 (hre 11 (by decide +kernel))
            refine ⟨wanted_none rfl, Oper.wp_mono (K := fun a'' w'' => a'' = a'.put (some 75) (.pointer (some ⟨bc, 0, none⟩)) ∧ w'' = x) ?_ ?_⟩
            · rintro _ _ ⟨rfl, rfl⟩
              exact ⟨_, (), rfl, ⟨fun _ _ _ => rfl, fun _ _ _ _ => rfl⟩, ⟨fun _ => hD, fun h => by have h' : (if (11 : Nat) = 6 then true else L 11) = true := h; have h3 : L 11 = false := hre 11 (by decide +kernel); simp [h3] at h'⟩, fun u hu => hu (fun h => by cases h)⟩
            · unfold Oper.wp
              simp [go_sem, s0]
          · cases ho
            have hD : DdV W bc a len cap w f b n q t rs l x := hI.1 (hre 11 (by decide +kernel))
            have q0 : a'.tmps[75]?.getD undef = (.pointer (some ⟨bc, 0, none⟩)) := by have h2 : a'.tmps.getD 75 undef = (.pointer (some ⟨bc, 0, none⟩)) := hp 6 (of_decide_eq_true (by kernel_rfl)) (.inr (by decide)); simpa using h2
            refine ⟨wanted_none rfl, op_callB (by simp [execOp, resolve, Deferred.ofValue, invoke, Act.eval, q0]) (drawBelow hc 3 (by omega) x hD.cur) ?_⟩
            rintro e z ⟨⟨v, rfl, v0, v1⟩, ci, ki⟩
            obtain ⟨j, rfl⟩ := Int.eq_ofNat_of_zero_le v0
            exact ⟨_, rfl, _, (), rfl, ⟨fun _ h _ => absurd rfl h, fun _ k k1 k2 => ki.block k k1 k2⟩, ⟨fun _ => hD.draw ci ki, fun h => by have h' : (if (11 : Nat) = 7 then true else L 11) = true := h; have h3 : L 11 = false := hre 11 (by decide +kernel); simp [h3] at h'⟩, fun u hu => ⟨j, hu (fun h => by cases h), by omega⟩⟩
          · cases ho
            have hD : DdV W bc a len cap w f b n q t rs l x := hI.1 (hre 11 (by decide +kernel))
            obtain ⟨n1, e1, hb1, hl1⟩ := hp 5 (of_decide_eq_true (by kernel_rfl)) (.inl rfl)
            obtain ⟨j, e2, hj2⟩ := hp 7 (of_decide_eq_true (by kernel_rfl)) (.inr (by decide))
            have q1 : a'.tmps[74]?.getD undef = .slice (some ⟨n1, 0, none⟩) 3 3 := by have h2 : a'.tmps.getD 74 undef = .slice (some ⟨n1, 0, none⟩) 3 3 := e1; simpa using h2
            have q2 : a'.tmps[76]?.getD undef = .int .i64 (j : Int) := by have h2 : a'.tmps.getD 76 undef = .int .i64 (j : Int) := e2; simpa using h2
            refine ⟨wanted_none rfl, Oper.wp_mono (K := fun a'' w'' => a'' = a'.put (some 77) (.pointer (some ⟨n1, j, none⟩)) ∧ w'' = x) ?_ ?_⟩
            · rintro _ _ ⟨rfl, rfl⟩
              exact ⟨_, (), rfl, ⟨fun _ _ _ => rfl, fun _ _ _ _ => rfl⟩, ⟨fun _ => hD, fun h => by have h' : (if (11 : Nat) = 8 then true else L 11) = true := h; have h3 : L 11 = false := hre 11 (by decide +kernel); simp [h3] at h'⟩, fun u hu => ⟨n1, j, hu (fun h => by cases h), hb1, hl1, hj2⟩⟩
            · have hj4 : (j : Int) < 3 := by omega
              unfold Oper.wp
              simp [go_sem, q1, q2, hj4]
          · cases ho
            have hD : DdV W bc a len cap w f b n q t rs l x := hI.1 (hre 11 (by decide +kernel))
            obtain ⟨n1, j, e1, hb1, hl1, hj1⟩ := hp 8 (of_decide_eq_true (by kernel_rfl)) (.inl rfl)
            have q1 : a'.tmps[77]?.getD undef = .pointer (some ⟨n1, j, none⟩) := by have h2 : a'.tmps.getD 77 undef = .pointer (some ⟨n1, j, none⟩) := e1; simpa using h2
            obtain ⟨z, hz⟩ : ∃ z : Int, x.cell? ⟨n1, j, none⟩ = some (.int .i64 z) := by
              have hj' : j = 0 ∨ j = 1 ∨ j = 2 := by omega
              rcases hj' with rfl | rfl | rfl
              · exact ⟨_, hb1.cell 0 rfl⟩
              · exact ⟨_, hb1.cell 1 rfl⟩
              · exact ⟨_, hb1.cell 2 rfl⟩
            refine ⟨wanted_none rfl, Oper.wp_mono (K := fun a'' w'' => a'' = a'.put (some 78) (.int .i64 z) ∧ w'' = x) ?_ ?_⟩
            · rintro _ _ ⟨rfl, rfl⟩
              exact ⟨_, (), rfl, ⟨fun _ _ _ => rfl, fun _ _ _ _ => rfl⟩, ⟨fun _ => hD, fun h => by have h' : (if (11 : Nat) = 9 then true else L 11) = true := h; have h3 : L 11 = false := hre 11 (by decide +kernel); simp [h3] at h'⟩, fun u hu => ⟨z, hu (fun h => by cases h)⟩⟩
            · unfold Oper.wp
              simp [go_sem, q1, hz]
          · cases ho
            have hD : DdV W bc a len cap w f b n q t rs l x := hI.1 (hre 11 (by decide +kernel))
            have q4 : a'.tmps[73]?.getD undef = (.slice (some ⟨yb, off, none⟩) m ch) := by have h2 : a'.tmps.getD 73 undef = (.slice (some ⟨yb, off, none⟩) m ch) := hp 4 (of_decide_eq_true (by kernel_rfl)) (.inr (by decide)); simpa using h2
            refine ⟨wanted_none rfl, Oper.wp_mono (K := fun a'' w'' => a'' = a'.put (some 79) (.pointer (some ⟨yb, off, none⟩)) ∧ w'' = x) ?_ ?_⟩
            · rintro _ _ ⟨rfl, rfl⟩
              exact ⟨_, (), rfl, ⟨fun _ _ _ => rfl, fun _ _ _ _ => rfl⟩, ⟨fun _ => hD, fun h => by have h' : (if (11 : Nat) = 10 then true else L 11) = true := h; have h3 : L 11 = false := hre 11 (by decide +kernel); simp [h3] at h'⟩, fun u hu => hu (fun h => by cases h)⟩
            · unfold Oper.wp
              simp [go_sem, q4, hmn]
          · cases ho
            have hD : DdV W bc a len cap w f b n q t rs l x := hI.1 hLi
            have qa : a'.tmps[79]?.getD undef = (.pointer (some ⟨yb, off, none⟩)) := by have h2 : a'.tmps.getD 79 undef = (.pointer (some ⟨yb, off, none⟩)) := hp 10 (of_decide_eq_true (by kernel_rfl)) (.inr (by decide)); simpa using h2
            obtain ⟨z, e1⟩ := hp 9 (of_decide_eq_true (by kernel_rfl)) (.inr (by decide))
            have qv : a'.tmps[78]?.getD undef = (.int .i64 z) := by have h2 : a'.tmps.getD 78 undef = (.int .i64 z) := e1; simpa using h2
            obtain ⟨z1, fc, fi, _⟩ := hD.flow0 Eh.out.1 Eh.out.2.1 Eh.out.2.2
            have Z2 := hD.putF (z := z) Eh.out.1 Eh.out.2.1 Eh.out.2.2
            refine ⟨wanted_none rfl, Oper.wp_mono (K := fun a'' w'' => a'' = a'.put none undef ∧ w'' = x.setCell ⟨yb, off, none⟩ (.int .i64 z)) ?_ ?_⟩
            · rintro _ _ ⟨rfl, rfl⟩
              exact ⟨undef, (), rfl, ⟨fun _ _ h => absurd rfl h, fun h => absurd rfl h⟩, ⟨fun h => by simp at h, fun _ => Z2⟩, fun _ _ => trivial⟩
            · unfold Oper.wp
              simp [go_sem, qa, qv, fc, fi]
        case last =>
        intro L a' y x hall hkp hI hp
        obtain ⟨f', t', rs', l', hZ⟩ := hI.2 (hall 11 (by decide))
        have HZ : Hid (DdV W bc a len cap w f' b n q t' rs' l' x) := hZ
        have ha := hkp.pick [true, true, true, true, true, true, true, true, true, true, true, true, true, true, true, true, true, true, true, true, true, true, true, true, true, true, true, true, true, true, true, true, true, true, true, true, true, true, true, true, true, true, true, true, true, true, true, true, true, true, true, true, true, true, true, true, true, true, true, true, true, true, true, true, true, true, true, true, true, false, false, false, false, false, false, false, false, false, false, false, true, true, true, true, true, true, true, true, true, true, true, true, true, true, true, true, true, true, true, true, true] (by kernel_rfl)
        simp only [pickS] at ha
        clear hp hkp hI hall hZ
        generalize a'.tmps.getD 69 undef = yy69 at ha
        generalize a'.tmps.getD 70 undef = yy70 at ha
        generalize a'.tmps.getD 71 undef = yy71 at ha
        generalize a'.tmps.getD 72 undef = yy72 at ha
        generalize a'.tmps.getD 73 undef = yy73 at ha
        generalize a'.tmps.getD 74 undef = yy74 at ha
        generalize a'.tmps.getD 75 undef = yy75 at ha
        generalize a'.tmps.getD 76 undef = yy76 at ha
        generalize a'.tmps.getD 77 undef = yy77 at ha
        generalize a'.tmps.getD 78 undef = yy78 at ha
        generalize a'.tmps.getD 79 undef = yy79 at ha
        rw [ha]
        clear ha
        go_wp2_with (first | (refine wpList_load_row rfl 26 (.tmp 3) rfl (w.heap.size + 1) rfl _ _ _ _ HZ.out.out Try.underlying26 rfl (by kernel_rfl) ?_) | (refine wpList_store_row rfl 26 (.tmp 2) (.tmp 100) rfl w.heap.size _ rfl rfl _ _ HZ.out.res (by kernel_rfl) rfl (by simp [Value.oneCell']) ?_))
        exact bodyPost_ret (results_cell_row Try.results36 _ _ w.heap.size _ _ _ _ rfl (setRow_heap _ w.heap.size _ _ _ _ HZ.out.res) Try.underlying26 rfl (by kernel_rfl)) rfl ⟨⟨_, _, rfl, HZ.out.fin.1⟩, HZ.out.fin.2⟩
      · skip
        go_wp2_with fail
        refine region_lists (G := Unit) (by kernel_rfl) (by kernel_rfl) (by kernel_rfl) (fun i => 99) (fun (L : Nat → Bool) (_ : Unit) (x : World) => (L 6 = false → DdV W bc a len cap w f b n q t rs l x) ∧ (L 6 = true → ∃ f' t' rs' l', DdV W bc a len cap w f' b n q t' rs' l' x)) (fun i _ x _ x' => (i ≠ 3 → i ≠ 6 → x' = x) ∧ (i ≠ 6 → ∀ k, k ≠ bc → k < x.heap.size → x'.heap[k]? = x.heap[k]?)) (fun i y x u => ([fun _ _ u => u = (.pointer (some ⟨w.heap.size + 1, 1, none⟩)), fun _ _ u => u = (.slice (some ⟨b, 0, none⟩) n q), fun _ _ u => u = (.pointer (some ⟨bc, 0, none⟩)), fun _ _ u => ∃ z : Int, u = .int .i64 z, fun _ _ u => u = (.pointer (some ⟨b, 0, none⟩)), fun _ _ u => u = (.pointer (some ⟨b, 0, none⟩)), fun _ _ _ => True] : List (Unit → World → Value → Prop)).getD i (fun _ _ _ => True) y x u) ?hR () ?h0 ?step ?last
        case hR =>
          intro i j y y' x x' u hi hj hne hu h1 h2 hp hr
          have hi' : i < 7 := hi
          have hj' : j < 7 := hj
          have hcases : j = 0 ∨ j = 1 ∨ j = 2 ∨ j = 3 ∨ j = 4 ∨ j = 5 ∨ j = 6 := by omega
          rcases hcases with rfl | rfl | rfl | rfl | rfl | rfl | rfl
          · exact hp
          · exact hp
          · exact hp
          · exact hp
          · exact hp
          · exact hp
          · exact hp
        case h0 => exact ⟨fun _ => H6.out.below (Below.refl _ _).drew, fun h => by cases h⟩
        case step =>
          intro i o hi ho L a' y x hLi hwt hre hkp hI hp
          have s0 : a'.tmps[0]?.getD undef = (.pointer (some ⟨bc, 0, none⟩)) := by have h2 : a'.tmps.getD 0 undef = (.pointer (some ⟨bc, 0, none⟩)) := hkp.slot 0 (by kernel_rfl); simpa using h2
          have s3 : a'.tmps[3]?.getD undef = (.pointer (some ⟨w.heap.size + 1, 0, none⟩)) := by have h2 : a'.tmps.getD 3 undef = (.pointer (some ⟨w.heap.size + 1, 0, none⟩)) := hkp.slot 3 (by kernel_rfl); simpa using h2
          have hi' : i < 7 := hi
          have hcases : i = 0 ∨ i = 1 ∨ i = 2 ∨ i = 3 ∨ i = 4 ∨ i = 5 ∨ i = 6 := by omega
          rcases hcases with rfl | rfl | rfl | rfl | rfl | rfl | rfl
          · cases ho
            have hD : DdV W bc a len cap w f b n q t rs l x := hI.1 (hre 6 (by decide +kernel))
            refine ⟨wanted_none rfl, Oper.wp_mono (K := fun a'' w'' => a'' = a'.put (some 82) (.pointer (some ⟨w.heap.size + 1, 1, none⟩)) ∧ w'' = x) ?_ ?_⟩
            · rintro _ _ ⟨rfl, rfl⟩
              exact ⟨_, (), rfl, ⟨fun _ _ => rfl, fun _ _ _ _ => rfl⟩, ⟨fun _ => hD, fun h => by have h' : (if (6 : Nat) = 0 then true else L 6) = true := h; have h3 : L 6 = false := hre 6 (by decide +kernel); simp [h3] at h'⟩, fun u hu => hu (fun h => by cases h)⟩
            · unfold Oper.wp
              simp [go_sem, s3]
          · cases ho
            have hD : DdV W bc a len cap w f b n q t rs l x := hI.1 (hre 6 (by decide +kernel))
            have q0 : a'.tmps[82]?.getD undef = (.pointer (some ⟨w.heap.size + 1, 1, none⟩)) := by have h2 : a'.tmps.getD 82 undef = (.pointer (some ⟨w.heap.size + 1, 1, none⟩)) := hp 0 (of_decide_eq_true (by kernel_rfl)) (.inr (by decide)); simpa using h2
            have fc : x.cell? ⟨w.heap.size + 1, 1, none⟩ = some (.slice (some ⟨b, 0, none⟩) n q) := hD.out.cell 1 rfl
            refine ⟨wanted_none rfl, Oper.wp_mono (K := fun a'' w'' => a'' = a'.put (some 83) (.slice (some ⟨b, 0, none⟩) n q) ∧ w'' = x) ?_ ?_⟩
            · rintro _ _ ⟨rfl, rfl⟩
              exact ⟨_, (), rfl, ⟨fun _ _ => rfl, fun _ _ _ _ => rfl⟩, ⟨fun _ => hD, fun h => by have h' : (if (6 : Nat) = 1 then true else L 6) = true := h; have h3 : L 6 = false := hre 6 (by decide +kernel); simp [h3] at h'⟩, fun u hu => hu (fun h => by cases h)⟩
            · unfold Oper.wp
              simp [go_sem, q0, fc]
          · cases ho
            have hD : DdV W bc a len cap w f b n q t rs l x := hI.1 (hre 6 (by decide +kernel))
            refine ⟨wanted_none rfl, Oper.wp_mono (K := fun a'' w'' => a'' = a'.put (some 84) (.pointer (some ⟨bc, 0, none⟩)) ∧ w'' = x) ?_ ?_⟩
            · rintro _ _ ⟨rfl, rfl⟩
              exact ⟨_, (), rfl, ⟨fun _ _ => rfl, fun _ _ _ _ => rfl⟩, ⟨fun _ => hD, fun h => by have h' : (if (6 : Nat) = 2 then true else L 6) = true := h; have h3 : L 6 = false := hre 6 (by decide +kernel); simp [h3] at h'⟩, fun u hu => hu (fun h => by cases h)⟩
            · unfold Oper.wp
              simp [go_sem, s0]
          · cases ho
            have hD : DdV W bc a len cap w f b n q t rs l x := hI.1 (hre 6 (by decide +kernel))
            have q0 : a'.tmps[84]?.getD undef = (.pointer (some ⟨bc, 0, none⟩)) := by have h2 : a'.tmps.getD 84 undef = (.pointer (some ⟨bc, 0, none⟩)) := hp 2 (of_decide_eq_true (by kernel_rfl)) (.inr (by decide)); simpa using h2
            refine ⟨wanted_none rfl, op_callB (by simp [execOp, resolve, Deferred.ofValue, invoke, Act.eval, q0]) (drawFrom hc (-1) 7 (by omega) (by omega) (by omega) x hD.cur) ?_⟩
            rintro e z ⟨⟨v, rfl, v0, v1⟩, ci, ki⟩
            exact ⟨_, rfl, _, (), rfl, ⟨fun h _ => absurd rfl h, fun _ k k1 k2 => ki.block k k1 k2⟩, ⟨fun _ => hD.draw ci ki, fun h => by have h' : (if (6 : Nat) = 3 then true else L 6) = true := h; have h3 : L 6 = false := hre 6 (by decide +kernel); simp [h3] at h'⟩, fun u hu => ⟨v, hu (fun h => by cases h)⟩⟩
          · cases ho
            have hD : DdV W bc a len cap w f b n q t rs l x := hI.1 (hre 6 (by decide +kernel))
            have q1 : a'.tmps[83]?.getD undef = (.slice (some ⟨b, 0, none⟩) n q) := by have h2 : a'.tmps.getD 83 undef = (.slice (some ⟨b, 0, none⟩) n q) := hp 1 (of_decide_eq_true (by kernel_rfl)) (.inr (by decide)); simpa using h2
            refine ⟨wanted_none rfl, Oper.wp_mono (K := fun a'' w'' => a'' = a'.put (some 86) (.pointer (some ⟨b, 0, none⟩)) ∧ w'' = x) ?_ ?_⟩
            · rintro _ _ ⟨rfl, rfl⟩
              exact ⟨_, (), rfl, ⟨fun _ _ => rfl, fun _ _ _ _ => rfl⟩, ⟨fun _ => hD, fun h => by have h' : (if (6 : Nat) = 4 then true else L 6) = true := h; have h3 : L 6 = false := hre 6 (by decide +kernel); simp [h3] at h'⟩, fun u hu => hu (fun h => by cases h)⟩
            · unfold Oper.wp
              simp [go_sem, q1, hnn]
          · cases ho
            have hD : DdV W bc a len cap w f b n q t rs l x := hI.1 (hre 6 (by decide +kernel))
            have q4 : a'.tmps[86]?.getD undef = (.pointer (some ⟨b, 0, none⟩)) := by have h2 : a'.tmps.getD 86 undef = (.pointer (some ⟨b, 0, none⟩)) := hp 4 (of_decide_eq_true (by kernel_rfl)) (.inr (by decide)); simpa using h2
            refine ⟨wanted_none rfl, Oper.wp_mono (K := fun a'' w'' => a'' = a'.put (some 87) (.pointer (some ⟨b, 0, none⟩)) ∧ w'' = x) ?_ ?_⟩
            · rintro _ _ ⟨rfl, rfl⟩
              exact ⟨_, (), rfl, ⟨fun _ _ => rfl, fun _ _ _ _ => rfl⟩, ⟨fun _ => hD, fun h => by have h' : (if (6 : Nat) = 5 then true else L 6) = true := h; have h3 : L 6 = false := hre 6 (by decide +kernel); simp [h3] at h'⟩, fun u hu => hu (fun h => by cases h)⟩
            · unfold Oper.wp
              simp [go_sem, q4]
          · cases ho
            have hD : DdV W bc a len cap w f b n q t rs l x := hI.1 hLi
            have qa : a'.tmps[87]?.getD undef = (.pointer (some ⟨b, 0, none⟩)) := by have h2 : a'.tmps.getD 87 undef = (.pointer (some ⟨b, 0, none⟩)) := hp 5 (of_decide_eq_true (by kernel_rfl)) (.inr (by decide)); simpa using h2
            obtain ⟨z, e1⟩ := hp 3 (of_decide_eq_true (by kernel_rfl)) (.inr (by decide))
            have qv : a'.tmps[85]?.getD undef = (.int .i64 z) := by have h2 : a'.tmps.getD 85 undef = (.int .i64 z) := e1; simpa using h2
            have fc := hD.heads.1.1
            have fi := hD.heads.1.2
            have Z2 := hD.putT (z := z)
            refine ⟨wanted_none rfl, Oper.wp_mono (K := fun a'' w'' => a'' = a'.put none undef ∧ w'' = x.setCell ⟨b, 0, none⟩ (.int .i64 z)) ?_ ?_⟩
            · rintro _ _ ⟨rfl, rfl⟩
              exact ⟨undef, (), rfl, ⟨fun _ h => absurd rfl h, fun h => absurd rfl h⟩, ⟨fun h => by simp at h, fun _ => Z2⟩, fun _ _ => trivial⟩
            · unfold Oper.wp
              simp [go_sem, qa, qv, fc, fi]
        case last =>
        intro L a' y x hall hkp hI hp
        obtain ⟨f', t', rs', l', hZ⟩ := hI.2 (hall 6 (by decide))
        have HZ : Hid (DdV W bc a len cap w f' b n q t' rs' l' x) := hZ
        have ha := hkp.pick [true, true, true, true, true, true, true, true, true, true, true, true, true, true, true, true, true, true, true, true, true, true, true, true, true, true, true, true, true, true, true, true, true, true, true, true, true, true, true, true, true, true, true, true, true, true, true, true, true, true, true, true, true, true, true, true, true, true, true, true, true, true, true, true, true, true, true, true, true, true, true, true, true, true, true, true, true, true, true, true, true, true, false, false, false, false, false, false, true, true, true, true, true, true, true, true, true, true, true, true, true] (by kernel_rfl)
        simp only [pickS] at ha
        clear hp hkp hI hall hZ
        generalize a'.tmps.getD 82 undef = yy82 at ha
        generalize a'.tmps.getD 83 undef = yy83 at ha
        generalize a'.tmps.getD 84 undef = yy84 at ha
        generalize a'.tmps.getD 85 undef = yy85 at ha
        generalize a'.tmps.getD 86 undef = yy86 at ha
        generalize a'.tmps.getD 87 undef = yy87 at ha
        rw [ha]
        clear ha
        go_wp2_with (first | (refine wpList_load_row rfl 26 (.tmp 3) rfl (w.heap.size + 1) rfl _ _ _ _ HZ.out.out Try.underlying26 rfl (by kernel_rfl) ?_) | (refine wpList_store_row rfl 26 (.tmp 2) (.tmp 100) rfl w.heap.size _ rfl rfl _ _ HZ.out.res (by kernel_rfl) rfl (by simp [Value.oneCell']) ?_))
        exact bodyPost_ret (results_cell_row Try.results36 _ _ w.heap.size _ _ _ _ rfl (setRow_heap _ w.heap.size _ _ _ _ HZ.out.res) Try.underlying26 rfl (by kernel_rfl)) rfl ⟨⟨_, _, rfl, HZ.out.fin.1⟩, HZ.out.fin.2⟩
      · skip
        go_wp2_with fail
        refine region_lists (G := Unit) (by kernel_rfl) (by kernel_rfl) (by kernel_rfl) (fun i => if i = 2 then 5 else if i = 5 then 6 else if i = 7 then 10 else 99) (fun (L : Nat → Bool) (_ : Unit) (x : World) => (L 10 = false → DdV W bc a len cap w f b n q t rs l x) ∧ (L 10 = true → ∃ f' t' rs' l', DdV W bc a len cap w f' b n q t' rs' l' x)) (fun i _ x _ x' => (i ≠ 2 → i ≠ 4 → i ≠ 7 → i ≠ 10 → x' = x) ∧ (i ≠ 10 → ∀ k, k ≠ bc → k < x.heap.size → x'.heap[k]? = x.heap[k]?)) (fun i y x u => ([fun _ _ u => u = (.pointer (some ⟨w.heap.size + 1, 1, none⟩)), fun _ _ u => u = (.slice (some ⟨b, 0, none⟩) n q), fun _ x u => ∃ n1, u = .slice (some ⟨n1, 0, none⟩) 3 3 ∧ Boxed x n1 #[.int .i64 0, .int .i64 8, .int .i64 9] 2 ∧ n1 ≠ bc, fun _ _ u => u = (.pointer (some ⟨bc, 0, none⟩)), fun _ _ u => ∃ j : Nat, u = .int .i64 (j : Int) ∧ j < 3, fun _ x u => ∃ n1 j, u = .pointer (some ⟨n1, j, none⟩) ∧ Boxed x n1 #[.int .i64 0, .int .i64 8, .int .i64 9] 2 ∧ n1 ≠ bc ∧ j < 3, fun _ _ u => ∃ z : Int, u = .int .i64 z ∧ 0 ≤ z ∧ z ≤ 9, fun _ x u => ∃ (x0 : World) (mm : Nat), u = .slice (some ⟨x0.heap.size, 0, none⟩) mm mm ∧ mm ≤ 9 ∧ DdV W bc a len cap w f b n q t rs l x0 ∧ x = x0.alloc (.cells (madeCells #[.int .i64 0] (mm * 1)) 2), fun _ _ u => u = (.pointer (some ⟨b, 0, none⟩)), fun _ _ u => u = (.pointer (some ⟨b, 1, none⟩)), fun _ _ _ => True] : List (Unit → World → Value → Prop)).getD i (fun _ _ _ => True) y x u) ?hR () ?h0 ?step ?last
        case hR =>
          intro i j y y' x x' u hi hj hne hu h1 h2 hp hr
          have hi' : i < 11 := hi
          have hj' : j < 11 := hj
          have hcases : j = 0 ∨ j = 1 ∨ j = 2 ∨ j = 3 ∨ j = 4 ∨ j = 5 ∨ j = 6 ∨ j = 7 ∨ j = 8 ∨ j = 9 ∨ j = 10 := by omega
          rcases hcases with rfl | rfl | rfl | rfl | rfl | rfl | rfl | rfl | rfl | rfl | rfl
          · exact hp
          · exact hp
          · by_cases hst : i = 10
            · subst hst
              first | exact absurd h1 (by decide +kernel) | exact absurd h2 (by decide +kernel)
            · obtain ⟨n1, e1, b1, l1⟩ := hp
              exact ⟨n1, e1, (hr.2 hst n1 l1 b1.under).trans b1, l1⟩
          · exact hp
          · exact hp
          · by_cases hst : i = 10
            · subst hst
              first | exact absurd h1 (by decide +kernel) | exact absurd h2 (by decide +kernel)
            · obtain ⟨n1, jj, e1, b1, l1, l2⟩ := hp
              exact ⟨n1, jj, e1, (hr.2 hst n1 l1 b1.under).trans b1, l1, l2⟩
          · exact hp
          · by_cases hpure : i ≠ 2 ∧ i ≠ 4 ∧ i ≠ 7 ∧ i ≠ 10
            · have e := hr.1 hpure.1 hpure.2.1 hpure.2.2.1 hpure.2.2.2
              subst e
              exact hp
            · exfalso
              have hic : i = 2 ∨ i = 4 ∨ i = 7 ∨ i = 10 := by omega
              rcases hic with rfl | rfl | rfl | rfl
              all_goals first | exact absurd rfl hne | exact absurd rfl hu | (exact absurd h1 (by decide +kernel)) | (exact absurd h2 (by decide +kernel))
          · exact hp
          · exact hp
          · exact hp
        case h0 => exact ⟨fun _ => H6.out.below (Below.refl _ _).drew, fun h => by cases h⟩
        case step =>
          intro i o hi ho L a' y x hLi hwt hre hkp hI hp
          have s0 : a'.tmps[0]?.getD undef = (.pointer (some ⟨bc, 0, none⟩)) := by have h2 : a'.tmps.getD 0 undef = (.pointer (some ⟨bc, 0, none⟩)) := hkp.slot 0 (by kernel_rfl); simpa using h2
          have s3 : a'.tmps[3]?.getD undef = (.pointer (some ⟨w.heap.size + 1, 0, none⟩)) := by have h2 : a'.tmps.getD 3 undef = (.pointer (some ⟨w.heap.size + 1, 0, none⟩)) := hkp.slot 3 (by kernel_rfl); simpa using h2
          have hi' : i < 11 := hi
          have hcases : i = 0 ∨ i = 1 ∨ i = 2 ∨ i = 3 ∨ i = 4 ∨ i = 5 ∨ i = 6 ∨ i = 7 ∨ i = 8 ∨ i = 9 ∨ i = 10 := by omega
          rcases hcases with rfl | rfl | rfl | rfl | rfl | rfl | rfl | rfl | rfl | rfl | rfl
          · cases ho
            have hD : DdV W bc a len cap w f b n q t rs l x := hI.1 (hre 10 (by decide +kernel))
            refine ⟨wanted_none rfl, Oper.wp_mono (K := fun a'' w'' => a'' = a'.put (some 90) (.pointer (some ⟨w.heap.size + 1, 1, none⟩)) ∧ w'' = x) ?_ ?_⟩
            · rintro _ _ ⟨rfl, rfl⟩
              exact ⟨_, (), rfl, ⟨fun _ _ _ _ => rfl, fun _ _ _ _ => rfl⟩, ⟨fun _ => hD, fun h => by have h' : (if (10 : Nat) = 0 then true else L 10) = true := h; have h3 : L 10 = false := hre 10 (by decide +kernel); simp [h3] at h'⟩, fun u hu => hu (fun h => by cases h)⟩
            · unfold Oper.wp
              simp [go_sem, s3]
          · cases ho
            have hD : DdV W bc a len cap w f b n q t rs l x := hI.1 (hre 10 (by decide +kernel))
            have q0 : a'.tmps[90]?.getD undef = (.pointer (some ⟨w.heap.size + 1, 1, none⟩)) := by have h2 : a'.tmps.getD 90 undef = (.pointer (some ⟨w.heap.size + 1, 1, none⟩)) := hp 0 (of_decide_eq_true (by kernel_rfl)) (.inr (by decide)); simpa using h2
            have fc : x.cell? ⟨w.heap.size + 1, 1, none⟩ = some (.slice (some ⟨b, 0, none⟩) n q) := hD.out.cell 1 rfl
            refine ⟨wanted_none rfl, Oper.wp_mono (K := fun a'' w'' => a'' = a'.put (some 91) (.slice (some ⟨b, 0, none⟩) n q) ∧ w'' = x) ?_ ?_⟩
            · rintro _ _ ⟨rfl, rfl⟩
              exact ⟨_, (), rfl, ⟨fun _ _ _ _ => rfl, fun _ _ _ _ => rfl⟩, ⟨fun _ => hD, fun h => by have h' : (if (10 : Nat) = 1 then true else L 10) = true := h; have h3 : L 10 = false := hre 10 (by decide +kernel); simp [h3] at h'⟩, fun u hu => hu (fun h => by cases h)⟩
            · unfold Oper.wp
              simp [go_sem, q0, fc]
          · cases ho
            have hD : DdV W bc a len cap w f b n q t rs l x := hI.1 (hre 10 (by decide +kernel))
            refine ⟨wanted_none rfl, Oper.wp_mono (K := fun a'' w'' => a'' = a'.put (some 92) (.slice (some ⟨x.heap.size, 0, none⟩) 3 3) ∧ w'' = x.alloc (.cells #[.int .i64 0, .int .i64 8, .int .i64 9] 2)) ?_ ?_⟩
            · rintro _ _ ⟨rfl, rfl⟩
              have bl : Below x.heap.size x (x.alloc (.cells #[.int .i64 0, .int .i64 8, .int .i64 9] 2)) := (Below.refl _ _).alloc (Nat.le_refl _) _
              exact ⟨_, (), rfl, ⟨fun h _ _ _ => absurd rfl h, fun _ k k1 k2 => bl.block k k2⟩, ⟨fun _ => hD.below bl, fun h => by have h' : (if (10 : Nat) = 2 then true else L 10) = true := h; have h3 : L 10 = false := hre 10 (by decide +kernel); simp [h3] at h'⟩, fun u hu => ⟨x.heap.size, hu (fun h => by cases h), Boxed.new _ _ _, hD.cur.ne⟩⟩
            · unfold Oper.wp
              simp [go_sem]
          · cases ho
            have hD : DdV W bc a len cap w f b n q t rs l x := hI.1 (hre 10 (by decide +kernel))
            refine ⟨wanted_none rfl, Oper.wp_mono (K := fun a'' w'' => a'' = a'.put (some 93) (.pointer (some ⟨bc, 0, none⟩)) ∧ w'' = x) ?_ ?_⟩
            · rintro _ _ ⟨rfl, rfl⟩
              exact ⟨_, (), rfl, ⟨fun _ _ _ _ => rfl, fun _ _ _ _ => rfl⟩, ⟨fun _ => hD, fun h => by have h' : (if (10 : Nat) = 3 then true else L 10) = true := h; have h3 : L 10 = false := hre 10 (by decide +kernel); simp [h3] at h'⟩, fun u hu => hu (fun h => by cases h)⟩
            · unfold Oper.wp
              simp [go_sem, s0]
          · cases ho
            have hD : DdV W bc a len cap w f b n q t rs l x := hI.1 (hre 10 (by decide +kernel))
            have q0 : a'.tmps[93]?.getD undef = (.pointer (some ⟨bc, 0, none⟩)) := by have h2 : a'.tmps.getD 93 undef = (.pointer (some ⟨bc, 0, none⟩)) := hp 3 (of_decide_eq_true (by kernel_rfl)) (.inr (by decide)); simpa using h2
            refine ⟨wanted_none rfl, op_callB (by simp [execOp, resolve, Deferred.ofValue, invoke, Act.eval, q0]) (drawBelow hc 3 (by omega) x hD.cur) ?_⟩
            rintro e z ⟨⟨v, rfl, v0, v1⟩, ci, ki⟩
            obtain ⟨j, rfl⟩ := Int.eq_ofNat_of_zero_le v0
            exact ⟨_, rfl, _, (), rfl, ⟨fun _ h _ _ => absurd rfl h, fun _ k k1 k2 => ki.block k k1 k2⟩, ⟨fun _ => hD.draw ci ki, fun h => by have h' : (if (10 : Nat) = 4 then true else L 10) = true := h; have h3 : L 10 = false := hre 10 (by decide +kernel); simp [h3] at h'⟩, fun u hu => ⟨j, hu (fun h => by cases h), by omega⟩⟩
          · cases ho
            have hD : DdV W bc a len cap w f b n q t rs l x := hI.1 (hre 10 (by decide +kernel))
            obtain ⟨n1, e1, hb1, hl1⟩ := hp 2 (of_decide_eq_true (by kernel_rfl)) (.inl rfl)
            obtain ⟨j, e2, hj2⟩ := hp 4 (of_decide_eq_true (by kernel_rfl)) (.inr (by decide))
            have q1 : a'.tmps[92]?.getD undef = .slice (some ⟨n1, 0, none⟩) 3 3 := by have h2 : a'.tmps.getD 92 undef = .slice (some ⟨n1, 0, none⟩) 3 3 := e1; simpa using h2
            have q2 : a'.tmps[94]?.getD undef = .int .i64 (j : Int) := by have h2 : a'.tmps.getD 94 undef = .int .i64 (j : Int) := e2; simpa using h2
            refine ⟨wanted_none rfl, Oper.wp_mono (K := fun a'' w'' => a'' = a'.put (some 95) (.pointer (some ⟨n1, j, none⟩)) ∧ w'' = x) ?_ ?_⟩
            · rintro _ _ ⟨rfl, rfl⟩
              exact ⟨_, (), rfl, ⟨fun _ _ _ _ => rfl, fun _ _ _ _ => rfl⟩, ⟨fun _ => hD, fun h => by have h' : (if (10 : Nat) = 5 then true else L 10) = true := h; have h3 : L 10 = false := hre 10 (by decide +kernel); simp [h3] at h'⟩, fun u hu => ⟨n1, j, hu (fun h => by cases h), hb1, hl1, hj2⟩⟩
            · have hj4 : (j : Int) < 3 := by omega
              unfold Oper.wp
              simp [go_sem, q1, q2, hj4]
          · cases ho
            have hD : DdV W bc a len cap w f b n q t rs l x := hI.1 (hre 10 (by decide +kernel))
            obtain ⟨n1, j, e1, hb1, hl1, hj1⟩ := hp 5 (of_decide_eq_true (by kernel_rfl)) (.inl rfl)
            have q1 : a'.tmps[95]?.getD undef = .pointer (some ⟨n1, j, none⟩) := by have h2 : a'.tmps.getD 95 undef = .pointer (some ⟨n1, j, none⟩) := e1; simpa using h2
            obtain ⟨z, hz, z0, z9⟩ : ∃ z : Int, x.cell? ⟨n1, j, none⟩ = some (.int .i64 z) ∧ 0 ≤ z ∧ z ≤ 9 := by
              have hj' : j = 0 ∨ j = 1 ∨ j = 2 := by omega
              rcases hj' with rfl | rfl | rfl
              · exact ⟨_, hb1.cell 0 rfl, by decide, by decide⟩
              · exact ⟨_, hb1.cell 1 rfl, by decide, by decide⟩
              · exact ⟨_, hb1.cell 2 rfl, by decide, by decide⟩
            refine ⟨wanted_none rfl, Oper.wp_mono (K := fun a'' w'' => a'' = a'.put (some 96) (.int .i64 z) ∧ w'' = x) ?_ ?_⟩
            · rintro _ _ ⟨rfl, rfl⟩
              exact ⟨_, (), rfl, ⟨fun _ _ _ _ => rfl, fun _ _ _ _ => rfl⟩, ⟨fun _ => hD, fun h => by have h' : (if (10 : Nat) = 6 then true else L 10) = true := h; have h3 : L 10 = false := hre 10 (by decide +kernel); simp [h3] at h'⟩, fun u hu => ⟨z, hu (fun h => by cases h), z0, z9⟩⟩
            · unfold Oper.wp
              simp [go_sem, q1, hz]
          · cases ho
            have hD : DdV W bc a len cap w f b n q t rs l x := hI.1 (hre 10 (by decide +kernel))
            obtain ⟨z, e1, z0, z9⟩ := hp 6 (of_decide_eq_true (by kernel_rfl)) (.inr (by decide))
            obtain ⟨mm, rfl⟩ := Int.eq_ofNat_of_zero_le z0
            have q1 : a'.tmps[96]?.getD undef = .int .i64 (mm : Int) := by have h2 : a'.tmps.getD 96 undef = .int .i64 (mm : Int) := e1; simpa using h2
            have hmk := intsMake mm (by omega) x
            refine ⟨wanted_none rfl, Oper.wp_mono (K := fun a'' w'' => a'' = a'.put (some 97) (.slice (some ⟨x.heap.size, 0, none⟩) mm mm) ∧ w'' = x.alloc (.cells (madeCells #[.int .i64 0] (mm * 1)) 2)) ?_ ?_⟩
            · rintro _ _ ⟨rfl, rfl⟩
              have bl : Below x.heap.size x (x.alloc (.cells (madeCells #[.int .i64 0] (mm * 1)) 2)) := (Below.refl _ _).alloc (Nat.le_refl _) _
              exact ⟨_, (), rfl, ⟨fun _ _ h _ => absurd rfl h, fun _ k k1 k2 => bl.block k k2⟩, ⟨fun _ => hD.below bl, fun h => by have h' : (if (10 : Nat) = 7 then true else L 10) = true := h; have h3 : L 10 = false := hre 10 (by decide +kernel); simp [h3] at h'⟩, fun u hu => ⟨x, mm, hu (fun h => by cases h), by omega, hD, rfl⟩⟩
            · unfold Oper.wp
              simp [execOp, Act.eval, q1, hmk, Oper.upon, Result.andThen]
          · cases ho
            have hD : DdV W bc a len cap w f b n q t rs l x := hI.1 (hre 10 (by decide +kernel))
            have q1 : a'.tmps[91]?.getD undef = (.slice (some ⟨b, 0, none⟩) n q) := by have h2 : a'.tmps.getD 91 undef = (.slice (some ⟨b, 0, none⟩) n q) := hp 1 (of_decide_eq_true (by kernel_rfl)) (.inr (by decide)); simpa using h2
            refine ⟨wanted_none rfl, Oper.wp_mono (K := fun a'' w'' => a'' = a'.put (some 98) (.pointer (some ⟨b, 0, none⟩)) ∧ w'' = x) ?_ ?_⟩
            · rintro _ _ ⟨rfl, rfl⟩
              exact ⟨_, (), rfl, ⟨fun _ _ _ _ => rfl, fun _ _ _ _ => rfl⟩, ⟨fun _ => hD, fun h => by have h' : (if (10 : Nat) = 8 then true else L 10) = true := h; have h3 : L 10 = false := hre 10 (by decide +kernel); simp [h3] at h'⟩, fun u hu => hu (fun h => by cases h)⟩
            · unfold Oper.wp
              simp [go_sem, q1, hnn]
          · cases ho
            have hD : DdV W bc a len cap w f b n q t rs l x := hI.1 (hre 10 (by decide +kernel))
            have q8 : a'.tmps[98]?.getD undef = (.pointer (some ⟨b, 0, none⟩)) := by have h2 : a'.tmps.getD 98 undef = (.pointer (some ⟨b, 0, none⟩)) := hp 8 (of_decide_eq_true (by kernel_rfl)) (.inr (by decide)); simpa using h2
            refine ⟨wanted_none rfl, Oper.wp_mono (K := fun a'' w'' => a'' = a'.put (some 99) (.pointer (some ⟨b, 1, none⟩)) ∧ w'' = x) ?_ ?_⟩
            · rintro _ _ ⟨rfl, rfl⟩
              exact ⟨_, (), rfl, ⟨fun _ _ _ _ => rfl, fun _ _ _ _ => rfl⟩, ⟨fun _ => hD, fun h => by have h' : (if (10 : Nat) = 9 then true else L 10) = true := h; have h3 : L 10 = false := hre 10 (by decide +kernel); simp [h3] at h'⟩, fun u hu => hu (fun h => by cases h)⟩
            · unfold Oper.wp
              simp [go_sem, q8]
          · cases ho
            have hD : DdV W bc a len cap w f b n q t rs l x := hI.1 hLi
            have qa : a'.tmps[99]?.getD undef = (.pointer (some ⟨b, 1, none⟩)) := by have h2 : a'.tmps.getD 99 undef = (.pointer (some ⟨b, 1, none⟩)) := hp 9 (of_decide_eq_true (by kernel_rfl)) (.inr (by decide)); simpa using h2
            obtain ⟨x0, mm, e1, hmm, hD0, ex⟩ := hp 7 (of_decide_eq_true (by kernel_rfl)) (.inl rfl)
            have qv : a'.tmps[97]?.getD undef = (.slice (some ⟨x0.heap.size, 0, none⟩) mm mm) := by have h2 : a'.tmps.getD 97 undef = (.slice (some ⟨x0.heap.size, 0, none⟩) mm mm) := e1; simpa using h2
            have fc := hD.heads.2.1
            have fi := hD.heads.2.2
            have Z2 := hD0.putL hmm
            rw [← ex] at Z2
            refine ⟨wanted_none rfl, Oper.wp_mono (K := fun a'' w'' => a'' = a'.put none undef ∧ w'' = x.setCell ⟨b, 1, none⟩ (.slice (some ⟨x0.heap.size, 0, none⟩) mm mm)) ?_ ?_⟩
            · rintro _ _ ⟨rfl, rfl⟩
              exact ⟨undef, (), rfl, ⟨fun _ _ _ h => absurd rfl h, fun h => absurd rfl h⟩, ⟨fun h => by simp at h, fun _ => Z2⟩, fun _ _ => trivial⟩
            · unfold Oper.wp
              simp [go_sem, qa, qv, fc, fi]
        case last =>
        intro L a' y x hall hkp hI hp
        obtain ⟨f', t', rs', l', hZ⟩ := hI.2 (hall 10 (by decide))
        have HZ : Hid (DdV W bc a len cap w f' b n q t' rs' l' x) := hZ
        have ha := hkp.pick [true, true, true, true, true, true, true, true, true, true, true, true, true, true, true, true, true, true, true, true, true, true, true, true, true, true, true, true, true, true, true, true, true, true, true, true, true, true, true, true, true, true, true, true, true, true, true, true, true, true, true, true, true, true, true, true, true, true, true, true, true, true, true, true, true, true, true, true, true, true, true, true, true, true, true, true, true, true, true, true, true, true, true, true, true, true, true, true, true, true, false, false, false, false, false, false, false, false, false, false, true] (by kernel_rfl)
        simp only [pickS] at ha
        clear hp hkp hI hall hZ
        generalize a'.tmps.getD 90 undef = yy90 at ha
        generalize a'.tmps.getD 91 undef = yy91 at ha
        generalize a'.tmps.getD 92 undef = yy92 at ha
        generalize a'.tmps.getD 93 undef = yy93 at ha
        generalize a'.tmps.getD 94 undef = yy94 at ha
        generalize a'.tmps.getD 95 undef = yy95 at ha
        generalize a'.tmps.getD 96 undef = yy96 at ha
        generalize a'.tmps.getD 97 undef = yy97 at ha
        generalize a'.tmps.getD 98 undef = yy98 at ha
        generalize a'.tmps.getD 99 undef = yy99 at ha
        rw [ha]
        clear ha
        go_wp2_with (first | (refine wpList_load_row rfl 26 (.tmp 3) rfl (w.heap.size + 1) rfl _ _ _ _ HZ.out.out Try.underlying26 rfl (by kernel_rfl) ?_) | (refine wpList_store_row rfl 26 (.tmp 2) (.tmp 100) rfl w.heap.size _ rfl rfl _ _ HZ.out.res (by kernel_rfl) rfl (by simp [Value.oneCell']) ?_))
        exact bodyPost_ret (results_cell_row Try.results36 _ _ w.heap.size _ _ _ _ rfl (setRow_heap _ w.heap.size _ _ _ _ HZ.out.res) Try.underlying26 rfl (by kernel_rfl)) rfl ⟨⟨_, _, rfl, HZ.out.fin.1⟩, HZ.out.fin.2⟩
    · have hkp : (0 : Int) < (k : Int) := by omega
      have X0 : Hid (DdI W bc a len cap w v rs l wr.heap.size (.slice none 0 0) [] (wr.alloc (.cells #[.int .i64 0, .slice none 0 0] 35)) ∧ l.length + k ≤ 4) := ⟨DdI.first HR.out.1, HR.out.2.1⟩
      clear HR
      go_wp2_with fail
      generalize wr.alloc (.cells #[.int .i64 0, .slice none 0 0] 35) = wh at X0 ⊢
      generalize wr.heap.size = H at X0 ⊢
      refine (drawBelow hc 4 (by omega) _ X0.out.1.d.cur).mono ?_
      rintro e w2 ⟨⟨y, rfl, y0, y1⟩, c2, k2⟩
      obtain ⟨j, rfl⟩ := Int.eq_ofNat_of_zero_le y0
      have H2 : Hid (∃ u fl, DdI W bc a len cap w v rs l H u fl w2 ∧ fl.length + (1 + j) ≤ 4 ∧ 1 ≤ fl.length + (1 + j)) := ⟨_, _, X0.out.1.draw c2 k2, by simp only [List.length_nil]; omega, by simp only [List.length_nil]; omega⟩
      have HL : Hid (l.length + k ≤ 4) := X0.out.2
      have hj : 1 + j ≤ 4 := by omega
      clear c2 k2 X0 y0 y1
      obtain ⟨k0, hk0⟩ : ∃ k0, k0 = 1 + j := ⟨_, rfl⟩
      have ek : (1 + (j : Int)) = (k0 : Int) := by omega
      rw [← hk0] at H2 hj
      clear hk0
      go_wp2_with fail
      go_loopw [6, 7] (fun s _ wr => ∃ k : Nat, k ≤ 4 ∧ s = .int .i64 k ∧ Hid (∃ u fl, DdI W bc a len cap w v rs l H u fl wr ∧ fl.length + k ≤ 4 ∧ 1 ≤ fl.length + k)) (fun s _ _ => (intOf s).toNat)
      case atStart => exact ⟨k0, hj, by rw [← ek], H2.out⟩
      case round =>
        obtain ⟨i', hi9, rfl, HE⟩ := hrel
        clear H2 ek
        obtain ⟨u, fl, HF⟩ : ∃ u fl, Hid (DdI W bc a len cap w v rs l H u fl wr ∧ fl.length + i' ≤ 4 ∧ 1 ≤ fl.length + i') := HE.out
        clear HE
        obtain ⟨i, rfl⟩ : ∃ i, i = i' := ⟨_, rfl⟩
        by_cases hi : i = 0
        · subst hi
          obtain ⟨ux, uc, eu⟩ := HF.out.1.r.shape
          subst eu
          have hfl := HF.out.2
          obtain ⟨m, hm⟩ : ∃ m, fl.length = m := ⟨_, rfl⟩
          rw [hm] at HF hfl
          have Hm : Hid (fl.length = m) := hm
          clear hm
          have hmi : (0 : Int) < (m : Int) := by omega
          obtain ⟨t0, hb0⟩ := HF.out.1.hb
          have cc1 : wr.cell? ⟨H, 1, none⟩ = some (.slice ux m uc) := hb0.cell 1 rfl
          go_wp2_with fail
          refine (drawBelow hc (m : Int) hmi _ HF.out.1.d.cur).mono ?_
          rintro e w3 ⟨⟨z, rfl, z0, z1⟩, c3, k3⟩
          have H3 : Hid (DdI W bc a len cap w v rs l H (.slice ux m uc) fl w3) := HF.out.1.draw c3 k3
          clear c3 k3 z0 z1 HF cc1 hb0
          obtain ⟨t1, hb1⟩ := H3.out.hb
          have cc0 : w3.cell? ⟨H, 0, none⟩ = some (.int .i64 t1) := hb1.cell 0 rfl
          have ii0 := hb1.ice 0
          go_upto_region 14 with fail
          have H4 : Hid (DdI W bc a len cap w v rs l H (.slice ux m uc) fl (w3.setCell ⟨H, 0, none⟩ (.int .i64 z)) ∧ Boxed (w3.setCell ⟨H, 0, none⟩ (.int .i64 z)) H #[.int .i64 z, .slice ux m uc] 35) := H3.out.turn
          generalize w3.setCell ⟨H, 0, none⟩ (.int .i64 z) = w4 at H4 ⊢
          clear H3 cc0 ii0 hb1
          obtain ⟨va, vc, ev⟩ := hsrows_shape H4.out.1.d.g.outer
          subst ev
          have cv : w4.cell? ⟨w.heap.size + 1, 1, none⟩ = some (.slice va l.length vc) := H4.out.1.d.out.cell 1 rfl
          have iv := H4.out.1.d.out.ice 1
          have Ou : Hid (w4.ownsRow (w.heap.size + 2) 35 2 (.slice va l.length vc) l.length (hscells rs) ∧ w.heap.size + 2 ≤ w4.heap.size) := ⟨H4.out.1.d.g.outer, by have := H4.out.1.d.out.under; omega⟩
          have hll : l.length ≤ 1048576 := by have := HL.out; omega
          have Nx : Hid (∀ v' wn, wn.ownsRow (w.heap.size + 2) 35 2 v' (l.length + 1) (hscells (rs ++ [⟨z, .slice ux m uc⟩])) → Below (w.heap.size + 2) w4 wn → (∀ y, (Value.slice va l.length vc).ownBlock ≠ some y → y < w4.heap.size → wn.heap[y]? = w4.heap[y]?) → DdW W bc a len cap w v' (rs ++ [⟨z, .slice ux m uc⟩]) (l ++ [⟨z, fl⟩]) (wn.setCell ⟨w.heap.size + 1, 1, none⟩ v') ∧ wn.cell? ⟨w.heap.size + 1, 1, none⟩ = some (.slice va l.length vc) ∧ wn.frozen? ⟨w.heap.size + 1, 1, none⟩ = false) := fun v' wn q1 q2 q3 =>
            ⟨H4.out.1.done (by rw [Hm.out]; omega) q1 q2 q3, by rw [q2.cell (p := ⟨w.heap.size + 1, 1, none⟩) (by show w.heap.size + 1 < w.heap.size + 2; omega)]; exact cv, by rw [ice_kept (q2.block (w.heap.size + 1) (by omega))]; exact iv⟩
          have Hbx : Hid _ := H4.out.2
          clear H4
          generalize hgn : l.length = n at *
          have Hgn : Hid (l.length = n) := hgn
          clear hgn
          go_wp2_with (first | (refine wpList_load_row rfl 35 (.tmp 5) rfl H rfl _ _ _ _ Hbx.out Try.underlying35 rfl (by kernel_rfl) ?_) | (refine hs_row_one (w := w4) rfl (.tmp 41) (.tmp 43) rfl (w.heap.size + 2) (.slice va n vc) n rs z (.slice ux m uc) rfl rfl Ou.out.1 rfl hll Ou.out.2 ?_; intro v' wn q1 q2 q3; obtain ⟨vx, vd, ex⟩ := hsrows_shape q1; subst ex; have RS := Nx.out _ wn q1 q2 q3; have R : Hid _ := RS.1; have f1 := RS.2.1; have f2 := RS.2.2; clear RS q1 q2 q3))
          go_roundw
          case rel => exact ⟨k - 1, by omega, by go_num, _, _, _, R.out, by rw [List.length_append, Hgn.out, List.length_singleton]; have := HL.out; omega, by rw [List.length_append, List.length_singleton]; omega⟩
          case measure => simp [intOf]; omega
        · have hip : (0 : Int) < (i : Int) := by omega
          go_wp2_with fail
          refine (drawBelow hc 4 (by omega) _ HF.out.1.d.cur).mono ?_
          rintro e w3 ⟨⟨z, rfl, z0, z1⟩, c3, k3⟩
          have H3 : Hid (DdI W bc a len cap w v rs l H u fl w3 ∧ fl.length + i ≤ 4) := ⟨HF.out.1.draw c3 k3, HF.out.2.1⟩
          clear c3 k3 z0 z1 HF
          go_wp2_with fail
          refine (drawOnce hc 2 (by omega) _ H3.out.1.d.cur).mono ?_
          rintro e w5 ⟨⟨bo, rfl⟩, c5, k5⟩
          have H5 : Hid (DdI W bc a len cap w v rs l H u fl w5 ∧ fl.length + i ≤ 4) := ⟨H3.out.1.draw c5 k5, H3.out.2⟩
          clear c5 k5 H3
          obtain ⟨ux, uc, eu⟩ := H5.out.1.r.shape
          subst eu
          obtain ⟨t0, hb0⟩ := H5.out.1.hb
          have cc1 : w5.cell? ⟨H, 1, none⟩ = some (.slice ux fl.length uc) := hb0.cell 1 rfl
          have ii1 := hb0.ice 1
          have hHs : H + 1 ≤ w5.heap.size := hb0.under
          have hl9 : fl.length ≤ 1000000 := by have := H5.out.2; omega
          have Nx : Hid (∀ (zz : Int) u' wn, IRow (H + 1) wn u' (fl ++ [zz]) → Below (H + 1) w5 wn → DdI W bc a len cap w v rs l H u' (fl ++ [zz]) (wn.setCell ⟨H, 1, none⟩ u') ∧ wn.cell? ⟨H, 1, none⟩ = some (.slice ux fl.length uc) ∧ wn.frozen? ⟨H, 1, none⟩ = false) := fun zz u' wn q1 q2 =>
            ⟨H5.out.1.add q1 q2, by rw [q2.cell (p := ⟨H, 1, none⟩) (by show H < H + 1; omega)]; exact cc1, by rw [ice_kept (q2.block H (by omega))]; exact ii1⟩
          have Hr : Hid (IRow (H + 1) w5 (.slice ux fl.length uc) fl) := H5.out.1.r
          have H6 : Hid (fl.length + i ≤ 4) := H5.out.2
          clear H5 hb0
          obtain ⟨m, hm⟩ : ∃ m, fl.length = m := ⟨_, rfl⟩
          have Hm : Hid (fl.length = m) := hm
          rw [hm] at cc1 hl9 Nx Hr H6
          clear hm
          cases bo
          · go_wp2_with (refine row_iapp1 (w := w5) rfl (.tmp 29) (.tmp 31) rfl (H + 1) (.slice ux m uc) fl z rfl Hr.out rfl (by rw [Hm.out]; exact hl9) hHs ?_; intro u' wn q1 q2; obtain ⟨uy, ud, ey⟩ := q1.shape; rw [List.length_append, Hm.out] at ey; subst ey; have RS := Nx.out _ _ wn q1 q2; have R : Hid _ := RS.1; have f1 := RS.2.1; have f2 := RS.2.2; clear RS q1 q2)
            go_roundw
            case rel => exact ⟨i - 1, by omega, by go_num, _, _, R.out, by rw [List.length_append, Hm.out]; simp; have := H6.out; omega, by simp; omega⟩
            case measure => simp [intOf]; omega
          · go_wp2_with (refine row_iapp1 (w := w5) rfl (.tmp 29) (.tmp 31) rfl (H + 1) (.slice ux m uc) fl (0 : Int) rfl Hr.out rfl (by rw [Hm.out]; exact hl9) hHs ?_; intro u' wn q1 q2; obtain ⟨uy, ud, ey⟩ := q1.shape; rw [List.length_append, Hm.out] at ey; subst ey; have RS := Nx.out _ _ wn q1 q2; have R : Hid _ := RS.1; have f1 := RS.2.1; have f2 := RS.2.2; clear RS q1 q2)
            go_roundw
            case rel => exact ⟨i - 1, by omega, by go_num, _, _, R.out, by rw [List.length_append, Hm.out]; simp; have := H6.out; omega, by simp; omega⟩
            case measure => simp [intOf]; omega
end Go.Proofs.Ytojmghnbekneiaa
