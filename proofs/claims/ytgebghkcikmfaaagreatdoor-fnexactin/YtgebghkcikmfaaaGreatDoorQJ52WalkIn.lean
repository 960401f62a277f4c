import Derived.Test.YtgebghkcikmfaaaGreatDoorQJ3SrPlain
import Derived.Test.YtgebghkcikmfaaaGreatDoorQJ11GtFacts
import Derived.Test.YtgebghkcikmfaaaGreatDoorQJ0NumUp
import Derived.Test.YtgebghkcikmfaaaGreatDoorQJ50GtNextI
import Derived.Test.YtgebghkcikmfaaaGreatDoorQJ44RwOkI
import Derived.Test.YtgebghkcikmfaaaGreatDoorQJ48FsQuI
import Derived.Test.YtgebghkcikmfaaaGreatDoorQJ33LawIn
import Derived.Test.YtgebghkcikmfaaaGreatDoorQJ5StepRow
import Derived.Deep.DeepCutAuto
import Derived.Test.YtgebghkcikmfaaaGreatDoorQJ49GtComeI
import Derived.Test.YtgebghkcikmfaaaGreatDoorQJ51GtOwnI
/-
  No gate, as a value with memory. By the verifier.
-/
namespace Go.Proofs.YtgebghkcikmfaaaGreatDoor
open Go.RowKit

theorem gtIn_zero (b : Nat) (w : World) (hb : b ≤ w.heap.size) : GtIn b w.heap.size w (.agg #[.int .i64 0, .int .i64 0, .int .i64 0, .slice none 0 0, .slice none 0 0, .slice none 0 0, .slice none 0 0, .int .i64 0, .slice none 0 0, .slice none 0 0, .int .i64 0, .slice none 0 0, .int .i64 0, .int .i64 0]) Gt.zero := by
  refine ⟨⟨none, 0, none, 0, none, 0, none, 0, none, 0, none, 0, none, 0⟩, ⟨w.heap.size, w.heap.size, w.heap.size, w.heap.size, w.heap.size, w.heap.size, w.heap.size, w.heap.size, w.heap.size, w.heap.size, w.heap.size, w.heap.size, w.heap.size, w.heap.size⟩, rfl, ⟨RtsW.of_row (World.ownsRow_nil _ _ _ _), RusW.of_row (World.ownsRow_nil _ _ _ _), NdsW.of_row (World.ownsRow_nil _ _ _ _), IntsW.of_row (World.ownsRow_nil _ _ _ _), ⟨none, 0, rfl, [], (IzG.nil _ _).done⟩, SrsW.of_row (World.ownsRow_nil _ _ _ _), ⟨none, 0, rfl, [], (FwG.nil _ _).done⟩⟩, ?_, ?_, Nat.le_refl _⟩
  · constructor <;> (try simp only) <;> omega
  · constructor <;> exact .inl (Nat.le_refl _)
end Go.Proofs.YtgebghkcikmfaaaGreatDoor

/-
  The walk of the program's leavesOk. By the verifier.
-/
namespace Go.Proofs.YtgebghkcikmfaaaGreatDoor
open Go.RowKit

theorem lv_hit {ls : List Int} {n k : Nat} (h : k < ls.length) (g : lvB ls n k = false) : (List.range ls.length).all (lvB ls n) = false := by
  rw [List.all_eq_false]
  exact ⟨k, List.mem_range.2 h, by rw [g]; decide⟩
theorem lv_succ (ls : List Int) (n k : Nat) : (List.range (k + 1)).all (lvB ls n) = ((List.range k).all (lvB ls n) && lvB ls n k) := by
  simp [List.range_succ]

set_option maxHeartbeats 3200000 in
set_option maxRecDepth 100000 in
theorem implLeavesOk (ls : List Int) (a : Option Addr) (c n : Nat) (w : World) (hn : n ≤ 1048576) (hT : ls.length ≤ 1048576) (h : Hid (IntsAt w a ls)) :
    Calls Tryz.prog 91 #[.slice a ls.length c, .int .i64 (n : Int)] w fun e w' => e = .returned (.bool (lvOk ls n)) ∧ Below w.heap.size w w' := by
  have Hv : Hid (lvOk ls n = (inB 1 8 (ls.length : Int) && (List.range ls.length).all (lvB ls n))) := by
    show lvOk ls n = _
    unfold lvOk
    rw [← Bool.and_assoc]
    congr 1
    rw [Bool.eq_iff_iff]
    simp only [Bool.and_eq_true, decide_eq_true_eq, inB_true]
    omega
  have Hh : Hid (∀ k, k < ls.length → lvB ls n k = false → (List.range ls.length).all (lvB ls n) = false) := fun k hk g => lv_hit hk g
  have Hs : Hid (∀ k, (List.range (k + 1)).all (lvB ls n) = ((List.range k).all (lvB ls n) && lvB ls n k)) := fun k => lv_succ ls n k
  have Hb : Hid (∀ k, lvB ls n k = (inB 0 ((n : Int) - 1) (ls[k]?.getD 0) && (decide (k = 0) || decide (ls[k - 1]?.getD 0 < ls[k]?.getD 0)))) := fun k => by
    unfold lvB
    rw [← Bool.and_assoc]
    congr 1
    rw [Bool.eq_iff_iff]
    simp only [Bool.and_eq_true, decide_eq_true_eq, inB_true]
    omega
  obtain ⟨len, hlen⟩ : ∃ m, ls.length = m := ⟨_, rfl⟩
  have Hlen : Hid (ls.length = len) := hlen
  rw [hlen] at hT Hv Hh ⊢
  clear hlen
  have F := fun B w hB => implFromOne 8 (len : Int) B w hB
  have AP := fun p w => implPlace n p w hn
  generalize lvOk ls n = R at Hv ⊢
  generalize inB 1 8 (len : Int) = ok at F Hv
  have F' : Hid _ := F
  have AP' : Hid _ := AP
  clear F AP
  have N1 : Hid (Below w.heap.size w (w.alloc (.cells #[.int .i64 (len : Int)] 2))) := (Below.refl _ _).alloc (Nat.le_refl _) _
  go_enter Tryz.func91, Tryz.ntmps91
  go_wp2_with fail
  refine (F'.out _ w rfl).mono ?_
  rintro e w1 ⟨rfl, hw1⟩
  have B1 : Hid (Below w.heap.size w w1) := by rw [hw1]; exact N1.out
  clear hw1 F' N1
  cases ok
  · have e1 : R = false := by rw [Hv.out]; rfl
    subst e1
    go_wp2
    go_ret
    exact ⟨rfl, B1.out⟩
  have e1 : R = (List.range len).all (lvB ls n) := by rw [Hv.out, Bool.true_and]
  have HR : Hid _ := e1
  clear e1 Hv
  go_wp2
  go_loopw [5, 6, 14] (fun _ _ i wr => ∃ k : Nat, k ≤ len ∧ i = .int .i64 k ∧ Hid ((List.range k).all (lvB ls n) = true) ∧ Hid (Below w.heap.size w wr)) (fun _ _ i _ => len - (intOf i).toNat)
  case atStart => exact ⟨0, Nat.zero_le _, rfl, rfl, B1.out⟩
  case round =>
    obtain ⟨k, hk, rfl, hg, HB⟩ := hrel
    by_cases hlt : k < len
    · have hlt' : (k : Int) < (len : Int) := by omega
      have Rr : Hid (IntsAt wr a ls) := h.out.below HB.out
      obtain ⟨b1, o1, ha1, hb1, c0⟩ := Rr.out k (by rw [Hlen.out]; exact hlt)
      subst ha1
      have AP := fun w => AP'.out (ls[k]?.getD 0) w
      have hb := Hb.out k
      have hh := Hh.out k hlt
      have hs := Hs.out k
      rw [hg.out, Bool.true_and] at hs
      have P1 : Hid (∀ j, j < k → ∀ w2, Below wr.heap.size wr w2 → w2.cell? ⟨b1, o1 + j, none⟩ = some (.int .i64 (ls[j]?.getD 0))) := fun j hj w2 q => by
        obtain ⟨b2, o2, ha2, hb2, d0⟩ := (Rr.out.below q) j (by rw [Hlen.out]; omega)
        cases ha2
        exact d0
      generalize lvB ls n k = lb at hb hh hs
      have HS : Hid _ := hs
      have HH : Hid _ := hh
      have HP : Hid (∀ j, k = j + 1 → ls[k - 1]?.getD 0 = ls[j]?.getD 0) := fun j e => by rw [e]; rfl
      generalize ls[k - 1]?.getD 0 = y at hb HP
      generalize ls[k]?.getD 0 = x at c0 AP hb
      generalize inB 0 ((n : Int) - 1) x = pl at AP hb
      have AP2 : Hid _ := AP
      have HB2 : Hid _ := hb
      clear hb hh hs AP
      have Bx : Hid (Below wr.heap.size wr (wr.alloc (.cells #[.int .i64 x] 2))) := (Below.refl _ _).alloc (Nat.le_refl _) _
      go_wp2_with fail
      refine (AP2.out _).mono ?_
      rintro e w2 ⟨rfl, hw2⟩
      have B2 : Hid (Below wr.heap.size wr w2) := by rw [hw2]; exact Bx.out
      clear hw2 AP2 Bx
      cases pl
      · have e1 : R = false := by rw [HR.out]; exact HH.out (by rw [HB2.out]; rfl)
        subst e1
        have B3 : Hid (Below w.heap.size w w2) := HB.out.trans (B2.out.mono HB.out.size)
        go_wp2
        go_ret
        exact ⟨rfl, B3.out⟩
      by_cases hk0 : k = 0
      · subst hk0
        have hg2 : Hid ((List.range (0 + 1)).all (lvB ls n) = true) := by show _ = true; rw [HS.out, HB2.out]; rfl
        have B3 : Hid (Below w.heap.size w w2) := HB.out.trans (B2.out.mono HB.out.size)
        clear HS HB2 HH HP P1 B2
        go_wp2
        go_roundw
        case rel => exact ⟨1, by omega, by go_num, hg2, B3⟩
        case measure => simp [intOf]; omega
      obtain ⟨j, rfl⟩ : ∃ j, k = j + 1 := ⟨k - 1, by omega⟩
      have d0 := P1.out j (by omega) w2 B2.out
      rw [← HP.out j rfl] at d0
      have hb12 : b1 < w2.heap.size := Nat.lt_of_lt_of_le hb1 B2.out.size
      have B3 : Hid (Below w.heap.size w w2) := HB.out.trans (B2.out.mono HB.out.size)
      have hj0 : (0 : Int) ≤ (j : Int) := by omega
      have hjl : (j : Int) < (len : Int) := by omega
      have hj1 : (0 : Int) < (j : Int) + 1 := by omega
      by_cases hL : x ≤ y
      · have e1 : R = false := by rw [HR.out]; exact HH.out (by rw [HB2.out, decide_eq_false (by omega), decide_eq_false (by omega)]; rfl)
        subst e1
        clear HS HB2 HH HP P1 B2
        go_wp2
        go_ret
        exact ⟨rfl, B3.out⟩
      · have hg2 : Hid ((List.range (j + 1 + 1)).all (lvB ls n) = true) := by show _ = true; rw [HS.out, HB2.out, decide_eq_true (show y < x by omega)]; simp
        clear HS HB2 HH HP P1 B2
        go_wp2
        go_roundw
        case rel => exact ⟨j + 1 + 1, by omega, by go_num, hg2, B3⟩
        case measure => simp [intOf]; omega
    · obtain rfl : k = len := by omega
      have e1 : R = true := by rw [HR.out]; exact hg.out
      subst e1
      go_wp2
      go_ret
      exact ⟨rfl, HB.out⟩
end Go.Proofs.YtgebghkcikmfaaaGreatDoor

/-
  The walk of the program's GateOk. By the verifier, by program.
-/
namespace Go.Proofs.YtgebghkcikmfaaaGreatDoor
open Go.RowKit Go.Shelf

set_option maxHeartbeats 6400000 in
set_option maxRecDepth 100000 in
theorem implGateOk (g : Gt) (x : Ga) (w : World) (hB : g.big ≤ 1048576) (h : Hid (GtV w x g)) :
    Calls Tryz.prog 33 #[g.val x] w fun e w' => e = .returned (.bool g.ok) ∧ Below w.heap.size w w' := by
  obtain ⟨s1, s2, s3, s4, s5, s6, s7⟩ := Gt.small hB
  have A1 := fun w (h : GtV w x g) => implParts g x w hB h
  have A2 := fun w (h : GtV w x g) => implLeavesOk g.leaves x.a4 x.c4 g.tree.length w s3 s4 h.leaves.spot'
  have A3 := fun w (h : GtV w x g) => implKept g x w hB h
  have A4 := fun w (h : GtV w x g) => implNext g x w hB h
  have A5 := fun w B hB => implUpTo1 1048575 g.draw w B hB
  have Hv : Hid (g.ok = (g.parts && (lvOk g.leaves g.tree.length && (g.kept && (g.nextB && inB 0 1048575 g.draw))))) := g.ok_parts
  generalize g.ok = R at Hv ⊢
  generalize g.parts = o1 at A1 Hv
  generalize lvOk g.leaves g.tree.length = o2 at A2 Hv
  generalize g.kept = o3 at A3 Hv
  generalize g.nextB = o4 at A4 Hv
  generalize inB 0 1048575 g.draw = o5 at A5 Hv
  have Hcs : Hid ((g.cells x).size = 14 ∧ (g.cells x).all (·.oneCell') = true) := ⟨Gt.cells_size g x, Gt.cells_one g x⟩
  have Gc : Hid (∀ W B, Boxed W B (g.cells x) 50 → W.cell? ⟨B, 5, none⟩ = some (.slice x.a3 g.tree.length x.c3) ∧ W.cell? ⟨B, 6, none⟩ = some (.slice x.a4 g.leaves.length x.c4) ∧ W.cell? ⟨B, 13, none⟩ = some (.int .i64 g.draw)) := fun W B hh => ⟨hh.cell 5 rfl, hh.cell 6 rfl, hh.cell 13 rfl⟩
  unfold Gt.val at A1 A3 A4 ⊢
  have K : Hid (∀ w', Below w.heap.size w w' → GtV w' x g) := fun w' q => h.out.below q
  generalize g.cells x = cs at A1 A3 A4 Hcs Gc ⊢
  generalize g.tree.length = n3 at A2 Gc
  generalize g.leaves.length = n4 at A2 Gc
  generalize g.draw = dr at A5 Gc
  have B1 : Hid _ := A1
  clear A1
  have A1 := B1
  clear B1
  have B2 : Hid _ := A2
  clear A2
  have A2 := B2
  clear B2
  have B3 : Hid _ := A3
  clear A3
  have A3 := B3
  clear B3
  have B4 : Hid _ := A4
  clear A4
  have A4 := B4
  clear B4
  have B5 : Hid _ := A5
  clear A5
  have A5 := B5
  clear B5
  obtain ⟨A, hAq⟩ : ∃ A, A = w.heap.size := ⟨_, rfl⟩
  obtain ⟨W0, hW⟩ : ∃ W, W = w.alloc (.cells cs 50) := ⟨_, rfl⟩
  have Z0 : Hid (Boxed W0 A cs 50 ∧ Below w.heap.size w W0) := by
    have bw : Below w.heap.size w W0 := by rw [hW]; exact (Below.refl _ _).alloc (Nat.le_refl _) _
    exact ⟨by rw [hW, hAq]; exact Boxed.new _ _ _, bw⟩
  have HW : Hid (W0 = _) := hW
  have HA : Hid (A = _) := hAq
  clear hW hAq h hB s1 s2 s3 s4 s5 s6 s7
  go_enter Tryz.func33, Tryz.ntmps33
  go_upto_region 1 with fail
  rw [← HW.out, ← HA.out]
  clear HW HA
  go_wp2_with (refine wpList_load_row rfl 50 (.tmp 1) rfl A rfl _ _ _ _ Z0.out.1 Tryz.underlying50 rfl (by rw [Hcs.out.1]; kernel_rfl) ?_)
  refine (A1.out _ (K.out _ Z0.out.2)).mono ?_
  rintro e w1 ⟨rfl, q⟩
  have Z1 : Hid (Boxed w1 A cs 50 ∧ Below w.heap.size w w1) := ⟨Z0.out.1.below Z0.out.1.under q, Z0.out.2.trans (q.mono Z0.out.2.size)⟩
  clear q Z0
  cases o1
  · have e : R = false := by rw [Hv.out]; rfl
    subst e
    go_wp2
    go_ret
    exact ⟨rfl, Z1.out.2⟩
  obtain ⟨d5, d6, d13⟩ := Gc.out _ _ Z1.out.1
  go_wp2_with fail
  refine (A2.out _ (K.out _ Z1.out.2)).mono ?_
  rintro e w2 ⟨rfl, q⟩
  have Z2 : Hid (Boxed w2 A cs 50 ∧ Below w.heap.size w w2) := ⟨Z1.out.1.below Z1.out.1.under q, Z1.out.2.trans (q.mono Z1.out.2.size)⟩
  clear q Z1 d5 d6 d13
  cases o2
  · have e : R = false := by rw [Hv.out]; rfl
    subst e
    go_wp2
    go_ret
    exact ⟨rfl, Z2.out.2⟩
  go_wp2_with (refine wpList_load_rowG (by simp [Region.wanted, yielded, Act.put] <;> omega) 50 (.tmp 1) rfl A rfl _ _ _ _ Z2.out.1 Tryz.underlying50 rfl (by rw [Hcs.out.1]; kernel_rfl) ?_)
  refine (A3.out _ (K.out _ Z2.out.2)).mono ?_
  rintro e w3 ⟨rfl, q⟩
  have Z3 : Hid (Boxed w3 A cs 50 ∧ Below w.heap.size w w3) := ⟨Z2.out.1.below Z2.out.1.under q, Z2.out.2.trans (q.mono Z2.out.2.size)⟩
  clear q Z2
  cases o3
  · have e : R = false := by rw [Hv.out]; rfl
    subst e
    go_wp2
    go_ret
    exact ⟨rfl, Z3.out.2⟩
  go_wp2_with (refine wpList_load_rowG (by simp [Region.wanted, yielded, Act.put] <;> omega) 50 (.tmp 1) rfl A rfl _ _ _ _ Z3.out.1 Tryz.underlying50 rfl (by rw [Hcs.out.1]; kernel_rfl) ?_)
  refine (A4.out _ (K.out _ Z3.out.2)).mono ?_
  rintro e w4 ⟨rfl, q⟩
  have Z4 : Hid (Boxed w4 A cs 50 ∧ Below w.heap.size w w4) := ⟨Z3.out.1.below Z3.out.1.under q, Z3.out.2.trans (q.mono Z3.out.2.size)⟩
  clear q Z3
  cases o4
  · have e : R = false := by rw [Hv.out]; rfl
    subst e
    go_wp2
    go_ret
    exact ⟨rfl, Z4.out.2⟩
  have e : R = o5 := by rw [Hv.out]; rfl
  subst e
  obtain ⟨d5, d6, d13⟩ := Gc.out _ _ Z4.out.1
  have N1 : Hid (Below w4.heap.size w4 (w4.alloc (.cells #[.int .i64 dr] 2))) := (Below.refl _ _).alloc (Nat.le_refl _) _
  go_wp2_with fail
  refine (A5.out w4 _ rfl).mono ?_
  rintro e w5 ⟨rfl, hw5⟩
  have B5 : Hid (Below w.heap.size w w5) := by rw [hw5]; exact Z4.out.2.trans (N1.out.mono Z4.out.2.size)
  clear hw5 A5 N1 d5 d6 d13
  go_wp2
  go_ret
  exact ⟨rfl, B5.out⟩
end Go.Proofs.YtgebghkcikmfaaaGreatDoor

/-
  The walk of the program's In. By the verifier, by program.
-/
namespace Go.Proofs.YtgebghkcikmfaaaGreatDoor
open Go.RowKit

set_option maxHeartbeats 6400000 in
set_option maxRecDepth 100000 in
/-- The closure. -/
theorem implInFn {es em : Addr} (lo : Nat) (g : Gt) (xg : Ga) (f : Gf) (B S : Nat) (s : ByteArray) (w : World) (hB : g.big ≤ 1048576) (hok : g.ok = true) (hs : s.size ≤ 1048576) (hE : Hid (∀ W, Below lo w W → Gl es em W)) (hb : Hid (Boxed w B (g.cells xg) 50)) (hG : Hid (GtW w xg f g ∧ f.In lo B ∧ f.Apart ∧ lo ≤ B)) (hS : w.cell? ⟨S, 0, none⟩ = some (.string s)) (k : Nat) (hk : B < k) (hc : w.cell? ⟨k, 0, none⟩ = some (.int .i64 0)) (hf : w.frozen? ⟨k, 0, none⟩ = false) :
    Calls Tryz.prog 62 #[.pointer (some ⟨B, 0, none⟩), .pointer (some ⟨S, 0, none⟩)] w fun e w' => ∃ a, (e = .returned (.int .i64 a) ∨ e = .panicked [{ v := gaveUp a, recovered := false }]) ∧ (a = (g.inn s).2 ∧ GoneW lo B (g.inn s).1 w w') ∧ w'.cell? ⟨k, 0, none⟩ = some (.int .i64 0) ∧ w'.frozen? ⟨k, 0, none⟩ = false := by
  have hkw : k < w.heap.size := by
    rcases Nat.lt_or_ge k w.heap.size with h | h
    · exact h
    · exfalso
      have : w.cell? ⟨k, 0, none⟩ = none := by simp [World.cell?, Array.getElem?_eq_none h]
      rw [this] at hc
      cases hc
  have Kp : Hid (∀ w', GoneW lo B (g.inn s).1 w w' → w'.cell? ⟨k, 0, none⟩ = some (.int .i64 0) ∧ w'.frozen? ⟨k, 0, none⟩ = false) := fun w' h => by
    have e := h.hi k hk hkw
    have e1 : w'.cell? ⟨k, 0, none⟩ = w.cell? ⟨k, 0, none⟩ := World.cell?_of_block e
    have e2 : w'.frozen? ⟨k, 0, none⟩ = w.frozen? ⟨k, 0, none⟩ := World.frozen?_of_block e
    exact ⟨e1.trans hc, e2.trans hf⟩
  have C : ∀ Q : Ending → World → Prop, ((g.inn s).2 = 0 → ∀ w', GoneW lo B (g.inn s).1 w w' → Q (.returned (.int .i64 0)) w') → ((g.inn s).2 ≠ 0 → ∀ w', GoneW lo B (g.inn s).1 w w' → Q (.panicked [{ v := gaveUp (g.inn s).2, recovered := false }]) w') → Calls Tryz.prog 63 #[.pointer (some ⟨B, 0, none⟩), .string s] w Q := fun Q h1 h2 => implComeInQ lo g xg f B s w Q hB hok hs hE hb hG h1 h2
  have Cc : Hid _ := C
  clear C hE hb hG hc hf
  go_enter Tryz.func62, Tryz.ntmps62
  go_wp2_with fail
  refine Cc.out _ (fun h w' hw => ?_) (fun h w' hw => ?_)
  · have k1 : Hid _ := Kp.out w' hw
    have hw' : Hid _ := hw
    clear hw
    go_wp2
    go_ret
    exact ⟨0, .inl rfl, ⟨h.symm, hw'.out⟩, k1.out⟩
  · have k1 := Kp.out w' hw
    first | exact ⟨rfl, (g.inn s).2, .inr rfl, ⟨rfl, hw⟩, k1⟩ | (trace_state; done)

set_option maxHeartbeats 12800000 in
set_option maxRecDepth 100000 in
theorem implInG {es em : Addr} (g : Gt) (v : Value) (s : ByteArray) (w : World) (hB : g.big ≤ 1048576) (hs : s.size ≤ 1048576) (hE : Hid (Gl es em w)) (h : Hid (GtAt w v g)) :
    Calls Tryz.prog 14 #[v, .string s] w fun e w' => (∃ v', e = .returned (.tuple #[v', .int .i64 (g.inK s)]) ∧ GtIn w.heap.size w'.heap.size w' v' (g.inG s)) ∧ Below w.heap.size w w' := by
  obtain ⟨x, rfl, hG⟩ := h.out
  have A1 := fun w (h : GtV w x g) => implGateOk g x w hB h
  have A2 := fun w (h : GtV w x g) => implOwnGate g x w hB h
  have A3 : Hid (g.ok = true → ∀ lo xg f B S k W, (∀ W2, Below lo W W2 → Gl es em W2) → Boxed W B (g.cells xg) 50 → GtW W xg f g ∧ f.In lo B ∧ f.Apart ∧ lo ≤ B → W.cell? ⟨S, 0, none⟩ = some (.string s) → B < k → W.cell? ⟨k, 0, none⟩ = some (.int .i64 0) → W.frozen? ⟨k, 0, none⟩ = false → Calls Tryz.prog 62 #[.pointer (some ⟨B, 0, none⟩), .pointer (some ⟨S, 0, none⟩)] W fun e w' => ∃ a, (e = .returned (.int .i64 a) ∨ e = .panicked [{ v := gaveUp a, recovered := false }]) ∧ (a = g.inK s ∧ GoneW lo B (g.inG s) W w') ∧ w'.cell? ⟨k, 0, none⟩ = some (.int .i64 0) ∧ w'.frozen? ⟨k, 0, none⟩ = false) := fun e lo xg f B S k W h1 h2 h3 h4 h5 h6 h7 => by
    have q := implInFn lo g xg f B S s W hB e hs h1 h2 h3 h4 k h5 h6 h7
    have e1 : g.inK s = (g.inn s).2 := by unfold Gt.inK; rw [if_pos e]
    have e2 : g.inG s = (g.inn s).1 := by unfold Gt.inG; rw [if_pos e]
    rw [e1, e2]
    exact q
  have Hno : Hid (g.ok = false → g.inK s = -1 ∧ g.inG s = Gt.zero) := fun e => ⟨by unfold Gt.inK; rw [e]; rfl, by unfold Gt.inG; rw [e]; rfl⟩
  have K : Hid (∀ W, Below w.heap.size w W → GtV W x g ∧ Gl es em W) := fun W q => ⟨hG.below q, hE.out.below q⟩
  generalize g.inK s = fl at A3 Hno ⊢
  generalize g.inG s = ga at A3 Hno ⊢
  generalize g.ok = ok at A1 A3 Hno
  have Hcs : Hid (∀ x' : Ga, (g.cells x').size = 14 ∧ (g.cells x').all (·.oneCell') = true) := fun x' => ⟨Gt.cells_size g x', Gt.cells_one g x'⟩
  have Hca : Hid (∀ x' : Ga, (ga.cells x').size = 14 ∧ (ga.cells x').all (·.oneCell') = true) := fun x' => ⟨Gt.cells_size ga x', Gt.cells_one ga x'⟩
  unfold Gt.val at A1 A2 ⊢
  have hcs := Hcs.out x
  generalize g.cells x = cs at A1 A2 hcs ⊢
  have H1 : Hid (cs.size = 14 ∧ cs.all (·.oneCell') = true) := hcs
  have A1' : Hid _ := A1
  have A2' : Hid _ := A2
  clear A1 A2 h hG hB hcs hE
  obtain ⟨A, hA⟩ : ∃ A, A = w.heap.size := ⟨_, rfl⟩
  obtain ⟨W0, hW⟩ : ∃ W, W = ((w.alloc (.cells cs 50)).alloc (.cells #[.string s] 9)).alloc (.cells #[.int .i64 0, .int .i64 0, .int .i64 0, .slice none 0 0, .slice none 0 0, .slice none 0 0, .slice none 0 0, .int .i64 0, .slice none 0 0, .slice none 0 0, .int .i64 0, .slice none 0 0, .int .i64 0, .int .i64 0] 50) := ⟨_, rfl⟩
  have X0 : Hid (Boxed W0 A cs 50 ∧ Boxed W0 (A + 1) #[.string s] 9 ∧ Boxed W0 (A + 1 + 1) #[.int .i64 0, .int .i64 0, .int .i64 0, .slice none 0 0, .slice none 0 0, .slice none 0 0, .slice none 0 0, .int .i64 0, .slice none 0 0, .slice none 0 0, .int .i64 0, .slice none 0 0, .int .i64 0, .int .i64 0] 50 ∧ Below w.heap.size w W0) := by
    rw [hW, hA]
    refine ⟨((Boxed.new w _ _).more _).more _, ?_, ?_, (((Below.refl _ _).alloc (Nat.le_refl _) _).alloc (by simp) _).alloc (by simp; omega) _⟩
    · have := (Boxed.new (w.alloc (.cells cs 50)) #[.string s] 9).more (.cells #[.int .i64 0, .int .i64 0, .int .i64 0, .slice none 0 0, .slice none 0 0, .slice none 0 0, .slice none 0 0, .int .i64 0, .slice none 0 0, .slice none 0 0, .int .i64 0, .slice none 0 0, .int .i64 0, .int .i64 0] 50)
      simpa using this
    · have := Boxed.new ((w.alloc (.cells cs 50)).alloc (.cells #[.string s] 9)) #[.int .i64 0, .int .i64 0, .int .i64 0, .slice none 0 0, .slice none 0 0, .slice none 0 0, .slice none 0 0, .int .i64 0, .slice none 0 0, .slice none 0 0, .int .i64 0, .slice none 0 0, .int .i64 0, .int .i64 0] 50
      simpa using this
  have HW : Hid (W0 = _) := hW
  have HA : Hid (A = w.heap.size) := hA
  clear hW hA
  go_enter Tryz.func14, Tryz.ntmps14
  go_upto_region 1 with fail
  rw [← HW.out, ← HA.out]
  clear HW
  go_wp2_with (refine wpList_load_row rfl 50 (.tmp 2) rfl A rfl _ _ _ _ X0.out.1 Tryz.underlying50 rfl (by rw [H1.out.1]; kernel_rfl) ?_)
  refine (A1'.out _ (K.out _ X0.out.2.2.2).1).mono ?_
  rintro e w1 ⟨rfl, q⟩
  have X1 : Hid (Boxed w1 A cs 50 ∧ Boxed w1 (A + 1) #[.string s] 9 ∧ Boxed w1 (A + 1 + 1) #[.int .i64 0, .int .i64 0, .int .i64 0, .slice none 0 0, .slice none 0 0, .slice none 0 0, .slice none 0 0, .int .i64 0, .slice none 0 0, .slice none 0 0, .int .i64 0, .slice none 0 0, .int .i64 0, .int .i64 0] 50 ∧ Below w.heap.size w w1) := ⟨X0.out.1.below X0.out.1.under q, X0.out.2.1.below X0.out.2.1.under q, X0.out.2.2.1.below X0.out.2.2.1.under q, X0.out.2.2.2.trans (q.mono X0.out.2.2.2.size)⟩
  clear q X0 A1'
  cases ok
  · obtain ⟨e1, e2⟩ := Hno.out rfl
    subst e1
    have E2 : Hid (ga = Gt.zero) := e2
    clear e2
    go_wp2_with (refine wpList_store_row rfl 50 (.tmp 4) (.tmp 11) rfl (A + 1 + 1) #[.int .i64 0, .int .i64 0, .int .i64 0, .slice none 0 0, .slice none 0 0, .slice none 0 0, .slice none 0 0, .int .i64 0, .slice none 0 0, .slice none 0 0, .int .i64 0, .slice none 0 0, .int .i64 0, .int .i64 0] rfl rfl _ _ X1.out.2.2.1 (by kernel_rfl) rfl (by simp [Value.oneCell']) ?_)
    refine bodyPost_ret (results_row_tmp Tryz.results14 _ _ (A + 1 + 1) _ #[.int .i64 0, .int .i64 0, .int .i64 0, .slice none 0 0, .slice none 0 0, .slice none 0 0, .slice none 0 0, .int .i64 0, .slice none 0 0, .slice none 0 0, .int .i64 0, .slice none 0 0, .int .i64 0, .int .i64 0] _ _ (.int .i64 (-1)) rfl rfl (setRow_heap w1 (A + 1 + 1) _ _ _ _ X1.out.2.2.1) Tryz.underlying50 rfl (by kernel_rfl)) rfl ⟨⟨_, rfl, ?_⟩, below_setRow X1.out.2.2.2 (by rw [HA.out]; omega) _⟩
    rw [E2.out]
    exact gtIn_zero _ _ (by simp; have := X1.out.2.2.2.size; omega)
  have A3' : Hid _ := A3.out (by simp)
  clear Hno A3
  go_wp2_with (refine wpList_load_row rfl 50 (.tmp 2) rfl A rfl _ _ _ _ X1.out.1 Tryz.underlying50 rfl (by rw [H1.out.1]; kernel_rfl) ?_)
  refine (A2'.out _ (K.out _ X1.out.2.2.2).1).mono ?_
  rintro e w2 ⟨⟨x', f, vs, rs, rfl, -, gw, fi, fa⟩, q⟩
  have hu1 := X1.out.2.2.1.under
  have X2 : Hid (Boxed w2 (A + 1) #[.string s] 9 ∧ Boxed w2 (A + 1 + 1) #[.int .i64 0, .int .i64 0, .int .i64 0, .slice none 0 0, .slice none 0 0, .slice none 0 0, .slice none 0 0, .int .i64 0, .slice none 0 0, .slice none 0 0, .int .i64 0, .slice none 0 0, .int .i64 0, .int .i64 0] 50 ∧ Below w.heap.size w w2 ∧ A + 3 ≤ w2.heap.size) := ⟨X1.out.2.1.below X1.out.2.1.under q, X1.out.2.2.1.below X1.out.2.2.1.under q, X1.out.2.2.2.trans (q.mono X1.out.2.2.2.size), by have := q.size; omega⟩
  have M2 : Hid (GtW w2 x' f g ∧ f.In (A + 3) w2.heap.size ∧ f.Apart) := ⟨gw, fi.wide (by omega) (Nat.le_refl _), fa⟩
  clear gw fi fa q X1 A2' hu1
  have hc' := Hcs.out x'
  have A4 : Hid _ := fun lo f B S k W h1 => A3'.out lo x' f B S k W h1
  generalize g.cells x' = c' at hc' A4 ⊢
  have H2 : Hid (c'.size = 14 ∧ c'.all (·.oneCell') = true) := hc'
  clear hc' A3' Hcs
  have N : Hid (Boxed (w2.alloc (.cells #[.int .i64 0, .int .i64 0, .int .i64 0, .slice none 0 0, .slice none 0 0, .slice none 0 0, .slice none 0 0, .int .i64 0, .slice none 0 0, .slice none 0 0, .int .i64 0, .slice none 0 0, .int .i64 0, .int .i64 0] 50)) w2.heap.size #[.int .i64 0, .int .i64 0, .int .i64 0, .slice none 0 0, .slice none 0 0, .slice none 0 0, .slice none 0 0, .int .i64 0, .slice none 0 0, .slice none 0 0, .int .i64 0, .slice none 0 0, .int .i64 0, .int .i64 0] 50) := Boxed.new _ _ _
  have bN : Hid (Below w2.heap.size w2 ((w2.alloc (.cells #[.int .i64 0, .int .i64 0, .int .i64 0, .slice none 0 0, .slice none 0 0, .slice none 0 0, .slice none 0 0, .int .i64 0, .slice none 0 0, .slice none 0 0, .int .i64 0, .slice none 0 0, .int .i64 0, .int .i64 0] 50)).setRow w2.heap.size c')) := below_setRow ((Below.refl _ _).alloc (Nat.le_refl _) _) (Nat.le_refl _) _
  have hB3 : Hid (Boxed ((w2.alloc (.cells #[.int .i64 0, .int .i64 0, .int .i64 0, .slice none 0 0, .slice none 0 0, .slice none 0 0, .slice none 0 0, .int .i64 0, .slice none 0 0, .slice none 0 0, .int .i64 0, .slice none 0 0, .int .i64 0, .int .i64 0] 50)).setRow w2.heap.size c') w2.heap.size c' 50) := setRow_heap _ _ _ _ _ _ N.out
  go_upto_region 4 with (refine wpList_store_row rfl 50 (.tmp 6) (.tmp 13) rfl w2.heap.size c' rfl rfl _ _ N.out (by rw [H2.out.1]; kernel_rfl) (by rw [H2.out.1]; rfl) H2.out.2 ?_)
  try simp only [Act.put]
  have X3 : Hid (Boxed ((w2.alloc (.cells #[.int .i64 0, .int .i64 0, .int .i64 0, .slice none 0 0, .slice none 0 0, .slice none 0 0, .slice none 0 0, .int .i64 0, .slice none 0 0, .slice none 0 0, .int .i64 0, .slice none 0 0, .int .i64 0, .int .i64 0] 50)).setRow w2.heap.size c') (A + 1) #[.string s] 9 ∧ Boxed ((w2.alloc (.cells #[.int .i64 0, .int .i64 0, .int .i64 0, .slice none 0 0, .slice none 0 0, .slice none 0 0, .slice none 0 0, .int .i64 0, .slice none 0 0, .slice none 0 0, .int .i64 0, .slice none 0 0, .int .i64 0, .int .i64 0] 50)).setRow w2.heap.size c') (A + 1 + 1) #[.int .i64 0, .int .i64 0, .int .i64 0, .slice none 0 0, .slice none 0 0, .slice none 0 0, .slice none 0 0, .int .i64 0, .slice none 0 0, .slice none 0 0, .int .i64 0, .slice none 0 0, .int .i64 0, .int .i64 0] 50 ∧ Below w.heap.size w ((w2.alloc (.cells #[.int .i64 0, .int .i64 0, .int .i64 0, .slice none 0 0, .slice none 0 0, .slice none 0 0, .slice none 0 0, .int .i64 0, .slice none 0 0, .slice none 0 0, .int .i64 0, .slice none 0 0, .int .i64 0, .int .i64 0] 50)).setRow w2.heap.size c') ∧ A + 3 ≤ w2.heap.size) := ⟨X2.out.1.below X2.out.1.under bN.out, X2.out.2.1.below X2.out.2.1.under bN.out, X2.out.2.2.1.trans (bN.out.mono X2.out.2.2.1.size), X2.out.2.2.2⟩
  have M3 : Hid (GtW ((w2.alloc (.cells #[.int .i64 0, .int .i64 0, .int .i64 0, .slice none 0 0, .slice none 0 0, .slice none 0 0, .slice none 0 0, .int .i64 0, .slice none 0 0, .slice none 0 0, .int .i64 0, .slice none 0 0, .int .i64 0, .int .i64 0] 50)).setRow w2.heap.size c') x' f g ∧ f.In (A + 3) w2.heap.size ∧ f.Apart) := ⟨M2.out.1.below bN.out, M2.out.2⟩
  clear N bN X2 M2
  generalize (w2.alloc (.cells #[.int .i64 0, .int .i64 0, .int .i64 0, .slice none 0 0, .slice none 0 0, .slice none 0 0, .slice none 0 0, .int .i64 0, .slice none 0 0, .slice none 0 0, .int .i64 0, .slice none 0 0, .int .i64 0, .int .i64 0] 50)).setRow w2.heap.size c' = w3 at hB3 X3 M3 ⊢
  generalize w2.heap.size = B at hB3 X3 M3 ⊢
  have b4 : Below w3.heap.size w3 (w3.alloc (.cells #[.int .i64 0] 2)) := (Below.refl _ _).alloc (Nat.le_refl _) _
  have Nb : Boxed (w3.alloc (.cells #[.int .i64 0] 2)) w3.heap.size #[.int .i64 0] 2 := Boxed.new _ _ _
  have bw4 : Below w.heap.size w (w3.alloc (.cells #[.int .i64 0] 2)) := X3.out.2.2.1.trans (b4.mono X3.out.2.2.1.size)
  have CL : Hid (Calls Tryz.prog 35 #[.func (.func 62) #[] #[.pointer (some ⟨B, 0, none⟩), .pointer (some ⟨A + 1, 0, none⟩)]] w3 fun e w' => ∃ a w1, e = .returned (.int .i64 a) ∧ (a = fl ∧ GoneW (A + 3) B ga (w3.alloc (.cells #[.int .i64 0] 2)) w1) ∧ w' = w1.setCell ⟨w3.heap.size, 0, none⟩ (.int .i64 a)) := by
    refine implOrGivenUp _ _ w3 (fun a w1 => a = fl ∧ GoneW (A + 3) B ga (w3.alloc (.cells #[.int .i64 0] 2)) w1) (fun w' => enters_of Tryz.func62 (by kernel_rfl) rfl _ w') ?_
    refine A4.out (A + 3) f B (A + 1) w3.heap.size _ (fun W2 h2 => (K.out W2 ⟨h2.os.trans bw4.os, h2.tape.trans bw4.tape, h2.output.trans bw4.output, Nat.le_trans bw4.size h2.size, fun j hj => (h2.block j (by rw [HA.out]; omega)).trans (bw4.block j hj)⟩).2) (hB3.out.below hB3.out.under b4) ⟨M3.out.1.below b4, M3.out.2.1, M3.out.2.2, X3.out.2.2.2⟩ ((X3.out.1.below X3.out.1.under b4).cell 0 rfl) hB3.out.under (Nb.cell 0 rfl) (Nb.ice 0)
  have hmf : ∀ (fn : Fn) (first cap : Array Value) (w : World), (Instr.makeFunc fn first cap).run Tryz.prog w = .ok (.func fn first cap) w := fun _ _ _ _ => rfl
  have Bs : Hid (B < w3.heap.size) := hB3.out.under
  have X4 : Hid (Boxed (w3.alloc (.cells #[.int .i64 0] 2)) (A + 1 + 1) #[.int .i64 0, .int .i64 0, .int .i64 0, .slice none 0 0, .slice none 0 0, .slice none 0 0, .slice none 0 0, .int .i64 0, .slice none 0 0, .slice none 0 0, .int .i64 0, .slice none 0 0, .int .i64 0, .int .i64 0] 50 ∧ Below w.heap.size w (w3.alloc (.cells #[.int .i64 0] 2)) ∧ A + 3 ≤ B) := ⟨X3.out.2.1.below X3.out.2.1.under b4, bw4, X3.out.2.2.2⟩
  clear A4 b4 Nb bw4 M3 X3 hB3 K
  go_wp2_with fail
  refine CL.out.mono ?_
  rintro e w6 ⟨a, w5, rfl, ⟨ha, gn⟩, hw6⟩
  have ha2 := ha.symm
  subst ha2
  obtain ⟨⟨x7, f7, u1, u2, u3, u4, u7⟩, u5, u6⟩ := gn
  have hsz : w6.heap.size = w5.heap.size := by rw [hw6]; simp [World.setCell]
  have Ne : Hid ((∀ j, j ≠ w3.heap.size → w6.heap[j]? = w5.heap[j]?) ∧ w6.heap.size = w5.heap.size) := ⟨fun j hj => by rw [hw6]; exact Below.heap_setCell _ _ _ _ hj, hsz⟩
  have R6 : Hid (Boxed w6 B (ga.cells x7) 50 ∧ Boxed w6 (A + 1 + 1) #[.int .i64 0, .int .i64 0, .int .i64 0, .slice none 0 0, .slice none 0 0, .slice none 0 0, .slice none 0 0, .int .i64 0, .slice none 0 0, .slice none 0 0, .int .i64 0, .slice none 0 0, .int .i64 0, .int .i64 0] 50 ∧ Below w.heap.size w w6 ∧ A + 3 ≤ B) := by
    have hb := Bs.out
    have x4 := X4.out
    have hA := HA.out
    have e1 : w5.heap[A + 1 + 1]? = (w3.alloc (.cells #[.int .i64 0] 2)).heap[A + 1 + 1]? := u5.block _ (by omega)
    refine ⟨(Ne.out.1 B (by omega)).trans u1, ((Ne.out.1 _ (by omega)).trans e1).trans x4.1, ?_, x4.2.2⟩
    have q : Below w.heap.size w w5 := x4.2.1.trans (u5.mono (by omega))
    have hw3 : w.heap.size ≤ w3.heap.size := by omega
    rw [hw6]
    exact q.setCell hw3 _
  have hx7 := Hca.out x7
  have Fi : Hid (∀ W, (∀ k, A + 3 ≤ k → k ≠ w3.heap.size → W.heap[k]? = w6.heap[k]?) → w6.heap.size ≤ W.heap.size → GtIn w.heap.size W.heap.size W (.agg (ga.cells x7)) ga) := fun W h1 h2 =>
    ⟨x7, f7, rfl, u2.off2 (u7 w3.heap.size Bs.out (by simp)) u3 (Nat.le_refl _) (by have := Ne.out.2; omega) (fun k k1 k2 _ => (h1 k k1 k2).trans (Ne.out.1 k k2)), u3.wide (by rw [HA.out]; omega) (by have := Ne.out.2; omega), u4, Nat.le_refl _⟩
  generalize ga.cells x7 = c7 at hx7 R6 Fi
  have H7 : Hid (c7.size = 14 ∧ c7.all (·.oneCell') = true) := hx7
  clear u1 u2 u3 u4 u5 u6 u7 hx7 hw6 hsz Ne CL X4 Hca
  generalize w3.heap.size = S3 at Fi Bs
  go_wp2_with (first | (refine wpList_load_row rfl 50 (.tmp 6) rfl B rfl _ _ _ _ R6.out.1 Tryz.underlying50 rfl (by rw [H7.out.1]; kernel_rfl) ?_) | (refine wpList_store_row rfl 50 (.tmp 4) (.tmp 16) rfl (A + 1 + 1) c7 rfl rfl _ _ R6.out.2.1 (by rw [H7.out.1]; kernel_rfl) (by rw [H7.out.1]; rfl) H7.out.2 ?_))
  refine bodyPost_ret (results_row_tmp Tryz.results14 _ _ (A + 1 + 1) _ c7 _ _ (.int .i64 fl) rfl rfl (setRow_heap w6 (A + 1 + 1) _ _ _ _ R6.out.2.1) Tryz.underlying50 rfl (by rw [H7.out.1]; kernel_rfl)) rfl ⟨⟨_, rfl, ?_⟩, below_setRow R6.out.2.2.1 (by rw [HA.out]; omega) _⟩
  exact Fi.out _ (fun k k1 _ => setRow_other _ _ _ _ (by omega)) (Nat.le_of_eq (size_setRow _ _ _).symm)
end Go.Proofs.YtgebghkcikmfaaaGreatDoor

/-
  The exact law of In, bound to the program's In. By the verifier.
-/
namespace Go.Proofs.YtgebghkcikmfaaaGreatDoor
open Go.RowKit

theorem fnExactIn_walk {es em : Addr} (g : Gt) (x : Ga) (s : ByteArray) (w : World) (G : Gl es em w) (hl : GtLen g) (h : Hid (GtV w x g)) :
    Calls Tryz.prog 4 #[g.val x, .string s] w fun e w' => e = .returned (.bool true) ∧ Below w.heap.size w w' :=
  fnExactIn_of w (fun g v s w2 hb hB hs h => implInG g v s w2 hB hs (G.below hb) h) g x s hl h
end Go.Proofs.YtgebghkcikmfaaaGreatDoor
