import Derived.Test.YtfkkmjejmflgjaaQ5FwPlain
import Derived.Test.YtfkkmjejmflgjaaQ33IntCp
import Derived.Test.YtfkkmjejmflgjaaQ2SsV
import Derived.Test.YtfkkmjejmflgjaaQ11Quiet
import Derived.BigQuiet
import Derived.Test.YtfkkmjejmflgjaaQ7GtFn
import Derived.Test.YtfkkmjejmflgjaaQ32FwBlk
import Derived.Test.YtfkkmjejmflgjaaQ9StepRow
import Derived.Laws.ResultCell
import Derived.Laws.CopyOwn
/-
  The walks of the laws' sizes and comparisons of lists of records with a list (Flow). By the verifier, by program.
-/
namespace Go.Proofs.Ytfkkmjejmflgjaa
open Go.RowKit

set_option maxHeartbeats 1600000 in
theorem eqFw (r : Fw) (a1 a2 : Option Addr) (c1 c2 : Nat) (w : World) (hT : r.sizes.length ≤ 1048576) (h1 : Hid (IntsAt w a1 r.sizes)) (h2 : Hid (IntsAt w a2 r.sizes)) :
    Calls Try.prog 82 #[r.val a1 c1, r.val a2 c2] w fun e w' => e = .returned (.bool true) ∧ Below w.heap.size w w' := by
  obtain ⟨r0, r1, rl⟩ := r
  simp only [Fw.val] at hT h1 h2 ⊢
  have E := fun w h1 h2 => eqIntsN a1 a2 c1 c2 rl w hT h1 h2
  generalize rl.length = n at E ⊢
  have E' : Hid _ := E
  clear E
  have X : Hid (IntsAt ((w.alloc (.cells #[.int .i64 r0, .int .i64 r1, .slice a1 n c1] 55)).alloc (.cells #[.int .i64 r0, .int .i64 r1, .slice a2 n c2] 55)) a1 rl ∧ IntsAt ((w.alloc (.cells #[.int .i64 r0, .int .i64 r1, .slice a1 n c1] 55)).alloc (.cells #[.int .i64 r0, .int .i64 r1, .slice a2 n c2] 55)) a2 rl ∧ Below w.heap.size w ((w.alloc (.cells #[.int .i64 r0, .int .i64 r1, .slice a1 n c1] 55)).alloc (.cells #[.int .i64 r0, .int .i64 r1, .slice a2 n c2] 55))) := by
    have b0 : Below w.heap.size w ((w.alloc (.cells #[.int .i64 r0, .int .i64 r1, .slice a1 n c1] 55)).alloc (.cells #[.int .i64 r0, .int .i64 r1, .slice a2 n c2] 55)) := ((Below.refl _ _).alloc (Nat.le_refl _) _).alloc (by simp) _
    exact ⟨h1.out.below b0, h2.out.below b0, b0⟩
  clear h1 h2
  go_enter Try.func82, Try.ntmps82
  go_wp2_with fail
  refine (E'.out _ X.out.1 X.out.2.1).mono ?_
  rintro e w1 ⟨rfl, qb⟩
  have X1 : Hid (Below w.heap.size w w1) := X.out.2.2.trans (qb.mono X.out.2.2.size)
  clear qb
  go_wp2
  go_ret
  exact ⟨rfl, X1.out⟩

set_option maxHeartbeats 3200000 in
set_option maxRecDepth 100000 in
theorem eqFws (a1 a2 : Option Addr) (cap1 cap2 : Nat) (ls : List Fw) (w : World) (hT : ls.length ≤ 1048576) (hin : Hid (∀ k, k < ls.length → (fwAt ls k).sizes.length ≤ 1048576)) (h1 : Hid (FwsAt w a1 ls)) (h2 : Hid (FwsAt w a2 ls)) :
    Calls Try.prog 65 #[.slice a1 ls.length cap1, .slice a2 ls.length cap2] w fun e w' => e = .returned (.bool true) ∧ Below w.heap.size w w' := by
  obtain ⟨len, hlen⟩ : ∃ n, ls.length = n := ⟨_, rfl⟩
  rw [hlen] at hT ⊢
  have Hlen : Hid (ls.length = len) := hlen
  clear hlen
  go_enter Try.func65, Try.ntmps65
  go_wp2
  go_loopw [5] (fun i wr => ∃ k : Nat, k ≤ len ∧ i = .int .i64 k ∧ Hid (Below w.heap.size w wr)) (fun i _ => len - (intOf i).toNat)
  case atStart => exact ⟨0, Nat.zero_le _, rfl, Below.refl _ _⟩
  case round =>
    obtain ⟨k, hk, rfl, hb⟩ := hrel
    by_cases hlt : k < len
    · obtain ⟨b1, o1, i1, e1, ha1, hb1, ⟨u0, u1, u2⟩, hr1, -⟩ := (h1.out.below hb.out) k (by rw [Hlen.out]; exact hlt)
      obtain ⟨b2, o2, i2, e2, ha2, hb2, ⟨v0, v1, v2⟩, hr2, -⟩ := (h2.out.below hb.out) k (by rw [Hlen.out]; exact hlt)
      subst ha1; subst ha2
      have hi := hin.out k (by rw [Hlen.out]; exact hlt)
      generalize fwAt ls k = q at u0 v0 u1 v1 u2 v2 hr1 hr2 hi
      obtain ⟨q0, q1, ql⟩ := q
      simp only at u0 v0 u1 v1 u2 v2 hr1 hr2 hi
      have E := fun w h1 h2 => eqFw ⟨q0, q1, ql⟩ i1 i2 e1 e2 w hi h1 h2
      simp only [Fw.val] at E
      generalize ql.length = n at u2 v2 E
      have f0 : ∀ p : BelW wr.heap.size wr, p.w'.cell? ⟨b1, o1 + k * 3, none⟩ = some (.int .i64 q0) := fun p => by rw [p.h.cell (p := ⟨b1, o1 + k * 3, none⟩) hb1]; exact u0
      have f1 : ∀ p : BelW wr.heap.size wr, p.w'.cell? ⟨b1, o1 + k * 3 + 1, none⟩ = some (.int .i64 q1) := fun p => by rw [p.h.cell (p := ⟨b1, o1 + k * 3 + 1, none⟩) hb1]; exact u1
      have f2 : ∀ p : BelW wr.heap.size wr, p.w'.cell? ⟨b1, o1 + k * 3 + 2, none⟩ = some (.slice i1 n e1) := fun p => by rw [p.h.cell (p := ⟨b1, o1 + k * 3 + 2, none⟩) hb1]; exact u2
      have g0 : ∀ p : BelW wr.heap.size wr, p.w'.cell? ⟨b2, o2 + k * 3, none⟩ = some (.int .i64 q0) := fun p => by rw [p.h.cell (p := ⟨b2, o2 + k * 3, none⟩) hb2]; exact v0
      have g1 : ∀ p : BelW wr.heap.size wr, p.w'.cell? ⟨b2, o2 + k * 3 + 1, none⟩ = some (.int .i64 q1) := fun p => by rw [p.h.cell (p := ⟨b2, o2 + k * 3 + 1, none⟩) hb2]; exact v1
      have g2 : ∀ p : BelW wr.heap.size wr, p.w'.cell? ⟨b2, o2 + k * 3 + 2, none⟩ = some (.slice i2 n e2) := fun p => by rw [p.h.cell (p := ⟨b2, o2 + k * 3 + 2, none⟩) hb2]; exact v2
      have t1 : Hid (∀ p : BelW wr.heap.size wr, IntsAt p.w' i1 ql) := fun p => hr1.below p.h
      have t2 : Hid (∀ p : BelW wr.heap.size wr, IntsAt p.w' i2 ql) := fun p => hr2.below p.h
      have E' : Hid _ := E
      clear u0 v0 u1 v1 u2 v2 hr1 hr2 E
      have hlt' : (k : Int) < (len : Int) := by omega
      go_wp2
      haveI : Nonempty (BelW wr.heap.size wr) := ⟨⟨wr, Below.refl _ _⟩⟩
      refine region_below wr.heap.size (by kernel_rfl) (by kernel_rfl) ?_
      repeat (go_big_quiet_step ((go_at_call 82; refine quiet_below (Nat.le_refl _) (E'.out _ (t1.out _) (t2.out _)))))
      refine wpQuiet_nil ?_
      intro wq hx
      have hq := BelW.out hx
      have B : Hid (Below w.heap.size w wq) := hb.out.trans (hq.mono hb.out.size)
      clear hx hq f0 g0 f1 g1 f2 g2 t1 t2
      go_wp2
      go_roundw
      case rel => exact ⟨k + 1, by omega, by go_num, B⟩
      case measure => simp [intOf]; omega
    · go_wp2
      go_ret
      exact ⟨rfl, hb.out⟩
end Go.Proofs.Ytfkkmjejmflgjaa

/-
  What the laws do to see whose memory lists of records with a list (Flow) are: numbers put into them and looked for again. By the verifier, by program.
-/
namespace Go.Proofs.Ytfkkmjejmflgjaa
open Go.RowKit

/-- The one at a place with its numbers, which begin at s in the first one. -/
def fwMk (s : Int) (l : List Fw) (i : Nat) : Fw := ⟨s + 2 * (i : Int) + (fwSum l i : Int), s + 2 * (i : Int) + (fwSum l i : Int) + 1, mks (s + 2 * (i : Int) + (fwSum l i : Int) + 2) (fwAt l i).sizes (fwAt l i).sizes.length⟩
/-- The first j of them with their numbers. -/
def fwMks (s : Int) (l : List Fw) (j : Nat) : List Fw := (List.range l.length).map fun i => if i < j then fwMk s l i else fwAt l i
theorem fwMks_length (s : Int) (l : List Fw) (j : Nat) : (fwMks s l j).length = l.length := by simp [fwMks]
theorem fwMks_at (s : Int) (l : List Fw) (j : Nat) {i : Nat} (hi : i < l.length) : fwAt (fwMks s l j) i = if i < j then fwMk s l i else fwAt l i := by
  simp [fwAt, fwMks, hi]
theorem fwMk_length (s : Int) (l : List Fw) (i : Nat) : (fwMk s l i).sizes.length = (fwAt l i).sizes.length := mks_length _ _ _ (Nat.le_refl _)
theorem fwMks_zero (s : Int) (l : List Fw) : fwMks s l 0 = l := by
  apply List.ext_getElem
  · simp [fwMks]
  · intro i h1 h2
    simp [fwMks, fwAt, List.getElem?_eq_getElem h2]
theorem fwMks_next (s : Int) (l : List Fw) {j : Nat} (hj : j < l.length) : (fwMks s l j).set j (fwMk s l j) = fwMks s l (j + 1) := by
  apply List.ext_getElem?
  intro i
  by_cases hi : i < l.length
  · by_cases e : i = j
    · subst e
      rw [List.getElem?_set_self (by rw [fwMks_length]; exact hi)]
      simp [fwMks, hi]
    · rw [List.getElem?_set_ne (fun h => e h.symm)]
      simp only [fwMks, List.getElem?_map, List.getElem?_range hi, Option.map_some]
      by_cases hlt : i < j
      · rw [if_pos hlt, if_pos (by omega)]
      · rw [if_neg hlt, if_neg (by omega)]
  · rw [List.getElem?_eq_none (by rw [List.length_set, fwMks_length]; omega), List.getElem?_eq_none (by rw [fwMks_length]; omega)]
set_option maxHeartbeats 3200000 in
set_option maxRecDepth 100000 in
theorem markFws (s : Int) (s0 : 0 ≤ s) (s1 : s ≤ 549755813888) (b t : Nat) (v : Value) (l : List Fw) (hT : l.length ≤ 1048576) (hS : fwSum l l.length ≤ 1048576) (w : World) (H : Hid (FwsIn b t w v l)) :
    Calls Try.prog 68 #[v, .int .i64 s] w fun e w' => e = .returned (.int .i64 (s + 2 * (l.length : Int) + (fwSum l l.length : Int))) ∧ FwsIn b t w' v (fwMks s l l.length) ∧ Turn (fun k _ => b ≤ k ∧ k < t) w w' := by
  obtain ⟨rs, H0⟩ := H.out
  clear H
  obtain ⟨a, cap, rfl⟩ := H0.outer.shape
  obtain ⟨len, hlen⟩ : ∃ n, l.length = n := ⟨_, rfl⟩
  rw [hlen] at hT hS ⊢
  have Hlen : Hid (l.length = len) := hlen
  have H : Hid (FwV b t w (.slice a len cap) rs l) := by rw [← hlen]; exact H0
  clear hlen H0
  go_enter Try.func68, Try.ntmps68
  go_wp2
  go_loopw [1, 5] (fun kk i wr => ∃ (j : Nat) (kv : Int), j ≤ len ∧ i = .int .i64 j ∧ kk = .int .i64 kv ∧ Hid (kv = s + 2 * (j : Int) + (fwSum l j : Int)) ∧ Hid (∃ rs, FwV b t wr (.slice a len cap) rs (fwMks s l j) ∧ Turn (fun k _ => b ≤ k ∧ k < t) w wr)) (fun _ i _ => len - (intOf i).toNat)
  case atStart => exact ⟨0, s, Nat.zero_le _, rfl, rfl, by show s = s + 2 * ((0 : Nat) : Int) + ((fwSum l 0 : Nat) : Int); rw [fwSum_zero]; simp, rs, by rw [fwMks_zero]; exact H.out, Turn.refl _ _⟩
  case round =>
    clear H
    obtain ⟨j, kv, hj, rfl, rfl, Hkv, H2⟩ := hrel
    obtain ⟨rs, H2⟩ : ∃ rs, Hid (FwV b t wr (.slice a len cap) rs (fwMks s l j) ∧ Turn (fun k _ => b ≤ k ∧ k < t) w wr) := H2.out
    by_cases hlt : j < len
    · have hjl : j < l.length := by rw [Hlen.out]; exact hlt
      have hml := fwMks_length s l j
      have hrl : rs.length = len := by rw [H2.out.1.len, hml, Hlen.out]
      have hcl := fwcells_length rs
      have hout : SlIn b t wr (.slice a len cap) len (fwcells rs) := by
        have := H2.out.1.outer
        rw [hml, Hlen.out] at this
        exact this
      obtain ⟨x, off, ha, h1, h2, h3⟩ := SlIn.some hout (by intro e; rw [e] at hcl; simp at hcl; omega)
      subst ha
      have hs := fwSum_succ hjl
      have hm := fwSum_mono (l := l) (i := j + 1) (j := len) (by omega) (by rw [Hlen.out]; exact Nat.le_refl _)
      have k0 : 0 ≤ kv := by have := Hkv.out; omega
      have k1 : kv ≤ 1099511000000 := by have := Hkv.out; omega
      have em : fwAt (fwMks s l j) j = fwAt l j := by rw [fwMks_at s l j hjl, if_neg (by omega)]
      obtain ⟨i1, e1, ev, -⟩ := H2.out.1.cap j (by rw [hml]; exact hjl)
      rw [em] at ev
      -- the numbers
      have hput := hout
      have hput := SlIn.put hput (j * 3) (by omega) (.int .i64 (kv))
      have hput := SlIn.put hput (j * 3 + 1) (by simp only [List.length_set]; omega) (.int .i64 (kv + 1))
      have hset := fwcells_set rs j ⟨kv, kv + 1, (fwrAt rs j).hd⟩
      simp only at hset
      have hlast : ∀ (L : List Value), L[j * 3 + 2]? = some (fwrAt rs j).hd → L.set (j * 3 + 2) (fwrAt rs j).hd = L := fun L hL => by
        obtain ⟨hb, e⟩ := List.getElem?_eq_some_iff.1 hL
        apply List.ext_getElem?
        intro i
        by_cases e1 : i = j * 3 + 2
        · subst e1; rw [List.getElem?_set_self hb, hL]
        · rw [List.getElem?_set_ne (fun h => e1 h.symm)]
      have hgl := (fwcells_get rs j (by omega)).2.2
      rw [hlast _ (by rw [List.getElem?_set_ne (by omega), List.getElem?_set_ne (by omega)]; exact hgl)] at hset
      rw [hset] at hput
      have z0 := (SlIn.cells hout (j * 3) (by omega)).2
      have y0 := (SlIn.cells hout (j * 3) (by omega)).1
      have z1 := (SlIn.cells hout (j * 3 + 1) (by omega)).2
      have y1 := (SlIn.cells hout (j * 3 + 1) (by omega)).1
      have yh := (SlIn.cells hout (j * 3 + 2) (by omega)).1
      rw [hgl, Option.getD_some, ev] at yh
      simp only [← Nat.add_assoc] at hput yh z0 y0 z1 y1
      generalize hW1 : ((wr.setCell ⟨x, off + j * 3, none⟩ (.int .i64 (kv))).setCell ⟨x, off + j * 3 + 1, none⟩ (.int .i64 (kv + 1))) = w1 at hput
      have tn : Turn (Hits (.slice (some ⟨x, off, none⟩) len cap) (len * 3)) wr w1 := by
        rw [← hW1]
        refine (Turn.trans ((turn_set _ _ _ _).wide ?_) ((turn_set _ _ _ _).wide ?_))
        all_goals (rintro k o ⟨rfl, rfl⟩; exact ⟨off, len, cap, rfl, by omega, by omega⟩)
      have V1 : FwV b t w1 (.slice (some ⟨x, off, none⟩) len cap) (rs.set j ⟨kv, kv + 1, (fwrAt rs j).hd⟩) ((fwMks s l j).set j ⟨kv, kv + 1, (fwAt l j).sizes⟩) := by
        refine H2.out.1.nums (r' := ⟨kv, kv + 1, (fwAt l j).sizes⟩) (by rw [hml]; exact hjl) (by rw [em]) (by rw [hml, Hlen.out]; exact hput) (by rw [hml, Hlen.out]; exact tn)
      have hrow := V1.row j (by rw [List.length_set, hml]; exact hjl)
      rw [fwrAt_set (by omega), fwAt_set (by rw [hml]; exact hjl)] at hrow
      simp only at hrow
      have C1 := markIntsG (kv + 1 + 1) (by omega) (by omega) b t (fwrAt rs j).hd (fwAt l j).sizes (by omega) w1 hrow
      have St : Hid (∀ w', IntIn b t w' (fwrAt rs j).hd (mks (kv + 1 + 1) (fwAt l j).sizes (fwAt l j).sizes.length) → Turn (Hits (fwrAt rs j).hd (fwAt l j).sizes.length) w1 w' → ∃ rs, FwV b t w' (.slice (some ⟨x, off, none⟩) len cap) rs (fwMks s l (j + 1)) ∧ Turn (fun k _ => b ≤ k ∧ k < t) w w') := fun w' q1 q2 => by
        have hin := fun k o hh => SlIn.in hrow (k := k) (o := o) (by simpa using hh)
        have hin1 := fun k o hh => SlIn.in hout (k := k) (o := o) (by rw [hcl, hrl]; exact hh)
        refine ⟨rs.set j ⟨kv, kv + 1, (fwrAt rs j).hd⟩, ?_, H2.out.2.trans ((tn.wide hin1).trans (q2.wide hin))⟩
        have V2 := V1.list (j := j) (r' := ⟨kv, kv + 1, mks (kv + 1 + 1) (fwAt l j).sizes (fwAt l j).sizes.length⟩) (by rw [List.length_set, hml]; exact hjl) (by rw [fwAt_set (by rw [hml]; exact hjl)]) (by rw [fwAt_set (by rw [hml]; exact hjl)]) (by rw [fwAt_set (by rw [hml]; exact hjl)]; exact mks_length _ _ _ (Nat.le_refl _)) (by rw [fwrAt_set (by omega)]; exact q1) (by rw [fwrAt_set (by omega), fwAt_set (by rw [hml]; exact hjl)]; exact q2)
        rw [List.set_set] at V2
        have e : (⟨kv, kv + 1, mks (kv + 1 + 1) (fwAt l j).sizes (fwAt l j).sizes.length⟩ : Fw) = fwMk s l j := by
          unfold fwMk
          have := Hkv.out
          rw [show kv + 1 + 1 = s + 2 * (j : Int) + (fwSum l j : Int) + 2 by omega, show kv + 1 = s + 2 * (j : Int) + (fwSum l j : Int) + 1 by omega, show kv = s + 2 * (j : Int) + (fwSum l j : Int) by omega]
        rw [e, fwMks_next s l hjl] at V2
        exact V2
      have Hs : Hid (fwSum l (j + 1) = fwSum l j + (fwAt l j).sizes.length) := hs
      rw [ev] at C1 St
      have yh1 : (((wr.setCell ⟨x, off + j * 3, none⟩ (.int .i64 (kv))).setCell ⟨x, off + j * 3 + 1, none⟩ (.int .i64 (kv + 1)))).cell? ⟨x, off + j * 3 + 2, none⟩ = some (.slice i1 (fwAt l j).sizes.length e1) := by
        rw [World.cell?_setCell_other _ _ _ _ (by simp <;> omega), World.cell?_setCell_other _ _ _ _ (by simp <;> omega)]
        exact yh
      generalize mks (kv + 1 + 1) (fwAt l j).sizes (fwAt l j).sizes.length = ml at C1 St
      generalize (fwAt l j).sizes.length = n at C1 St Hs yh1 yh ev hs
      generalize (fwcells rs)[j * 3]?.getD undef = u0 at y0
      generalize (fwcells rs)[j * 3 + 1]?.getD undef = u1 at y1
      have HW1 : Hid (_ = w1) := hW1
      have hsz : w1.heap.size = wr.heap.size := by rw [← hW1]; simp [World.setCell]
      clear hrow hm hout hput hset hlast hgl hcl V1 tn em yh ev hs hsz hW1 h1 h2 h3
      have hlt' : (j : Int) < (len : Int) := by omega
      go_wp2_with fail
      rw [HW1.out]
      refine C1.mono ?_
      rintro e w2 ⟨rfl, q1, q2⟩
      have H3 : Hid (∃ rs, FwV b t w2 (.slice (some ⟨x, off, none⟩) len cap) rs (fwMks s l (j + 1)) ∧ Turn (fun k _ => b ≤ k ∧ k < t) w w2) := St.out w2 q1 q2
      clear q1 q2 yh1 St C1 HW1 z0 y0 z1 y1
      go_wp2
      go_roundw
      case rel =>
        refine ⟨j + 1, _, by omega, by go_num, rfl, ?_, H3⟩
        show _ = s + 2 * ((j + 1 : Nat) : Int) + ((fwSum l (j + 1) : Nat) : Int)
        rw [Hs.out, Hkv.out]
        push_cast
        omega
      case measure => simp [intOf]; omega
    · obtain rfl : j = len := by omega
      go_wp2
      go_ret
      exact ⟨by rw [← Hkv.out]; rfl, ⟨rs, H2.out.1⟩, H2.out.2⟩

set_option maxHeartbeats 3200000 in
set_option maxRecDepth 100000 in
theorem heldFws (s : Int) (s0 : 0 ≤ s) (s1 : s ≤ 549755813888) (a : Option Addr) (cap : Nat) (l : List Fw) (hT : l.length ≤ 1048576) (hS : fwSum l l.length ≤ 1048576) (w : World) (H : Hid (FwsAt w a (fwMks s l l.length))) :
    Calls Try.prog 70 #[.slice a l.length cap, .int .i64 s] w fun e w' => e = .returned (.int .i64 (s + 2 * (l.length : Int) + (fwSum l l.length : Int))) ∧ w' = w := by
  obtain ⟨len, hlen⟩ : ∃ n, l.length = n := ⟨_, rfl⟩
  rw [hlen] at hT hS H ⊢
  have Hlen : Hid (l.length = len) := hlen
  clear hlen
  go_enter Try.func70, Try.ntmps70
  go_wp2
  go_loop [1, 5] (fun kk i => ∃ (j : Nat) (kv : Int), j ≤ len ∧ i = .int .i64 j ∧ kk = .int .i64 kv ∧ Hid (kv = s + 2 * (j : Int) + (fwSum l j : Int))) (fun _ i => len - (intOf i).toNat)
  case atStart => exact ⟨0, s, Nat.zero_le _, rfl, rfl, by show s = s + 2 * ((0 : Nat) : Int) + ((fwSum l 0 : Nat) : Int); rw [fwSum_zero]; simp⟩
  case round =>
    obtain ⟨j, kv, hj, rfl, rfl, Hkv⟩ := hrel
    by_cases hlt : j < len
    · have hjl : j < l.length := by rw [Hlen.out]; exact hlt
      obtain ⟨x, off, i1, e1, ha, hb, ⟨c0, c1, c2⟩, hr, -⟩ := H.out j (by rw [fwMks_length]; exact hjl)
      subst ha
      rw [fwMks_at s l _ hjl, if_pos hlt] at c0 c1 c2 hr
      have hs := fwSum_succ hjl
      have hm := fwSum_mono (l := l) (i := j + 1) (j := len) (by omega) (by rw [Hlen.out]; exact Nat.le_refl _)
      have k0 : 0 ≤ kv := by have := Hkv.out; omega
      have k1 : kv ≤ 1099511000000 := by have := Hkv.out; omega
      have hkv := Hkv.out
      rw [fwMk_length] at c2
      unfold fwMk at c0 c1 hr
      simp only at c0 c1 hr
      rw [show s + 2 * (j : Int) + (fwSum l j : Int) + 2 = kv + 1 + 1 by omega] at hr
      rw [show s + 2 * (j : Int) + (fwSum l j : Int) = kv by omega] at c0
      rw [show s + 2 * (j : Int) + (fwSum l j : Int) + 1 = kv + 1 by omega] at c1
      clear hkv
      have C1 := heldIntsF (kv + 1 + 1) (by omega) (by omega) i1 e1 (fwAt l j).sizes (by omega) w hr
      have Hs : Hid (fwSum l (j + 1) = fwSum l j + (fwAt l j).sizes.length) := hs
      generalize (fwAt l j).sizes.length = n at C1 Hs c2 hs
      have k2 : ¬ kv + 1 + 1 + (n : Int) < 0 := by omega
      clear hr hm hs
      have hlt' : (j : Int) < (len : Int) := by omega
      go_wp2_with fail
      refine C1.mono ?_
      rintro e w2 ⟨rfl, hw⟩
      have hw := hw.symm
      subst hw
      generalize hkn : kv + 1 + 1 + (n : Int) = kn at k2 ⊢
      have Hkn : Hid (kn = kv + 1 + 1 + (n : Int)) := hkn.symm
      clear hkn
      go_wp2
      go_round
      case rel =>
        refine ⟨j + 1, _, by omega, by go_num, rfl, ?_⟩
        show _ = s + 2 * ((j + 1 : Nat) : Int) + ((fwSum l (j + 1) : Nat) : Int)
        rw [Hs.out, Hkn.out, Hkv.out]
        push_cast
        omega
      case measure => simp [intOf]; omega
    · obtain rfl : j = len := by omega
      go_wp2
      go_ret
      exact ⟨by rw [← Hkv.out]; rfl, rfl⟩
end Go.Proofs.Ytfkkmjejmflgjaa

/-
  A record of a number and a list (Fairness): the laws' copies, sizes, comparisons, marks. By the verifier, by program.
-/
namespace Go.Proofs.Ytfkkmjejmflgjaa
open Go.RowKit

/-- With its numbers put in. -/
def Fs.mk' (s : Int) (r : Fs) : Fs := ⟨r.now, fwMks s r.flows r.flows.length⟩
set_option maxHeartbeats 1600000 in
theorem eqFss (v1 v2 : Value) (r : Fs) (w : World) (hB : r.big ≤ 1048576) (h1 : Hid (FsAt w v1 r)) (h2 : Hid (FsAt w v2 r)) :
    Calls Try.prog 31 #[v1, v2] w fun e w' => e = .returned (.bool true) ∧ Below w.heap.size w w' := by
  obtain ⟨a1, c1, rfl, k1⟩ := h1.out
  obtain ⟨a2, c2, rfl, k2⟩ := h2.out
  obtain ⟨hT, -, hin⟩ := Fs.small hB
  have E := fun w h1 h2 => eqFws a1 a2 c1 c2 r.flows w hT hin h1 h2
  clear h1 h2 hin hT hB
  obtain ⟨f, l⟩ := r
  simp only [Fs.val] at E k1 k2 ⊢
  generalize l.length = n at E ⊢
  have E' : Hid _ := E
  clear E
  have X : Hid (FwsAt ((w.alloc (.cells #[.int .i64 f, .slice a1 n c1] 37)).alloc (.cells #[.int .i64 f, .slice a2 n c2] 37)) a1 l ∧ FwsAt ((w.alloc (.cells #[.int .i64 f, .slice a1 n c1] 37)).alloc (.cells #[.int .i64 f, .slice a2 n c2] 37)) a2 l ∧ Below w.heap.size w ((w.alloc (.cells #[.int .i64 f, .slice a1 n c1] 37)).alloc (.cells #[.int .i64 f, .slice a2 n c2] 37))) :=
    ⟨(k1.alloc _).alloc _, (k2.alloc _).alloc _, ((Below.refl _ _).alloc (Nat.le_refl _) _).alloc (by simp) _⟩
  clear k1 k2
  go_enter Try.func31, Try.ntmps31
  go_wp2_with fail
  refine (E'.out _ X.out.1 X.out.2.1).mono ?_
  rintro e w1 ⟨rfl, q⟩
  have X1 : Hid (Below w.heap.size w w1) := X.out.2.2.trans (q.mono X.out.2.2.size)
  clear q
  go_wp2
  go_ret
  exact ⟨rfl, X1.out⟩

set_option maxHeartbeats 1600000 in
theorem markFss (s : Int) (s0 : 0 ≤ s) (s1 : s ≤ 549755813888) (b t : Nat) (v : Value) (r : Fs) (w : World) (hB : r.big ≤ 1048576) (H : Hid (FsIn b t w v r)) :
    Calls Try.prog 37 #[v, .int .i64 s] w fun e w' => e = .returned (.int .i64 (s + 2 * (r.flows.length : Int) + (fwSum r.flows r.flows.length : Int))) ∧ FsIn b t w' v (r.mk' s) ∧ Span b t w w' := by
  obtain ⟨a, c, rfl, K⟩ := H.out
  clear H
  obtain ⟨hT, hS, -⟩ := Fs.small hB
  have C := fun w h => markFws s s0 s1 b t (.slice a r.flows.length c) r.flows hT hS w h
  have Fin : Hid (∀ w', FwsIn b t w' (.slice a r.flows.length c) (fwMks s r.flows r.flows.length) → FsIn b t w' (r.val a c) (r.mk' s)) := fun w' h => ⟨a, c, by simp [Fs.val, Fs.mk', fwMks_length], by simp only [Fs.mk', fwMks_length]; exact h⟩
  generalize r.mk' s = r' at Fin ⊢
  generalize s + 2 * (r.flows.length : Int) + (fwSum r.flows r.flows.length : Int) = N at C ⊢
  obtain ⟨f, l⟩ := r
  simp only [Fs.val] at C Fin K ⊢
  generalize fwMks s l l.length = l' at C Fin
  generalize l.length = n at C Fin K ⊢
  have C' : Hid _ := C
  have X : Hid (FwsIn b t (w.alloc (.cells #[.int .i64 f, .slice a n c] 37)) (.slice a n c) l ∧ Below w.heap.size w (w.alloc (.cells #[.int .i64 f, .slice a n c] 37))) := ⟨K.below ((Below.refl _ _).alloc (Nat.le_refl _) _), (Below.refl _ _).alloc (Nat.le_refl _) _⟩
  clear C K hT hS hB
  go_enter Try.func37, Try.ntmps37
  go_wp2_with fail
  refine (C'.out _ X.out.1).mono ?_
  rintro e w1 ⟨rfl, q1, q2⟩
  have X1 : Hid (FsIn b t w1 (.agg #[.int .i64 f, .slice a n c]) r' ∧ Span b t w w1) := ⟨Fin.out _ q1, (Span.of_below X.out.2).trans (Span.of_turn q2 fun k o h => h)⟩
  clear q1 q2 X Fin C'
  go_wp2
  go_ret
  exact ⟨rfl, X1.out⟩

set_option maxHeartbeats 1600000 in
theorem heldFss (s : Int) (s0 : 0 ≤ s) (s1 : s ≤ 549755813888) (v : Value) (r : Fs) (w : World) (hB : r.big ≤ 1048576) (H : Hid (FsAt w v (r.mk' s))) :
    Calls Try.prog 44 #[v, .int .i64 s] w fun e w' => e = .returned (.int .i64 (s + 2 * (r.flows.length : Int) + (fwSum r.flows r.flows.length : Int))) ∧ Below w.heap.size w w' := by
  obtain ⟨a, c, rfl, K⟩ := H.out
  obtain ⟨hT, hS, -⟩ := Fs.small hB
  have C := fun w h => heldFws s s0 s1 a c r.flows hT hS w h
  have h0 : ¬ s + 2 * (r.flows.length : Int) + (fwSum r.flows r.flows.length : Int) < 0 := by omega
  have hlen : (r.mk' s).flows.length = r.flows.length := by simp [Fs.mk', fwMks_length]
  unfold Fs.val
  rw [hlen]
  have Hx : FwsAt w a (fwMks s r.flows r.flows.length) := K
  have hf : (r.mk' s).now = r.now := rfl
  rw [hf]
  clear H K hlen hf
  generalize fwMks s r.flows r.flows.length = l' at C Hx
  generalize hN : s + 2 * (r.flows.length : Int) + (fwSum r.flows r.flows.length : Int) = N at C h0 ⊢
  generalize r.flows.length = n at C ⊢
  generalize r.now = f
  have C' : Hid _ := C
  have X : Hid (FwsAt (w.alloc (.cells #[.int .i64 f, .slice a n c] 37)) a l' ∧ Below w.heap.size w (w.alloc (.cells #[.int .i64 f, .slice a n c] 37))) := ⟨Hx.alloc _, (Below.refl _ _).alloc (Nat.le_refl _) _⟩
  clear C Hx hT hS hB hN
  go_enter Try.func44, Try.ntmps44
  go_wp2_with fail
  refine (C'.out _ X.out.1).mono ?_
  rintro e w1 ⟨rfl, rfl⟩
  go_wp2
  go_ret
  exact ⟨rfl, X.out.2⟩
end Go.Proofs.Ytfkkmjejmflgjaa
