import Derived.Test.YtkocbfikcjgigaaGreatM3DzPlain
import Derived.Test.YtkocbfikcjgigaaGreatM4DzGrow
import Derived.Test.YtkocbfikcjgigaaGreatM18DuIns
import Derived.Test.YtkocbfikcjgigaaGreatM1DuFn
import Derived.Test.YtkocbfikcjgigaaGreatM6WhCopyS
import Derived.Laws.ResultCell
import Derived.Laws.CopyOwn
/-
  A list of lists of records (Due) that is laid list by list, each in a block of its own. By the verifier, by program.
-/
namespace Go.Proofs.YtkocbfikcjgigaaGreat
open Go.RowKit

/-- So many of the lists laid already, each in a block of its own behind the list of headers (block G). -/
structure DzB (ls : List (List Du)) (len G k : Nat) (vs : List Value) (wr : World) : Prop where
  outer : wr.ownsRow G 24 1 (.slice (some ⟨G, 0, none⟩) len len) len (vs ++ List.replicate (len - k) (.slice none 0 0))
  len : vs.length = k
  row : ∀ i, i < k → DuRow G wr (dzV vs i) (dzAt ls i)
  hdr : ∀ i, i < k → ∃ g, dzV vs i = .slice (some ⟨g, 0, none⟩) (dzAt ls i).length (dzAt ls i).length ∧ G < g ∧ g < wr.heap.size
  apart : ∀ i j, i < k → j < k → i ≠ j → (dzV vs i).ownBlock ≠ (dzV vs j).ownBlock
section
variable {ls : List (List Du)} {len G k : Nat} {vs : List Value} {wr wd : World}
theorem DzB.below (h : DzB ls len G k vs wr) (g : Below wr.heap.size wr wd) : DzB ls len G k vs wd := by
  refine ⟨?_, h.len, fun i hi => (h.row i hi).carry fun x _ hx => g.block x hx, fun i hi => ?_, h.apart⟩
  · have hh := h.outer
    refine ⟨hh.1, hh.2.imp id ?_⟩
    rintro ⟨g0, cp, cur, h1, h2, h3, h4⟩
    exact ⟨g0, cp, cur, h1, h2, by rw [g.block g0 (Array.getElem?_eq_some_iff.1 h3).1]; exact h3, h4⟩
  · obtain ⟨x, e, h1, h2⟩ := h.hdr i hi
    exact ⟨x, e, h1, Nat.lt_of_lt_of_le h2 g.size⟩
theorem DzB.add (h : DzB ls len G k vs wr) (hk : k < len) (g : Below wr.heap.size wr wd) {x : Nat} (hx : DuRow wr.heap.size wd (.slice (some ⟨x, 0, none⟩) (dzAt ls k).length (dzAt ls k).length) (dzAt ls k)) :
    DzB ls len G (k + 1) (vs ++ [.slice (some ⟨x, 0, none⟩) (dzAt ls k).length (dzAt ls k).length]) (wd.setCell ⟨G, k, none⟩ (.slice (some ⟨x, 0, none⟩) (dzAt ls k).length (dzAt ls k).length)) := by
  have hb := h.below g
  have hG : G < wr.heap.size := (World.ownsRow.lt h.outer G rfl).2
  obtain ⟨x1, x2⟩ := hx.lt x rfl
  have hl := h.len
  have oth : ∀ y, y ≠ G → (wd.setCell ⟨G, k, none⟩ (.slice (some ⟨x, 0, none⟩) (dzAt ls k).length (dzAt ls k).length)).heap[y]? = wd.heap[y]? := fun y hy => Below.heap_setCell _ _ _ _ hy
  have sz : (wd.setCell ⟨G, k, none⟩ (.slice (some ⟨x, 0, none⟩) (dzAt ls k).length (dzAt ls k).length)).heap.size = wd.heap.size := by simp [World.setCell]
  refine ⟨?_, by simp [hl], fun i hi => ?_, fun i hi => ?_, fun i j hi hj hne => ?_⟩
  · have := (hb.outer.stored k (.slice (some ⟨x, 0, none⟩) (dzAt ls k).length (dzAt ls k).length)).1
    have e : (vs ++ List.replicate (len - k) (Value.slice none 0 0)).set k (.slice (some ⟨x, 0, none⟩) (dzAt ls k).length (dzAt ls k).length) = (vs ++ [.slice (some ⟨x, 0, none⟩) (dzAt ls k).length (dzAt ls k).length]) ++ List.replicate (len - (k + 1)) (.slice none 0 0) := by
      obtain ⟨m, hm⟩ : ∃ m, len - k = m + 1 := ⟨len - k - 1, by omega⟩
      rw [hm, show len - (k + 1) = m by omega, List.replicate_succ, List.set_append_right _ _ (by omega), hl, Nat.sub_self, List.set_cons_zero]
      simp
    rw [e] at this
    exact this
  · by_cases e : i = k
    · subst e
      rw [← hl, dzV_new, hl]
      exact (hx.carry fun y hy _ => oth y (by cases hy; show x ≠ G; omega)).mono (by omega)
    · rw [dzV_old (by omega)]
      refine (hb.row i (by omega)).carry fun y hy _ => oth y ?_
      obtain ⟨z, e1, e2, _⟩ := h.hdr i (by omega)
      rw [e1] at hy
      cases hy
      show z ≠ G
      omega
  · by_cases e : i = k
    · subst e
      rw [← hl, dzV_new, hl]
      exact ⟨x, rfl, by omega, by rw [sz]; exact x2⟩
    · rw [dzV_old (by omega)]
      obtain ⟨z, e1, e2, e3⟩ := hb.hdr i (by omega)
      exact ⟨z, e1, e2, by rw [sz]; exact e3⟩
  · have old : ∀ i, i < k → (dzV (vs ++ [.slice (some ⟨x, 0, none⟩) (dzAt ls k).length (dzAt ls k).length]) i).ownBlock ≠ some x := by
      intro i hi
      rw [dzV_old (by omega)]
      obtain ⟨z, e1, _, e3⟩ := h.hdr i hi
      rw [e1]
      show some z ≠ some x
      intro e
      cases e
      omega
    have new : (dzV (vs ++ [.slice (some ⟨x, 0, none⟩) (dzAt ls k).length (dzAt ls k).length]) k).ownBlock = some x := by
      rw [← hl, dzV_new]
      rfl
    by_cases ei : i = k
    · subst ei
      rw [new]
      exact fun e => old j (by omega) e.symm
    · by_cases ej : j = k
      · subst ej
        rw [new]
        exact old i (by omega)
      · rw [dzV_old (by omega), dzV_old (by omega)]
        exact h.apart i j (by omega) (by omega) hne
theorem DzB.done (h : DzB ls len G len vs wr) (hl : ls.length = len) : DzV G wr.heap.size wr (.slice (some ⟨G, 0, none⟩) len len) vs ls := by
  subst hl
  have ho := h.outer
  rw [Nat.sub_self, List.replicate_zero, List.append_nil] at ho
  refine ⟨SlIn.of_row ho (fun k hk => (World.ownsRow.lt ho k hk).2) (Nat.le_refl _), h.len, fun i hi => DuIn.of_row (h.row i hi) (fun k hk => ((h.row i hi).lt k hk).2) (Nat.le_refl _), fun i hi => ?_, fun i j k o hi hj hne h1 h2 => ?_, fun i k o hi h1 h2 => ?_⟩
  · obtain ⟨g, e, _⟩ := h.hdr i hi
    exact ⟨_, _, e, Nat.le_refl _, fun h => by cases h⟩
  · exact h.apart i j hi hj hne ((dzOwn h1).trans (dzOwn h2).symm)
  · obtain ⟨g, e, h3, _⟩ := h.hdr i hi
    have e1 := dzOwn h1
    have e2 := dzOwn h2
    rw [e] at e1
    cases e1
    cases e2
    omega
end
theorem dzMade (n : Nat) : (madeCells #[Value.slice none 0 0] (n * 1)).toList = List.replicate n (.slice none 0 0) := by
  apply List.ext_getElem?
  intro i
  by_cases hi : i < n
  · simp [madeCells, hi, Nat.mod_one]
  · rw [List.getElem?_eq_none (by simp [madeCells]; omega), List.getElem?_eq_none (by simp; omega)]

end Go.Proofs.YtkocbfikcjgigaaGreat

/-
  The walks of the program's count of lists and of its copy of them. By the verifier, by program.
-/
namespace Go.Proofs.YtkocbfikcjgigaaGreat
open Go.RowKit

set_option maxHeartbeats 1600000 in
set_option maxRecDepth 100000 in
theorem implInAllDu (ls : List (List Du)) (a : Option Addr) (c : Nat) (w : World) (hT : ls.length ≤ 1048576) (hS : dzSum ls ls.length ≤ 1048576) (h : Hid (DzAt w a ls)) :
    Calls Tryz.prog 62 #[.slice a ls.length c] w fun e w' => e = .returned (.int .i64 (dzSum ls ls.length)) ∧ w' = w := by
  obtain ⟨len, hlen⟩ : ∃ n, ls.length = n := ⟨_, rfl⟩
  rw [hlen] at hT hS ⊢
  have Hlen : Hid (ls.length = len) := hlen
  clear hlen
  go_enter Tryz.func62, Tryz.ntmps62
  go_wp2
  go_loop [3, 8] (fun s i => ∃ (k : Nat) (q : Int), k ≤ len ∧ i = .int .i64 k ∧ s = .int .i64 q ∧ 0 ≤ q ∧ q ≤ 1048576 ∧ Hid (q = dzSum ls k)) (fun _ i => len - (intOf i).toNat)
  case atStart => exact ⟨0, 0, Nat.zero_le _, rfl, rfl, by omega, by omega, by show (0 : Int) = (dzSum ls 0 : Nat); rw [dzSum_zero]; rfl⟩
  case round =>
    obtain ⟨k, q, hk, rfl, rfl, q0, q1, Hq⟩ := hrel
    by_cases hlt : k < len
    · have hkl : k < ls.length := by rw [Hlen.out]; exact hlt
      obtain ⟨b, off, ak, ck, ha, hb, hc, -, -⟩ := h.out k hkl
      subst ha
      have hs := dzSum_succ hkl
      have hm := dzSum_mono (ls := ls) (i := k + 1) (j := len) (by omega) (by rw [Hlen.out]; exact Nat.le_refl _)
      have q2 : q + ((dzAt ls k).length : Int) ≤ 1048576 := by have := Hq.out; omega
      have Hs : Hid (dzSum ls (k + 1) = dzSum ls k + (dzAt ls k).length) := hs
      generalize (dzAt ls k).length = n at hc q2 Hs
      clear hs hm
      go_wp2
      go_round
      case rel =>
        refine ⟨k + 1, q + n, by omega, by go_num, by go_num, by omega, by omega, ?_⟩
        show q + n = ((dzSum ls (k + 1) : Nat) : Int)
        rw [Hs.out, Hq.out]
        push_cast
        rfl
      case measure => simp [intOf]; omega
    · obtain rfl : k = len := by omega
      go_wp2
      go_ret
      exact ⟨ret_num Hq.out, rfl⟩

theorem DzB.grow {ls : List (List Du)} {len G : Nat} {vs : List Value} {wr : World} (h : DzB ls len G len vs wr) (hl : ls.length = len) : DzG G (.slice (some ⟨G, 0, none⟩) len len) vs ls wr := by
  subst hl
  have ho := h.outer
  rw [Nat.sub_self, List.replicate_zero, List.append_nil] at ho
  exact ⟨ho, h.len, h.row, fun i j k hi hj hne h1 h2 => h.apart i j hi hj hne (h1.trans h2.symm)⟩

/-- Every list of a list of the call's own has room for just what it holds. -/
def Tight (vs : List Value) : Prop := ∀ i, i < vs.length → ∃ x n, dzV vs i = .slice (some ⟨x, 0, none⟩) n n

set_option maxHeartbeats 6400000 in
set_option maxRecDepth 100000 in
theorem implOwnDu (ls : List (List Du)) (a : Option Addr) (c : Nat) (w : World) (hT : ls.length ≤ 1048576) (hin : ∀ k, k < ls.length → (dzAt ls k).length ≤ 1048576) (h : Hid (DzAt w a ls)) :
    Calls Tryz.prog 60 #[.slice a ls.length c] w fun e w' => (∃ vs, e = .returned (.slice (some ⟨w.heap.size, 0, none⟩) ls.length ls.length) ∧ DzG w.heap.size (.slice (some ⟨w.heap.size, 0, none⟩) ls.length ls.length) vs ls w' ∧ Tight vs) ∧ Below w.heap.size w w' := by
  have Hin : Hid (∀ k, k < ls.length → (dzAt ls k).length ≤ 1048576) := hin
  obtain ⟨i0, hi, hz0, hz1, hz2⟩ := info_parts dzInfo
  obtain ⟨n, hn⟩ : ∃ n, ls.length = n := ⟨_, rfl⟩
  rw [hn] at hT ⊢
  have Hn : Hid (ls.length = n) := hn
  clear hn hin
  have hmk : ∀ wx, (Instr.makeSlice 27 (.int .i64 (n : Int)) (.int .i64 (n : Int))).run Tryz.prog wx = .ok (.slice (some ⟨wx.heap.size, 0, none⟩) n n) (wx.alloc (.cells (madeCells #[.slice none 0 0] (n * 1)) 24)) := by
    intro wx
    have := run_make (P := Tryz.prog) wx 27 24 i0 (.slice none 0 0) Tryz.underlying27 hi hz0 .i64 .i64 n n (by omega) (by omega) (by rw [hz2]; omega) (by omega)
    rw [this, hz1]; simp [Value.cells]
  clear hi hz0 hz1 hz2
  have X : Hid (DzB ls n w.heap.size 0 [] (w.alloc (.cells (madeCells #[.slice none 0 0] (n * 1)) 24)) ∧ Below w.heap.size w (w.alloc (.cells (madeCells #[.slice none 0 0] (n * 1)) 24))) := by
    refine ⟨?_, (Below.refl _ _).alloc (Nat.le_refl _) _⟩
    have := World.ownsRow_lit (size := 1) (e := 24) (base := w.heap.size) w (madeCells #[.slice none 0 0] (n * 1)) n (Nat.le_refl _) (by unfold maxLen; omega) (by rw [size_madeCells])
    rw [dzMade] at this
    exact ⟨by simpa using this, rfl, fun i hi => by omega, fun i hi => by omega, fun i j hi => by omega⟩
  rw [Nat.mul_one] at X
  obtain ⟨G, hG0⟩ : ∃ G, G = w.heap.size := ⟨_, rfl⟩
  have HG : Hid (G = w.heap.size) := hG0
  clear hG0
  go_enter Tryz.func60, Tryz.ntmps60
  go_wp2
  rw [← HG.out] at X ⊢
  generalize w.alloc (.cells (madeCells #[.slice none 0 0] n) 24) = W1 at X ⊢
  go_loopw [11] (fun i wr => ∃ k : Nat, k ≤ n ∧ i = .int .i64 k ∧ Hid (∃ vs, DzB ls n G k vs wr ∧ Below G w wr ∧ Tight vs)) (fun i _ => n - (intOf i).toNat)
  case atStart => exact ⟨0, Nat.zero_le _, rfl, [], X.out.1, X.out.2, fun i hi => by simp at hi⟩
  case round =>
    clear X hmk
    obtain ⟨k, hk, rfl, H1⟩ := hrel
    obtain ⟨vs, H1⟩ : ∃ vs, Hid (DzB ls n G k vs wr ∧ Below G w wr ∧ Tight vs) := H1.out
    have Bw : Hid (Below w.heap.size w wr) := by have := H1.out.2.1; rw [HG.out] at this; exact this
    by_cases hlt : k < n
    · have R : Hid (DzAt wr a ls) := h.out.below Bw.out
      obtain ⟨b1, o1, i1, c1, ha1, hb1, hc1, hr1, -⟩ := R.out k (by rw [Hn.out]; exact hlt)
      subst ha1
      have hn := Hin.out k (by rw [Hn.out]; exact hlt)
      have T := fun w h => implCopyDu i1 c1 (dzAt ls k) w hn h
      have hG : G < wr.heap.size := (World.ownsRow.lt H1.out.1.outer _ rfl).2
      have hlt' : (k : Int) < (n : Int) := by omega
      have St : Hid (∀ w2 x, DuRow wr.heap.size w2 (.slice (some ⟨x, 0, none⟩) (dzAt ls k).length (dzAt ls k).length) (dzAt ls k) → Below wr.heap.size wr w2 →
          (∃ vs', DzB ls n G (k + 1) vs' (w2.setCell ⟨G, k, none⟩ (.slice (some ⟨x, 0, none⟩) (dzAt ls k).length (dzAt ls k).length)) ∧ Below G w (w2.setCell ⟨G, k, none⟩ (.slice (some ⟨x, 0, none⟩) (dzAt ls k).length (dzAt ls k).length)) ∧ Tight vs') ∧ (∃ y, w2.cell? ⟨G, k, none⟩ = some y) ∧ w2.frozen? ⟨G, k, none⟩ = false) := fun w2 x q1 q2 => by
        have hb := H1.out.1.below q2
        refine ⟨⟨_, H1.out.1.add hlt q2 q1, (H1.out.2.1.trans (q2.mono (by omega))).setCell (Nat.le_refl _) _, fun i hi => ?_⟩, ?_, hb.outer.frozenAt k⟩
        · by_cases e : i < vs.length
          · rw [dzV_old e]; exact H1.out.2.2 i e
          · obtain rfl : i = vs.length := by simp at hi; omega
            rw [dzV_new]
            exact ⟨_, _, rfl⟩
        · rw [hb.outer.cellAt k (by omega)]
          exact ⟨_, List.getElem?_eq_getElem (by have := hb.len; simp; omega)⟩
      generalize dzAt ls k = l at hc1 hr1 T St
      generalize hln : l.length = m at hc1 T St
      clear hln
      have T' : Hid _ := T
      have Hr1 : Hid (DusAt wr i1 l) := hr1
      clear T hr1 hn R
      go_wp2_with fail
      refine (T'.out _ Hr1.out).mono ?_
      rintro e w2 ⟨x, rfl, q1, q2⟩
      obtain ⟨H3, ⟨y, hy⟩, hz⟩ := St.out w2 x q1 q2
      have H3 : Hid _ := H3
      have hG2 : G < w2.heap.size := Nat.lt_of_lt_of_le hG q2.size
      clear q1 q2 St hc1
      go_wp2
      go_roundw
      case rel => exact ⟨k + 1, by omega, by go_num, H3⟩
      case measure => simp [intOf]; omega
    · obtain rfl : k = n := by omega
      have Y : Hid (DzG G (.slice (some ⟨G, 0, none⟩) k k) vs ls wr ∧ Tight vs) := ⟨H1.out.1.grow Hn.out, H1.out.2.2⟩
      clear H1
      go_wp2
      go_ret
      refine ⟨⟨vs, ?_, ?_⟩, Bw.out⟩
      · rw [← HG.out]; rfl
      · have := Y.out; rw [HG.out] at this; exact this
end Go.Proofs.YtkocbfikcjgigaaGreat
