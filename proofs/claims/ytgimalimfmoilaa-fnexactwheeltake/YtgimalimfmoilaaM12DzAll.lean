import Derived.Test.YtgimalimfmoilaaDuPlain
import Derived.Laws.CopyRow
import Derived.Laws.IdiomCopy
import Derived.WalkKit
import Derived.WalkSpells
import Derived.WalkLawsBesides
import Derived.Test.YtgimalimfmoilaaM0DzPlain
import Derived.Test.YtgimalimfmoilaaDzBlk
import Derived.Test.YtgimalimfmoilaaM3DzGrow
import Derived.Test.YtgimalimfmoilaaM1NumIn
import Derived.Test.YtgimalimfmoilaaStepRow
import Derived.Laws.ResultCell
import Derived.Laws.CopyOwn
/-
  copy at two cells a record, and the walk of the program's copy of a list. By the verifier.
-/
namespace Go.Proofs.Ytgimalimfmoilaa
open Go.RowKit

theorem ducopy_none (w : World) (ty : TypeId) (d s : Option Addr) (dc sc : Nat) :
    (Builtin.copy_ #[25, 25] ty #[.slice d 0 dc, .slice s 0 sc]).run Try.prog w = .ok (goInt 0) w := by
  obtain ⟨i0, hi0, hz0, hz1, hz2⟩ := info_parts duInfo
  have hl : ∀ (x : Addr), (loadCells x 0).run Try.prog w = .ok #[] w := fun x => by simpa using run_loadCells_list (P := Try.prog) w x [] (by simp)
  cases d <;> cases s <;> simp [Builtin.copy_, run_underlying Try.underlying25, Builtin.lenOf, Builtin.firstCells, sizeOf, typeInfo, hi0, storeCells, hl]
theorem ducopy_run (w : World) (ty : TypeId) (g : Nat) (a : Option Addr) (sCap : Nat) (l : List Du) (cur : Array Value)
    (hg : w.heap[g]? = some (.cells cur 33 (0, 0))) (hc : cur.size = l.length * 2) (h : DusAt w a l) :
    (Builtin.copy_ #[25, 25] ty #[.slice (some ⟨g, 0, none⟩) l.length l.length, .slice a l.length sCap]).run Try.prog w =
      .ok (.int .i64 (l.length : Int)) (w.setRow g (ducells l).toArray) := by
  obtain ⟨i0, hi0, hz0, hz1, hz2⟩ := info_parts duInfo
  cases l with
  | nil =>
    have e : w.setRow g (ducells []).toArray = w := by
      obtain rfl : cur = #[] := by simpa using hc
      exact setRow_self w g _ _ _ hg
    rw [e]
    exact ducopy_none w ty _ _ _ _
  | cons x xs =>
    obtain ⟨b, off, ha, _⟩ := h 0 (by simp)
    subst ha
    have hsrc : ∀ j v, (ducells (x :: xs))[j]? = some v → w.cell? ((⟨b, off, none⟩ : Addr).add j) = some v := by
      intro j u hj
      have hj' : j < (x :: xs).length * 2 := by
        have := (List.getElem?_eq_some_iff.1 hj).1
        rwa [ducells_length] at this
      obtain ⟨k, i, rfl, hi⟩ : ∃ k i, j = k * 2 + i ∧ i < 2 := ⟨j / 2, j % 2, by omega, Nat.mod_lt _ (by omega)⟩
      have hk : k < (x :: xs).length := by omega
      obtain ⟨b', off', e, _, c0, c1⟩ := h k hk
      cases e
      obtain ⟨e0, e1⟩ := ducells_get (x :: xs) k hk
      rw [show (⟨b, off, none⟩ : Addr).add (k * 2 + i) = ⟨b, off + k * 2 + i, none⟩ by by_cases h0 : k * 2 + i = 0 <;> simp [Addr.add, h0, Nat.add_assoc]; omega]
      match i, hi with
      | 0, _ => rw [Nat.add_zero] at hj; rw [e0] at hj; rw [Nat.add_zero, c0]; exact hj
      | 1, _ => rw [e1] at hj; rw [c1]; exact hj
    generalize hL : x :: xs = L at *
    have hl := run_loadCells_list (P := Try.prog) w ⟨b, off, none⟩ (ducells L) hsrc
    have hst := run_storeCells_at Try.prog g 0 33 (ducells L) 0 cur w hg (by simp [ducells_length, hc]) (ducells_one L)
    have e1 : (cur.toList.take 0 ++ ducells L ++ cur.toList.drop (0 + (ducells L).length)) = ducells L := by
      rw [List.take_zero, List.nil_append, Nat.zero_add, ducells_length, ← hc, ← Array.length_toList, List.drop_length, List.append_nil]
    rw [Nat.add_zero, e1] at hst
    have hm : Nat.min L.length L.length = L.length := Nat.min_self _
    rw [ducells_length] at hl
    simp [Builtin.copy_, run_underlying Try.underlying25, Builtin.lenOf, Builtin.firstCells, sizeOf, typeInfo, hi0, hz1, hm, hl, hst]
    rfl

set_option maxHeartbeats 1600000 in
theorem implCopyDu (a : Option Addr) (cap : Nat) (l : List Du) (w : World) (hT : l.length ≤ 1048576) (h : Hid (DusAt w a l)) :
    Calls Try.prog 41 #[.slice a l.length cap] w fun e w' => ∃ g, e = .returned (.slice (some ⟨g, 0, none⟩) l.length l.length) ∧ DuRow w.heap.size w' (.slice (some ⟨g, 0, none⟩) l.length l.length) l ∧ Below w.heap.size w w' := by
  obtain ⟨i0, hi, hz0, hz1, hz2⟩ := info_parts duInfo
  have hgm : (w.alloc (.cells (madeCells #[.int .i64 0, .int .i64 0] (l.length * 2)) 33)).heap[w.heap.size]? = some (.cells (madeCells #[.int .i64 0, .int .i64 0] (l.length * 2)) 33 (0, 0)) := by
    show (w.heap.push _)[w.heap.size]? = _
    simp
  have hcp := fun ty => ducopy_run (w.alloc (.cells (madeCells #[.int .i64 0, .int .i64 0] (l.length * 2)) 33)) ty w.heap.size a cap l _ hgm (by rw [size_madeCells]) (h.out.alloc _)
  have Fin : Hid (DuRow w.heap.size ((w.alloc (.cells (madeCells #[.int .i64 0, .int .i64 0] (l.length * 2)) 33)).setRow w.heap.size (ducells l).toArray) (.slice (some ⟨w.heap.size, 0, none⟩) l.length l.length) l ∧ Below w.heap.size w ((w.alloc (.cells (madeCells #[.int .i64 0, .int .i64 0] (l.length * 2)) 33)).setRow w.heap.size (ducells l).toArray)) := by
    refine ⟨⟨ducells_length l, .inr ⟨w.heap.size, l.length, (ducells l).toArray, rfl, Nat.le_refl _, setRow_heap _ _ _ _ _ _ hgm, Nat.le_refl _, by unfold maxLen; omega, by simp [ducells_length], ?_⟩⟩, ?_⟩
    · simp [← ducells_length]
    · have b : Below w.heap.size w (w.alloc (.cells (madeCells #[.int .i64 0, .int .i64 0] (l.length * 2)) 33)) := (Below.refl _ _).alloc (Nat.le_refl _) _
      exact b.trans ⟨rfl, rfl, rfl, by simp [World.setRow], fun k hk => setRow_other _ _ k _ (by omega)⟩
  clear hgm
  obtain ⟨len, hlen⟩ : ∃ n, l.length = n := ⟨_, rfl⟩
  rw [hlen] at hT hcp Fin ⊢
  clear hlen
  have hmk : ∀ wx, (Instr.makeSlice 25 (.int .i64 (len : Int)) (.int .i64 (len : Int))).run Try.prog wx = .ok (.slice (some ⟨wx.heap.size, 0, none⟩) len len) (wx.alloc (.cells (madeCells #[.int .i64 0, .int .i64 0] (len * 2)) 33)) := by
    intro wx
    have := run_make (P := Try.prog) wx 25 33 i0 (.agg #[.int .i64 0, .int .i64 0]) Try.underlying25 hi hz0 .i64 .i64 len len (by omega) (by omega) (by rw [hz2]; omega) (by omega)
    rw [this, hz1]; simp [Value.cells]
  clear hi hz0 hz1 hz2
  generalize (w.alloc (.cells (madeCells #[.int .i64 0, .int .i64 0] (len * 2)) 33)).setRow w.heap.size (ducells l).toArray = W2 at hcp Fin
  go_enter Try.func41, Try.ntmps41
  go_wp2
  go_ret
  exact ⟨_, rfl, Fin.out⟩
end Go.Proofs.Ytgimalimfmoilaa

/-
  The walks of the program's count of lists and of its copy of them. By the verifier, by program.
-/
namespace Go.Proofs.Ytgimalimfmoilaa
open Go.RowKit

set_option maxHeartbeats 1600000 in
set_option maxRecDepth 100000 in
theorem implInAllDu (ls : List (List Du)) (a : Option Addr) (c : Nat) (w : World) (hT : ls.length ≤ 1048576) (hS : dzSum ls ls.length ≤ 1048576) (h : Hid (DzAt w a ls)) :
    Calls Try.prog 74 #[.slice a ls.length c] w fun e w' => e = .returned (.int .i64 (dzSum ls ls.length)) ∧ w' = w := by
  obtain ⟨len, hlen⟩ : ∃ n, ls.length = n := ⟨_, rfl⟩
  rw [hlen] at hT hS ⊢
  have Hlen : Hid (ls.length = len) := hlen
  clear hlen
  go_enter Try.func74, Try.ntmps74
  go_wp2
  go_loop [3, 8] (fun s i => ∃ (k : Nat) (q : Int), k ≤ len ∧ i = .int .i64 k ∧ s = .int .i64 q ∧ 0 ≤ q ∧ q ≤ 1048576 ∧ Hid (q = dzSum ls k)) (fun _ i => len - (intOf i).toNat)
  case atStart => exact ⟨0, 0, Nat.zero_le _, rfl, rfl, by omega, by omega, by show (0 : Int) = (dzSum ls 0 : Nat); rw [dzSum_zero]; rfl⟩
  case round =>
    obtain ⟨k, q, hk, rfl, rfl, q0, q1, Hq⟩ := hrel
    by_cases hlt : k < len
    · have hkl : k < ls.length := by rw [Hlen.out]; exact hlt
      obtain ⟨b, off, ak, ck, ha, hb, hc, -, -⟩ := h.out k hkl
      subst ha
      have hs := dzSum_succ hkl
      have hm := dzSum_mono (ls := ls) (i := k + 1) (j := len) (by omega) (by rw [Hlen.out]; exact Nat.le_refl _)
      have q2 : q + ((dzAt ls k).length : Int) ≤ 1048576 := by have := Hq.out; omega
      have Hs : Hid (dzSum ls (k + 1) = dzSum ls k + (dzAt ls k).length) := hs
      generalize (dzAt ls k).length = n at hc q2 Hs
      clear hs hm
      go_wp2
      go_round
      case rel =>
        refine ⟨k + 1, q + n, by omega, by go_num, by go_num, by omega, by omega, ?_⟩
        show q + n = ((dzSum ls (k + 1) : Nat) : Int)
        rw [Hs.out, Hq.out]
        push_cast
        rfl
      case measure => simp [intOf]; omega
    · obtain rfl : k = len := by omega
      go_wp2
      go_ret
      exact ⟨ret_num Hq.out, rfl⟩

theorem DzB.grow {ls : List (List Du)} {len G : Nat} {vs : List Value} {wr : World} (h : DzB ls len G len vs wr) (hl : ls.length = len) : DzG G (.slice (some ⟨G, 0, none⟩) len len) vs ls wr := by
  subst hl
  have ho := h.outer
  rw [Nat.sub_self, List.replicate_zero, List.append_nil] at ho
  exact ⟨ho, h.len, h.row, fun i j k hi hj hne h1 h2 => h.apart i j hi hj hne (h1.trans h2.symm)⟩

/-- Every list of a list of the call's own has room for just what it holds. -/
def Tight (vs : List Value) : Prop := ∀ i, i < vs.length → ∃ x n, dzV vs i = .slice (some ⟨x, 0, none⟩) n n

set_option maxHeartbeats 6400000 in
set_option maxRecDepth 100000 in
theorem implOwnDu (ls : List (List Du)) (a : Option Addr) (c : Nat) (w : World) (hT : ls.length ≤ 1048576) (hin : ∀ k, k < ls.length → (dzAt ls k).length ≤ 1048576) (h : Hid (DzAt w a ls)) :
    Calls Try.prog 76 #[.slice a ls.length c] w fun e w' => (∃ vs, e = .returned (.slice (some ⟨w.heap.size, 0, none⟩) ls.length ls.length) ∧ DzG w.heap.size (.slice (some ⟨w.heap.size, 0, none⟩) ls.length ls.length) vs ls w' ∧ Tight vs) ∧ Below w.heap.size w w' := by
  have Hin : Hid (∀ k, k < ls.length → (dzAt ls k).length ≤ 1048576) := hin
  obtain ⟨i0, hi, hz0, hz1, hz2⟩ := info_parts dzInfo
  obtain ⟨n, hn⟩ : ∃ n, ls.length = n := ⟨_, rfl⟩
  rw [hn] at hT ⊢
  have Hn : Hid (ls.length = n) := hn
  clear hn hin
  have hmk : ∀ wx, (Instr.makeSlice 45 (.int .i64 (n : Int)) (.int .i64 (n : Int))).run Try.prog wx = .ok (.slice (some ⟨wx.heap.size, 0, none⟩) n n) (wx.alloc (.cells (madeCells #[.slice none 0 0] (n * 1)) 25)) := by
    intro wx
    have := run_make (P := Try.prog) wx 45 25 i0 (.slice none 0 0) Try.underlying45 hi hz0 .i64 .i64 n n (by omega) (by omega) (by rw [hz2]; omega) (by omega)
    rw [this, hz1]; simp [Value.cells]
  clear hi hz0 hz1 hz2
  have X : Hid (DzB ls n w.heap.size 0 [] (w.alloc (.cells (madeCells #[.slice none 0 0] (n * 1)) 25)) ∧ Below w.heap.size w (w.alloc (.cells (madeCells #[.slice none 0 0] (n * 1)) 25))) := by
    refine ⟨?_, (Below.refl _ _).alloc (Nat.le_refl _) _⟩
    have := World.ownsRow_lit (size := 1) (e := 25) (base := w.heap.size) w (madeCells #[.slice none 0 0] (n * 1)) n (Nat.le_refl _) (by unfold maxLen; omega) (by rw [size_madeCells])
    rw [dzMade] at this
    exact ⟨by simpa using this, rfl, fun i hi => by omega, fun i hi => by omega, fun i j hi => by omega⟩
  rw [Nat.mul_one] at X
  obtain ⟨G, hG0⟩ : ∃ G, G = w.heap.size := ⟨_, rfl⟩
  have HG : Hid (G = w.heap.size) := hG0
  clear hG0
  go_enter Try.func76, Try.ntmps76
  go_wp2
  rw [← HG.out] at X ⊢
  generalize w.alloc (.cells (madeCells #[.slice none 0 0] n) 25) = W1 at X ⊢
  go_loopw [11] (fun i wr => ∃ k : Nat, k ≤ n ∧ i = .int .i64 k ∧ Hid (∃ vs, DzB ls n G k vs wr ∧ Below G w wr ∧ Tight vs)) (fun i _ => n - (intOf i).toNat)
  case atStart => exact ⟨0, Nat.zero_le _, rfl, [], X.out.1, X.out.2, fun i hi => by simp at hi⟩
  case round =>
    clear X hmk
    obtain ⟨k, hk, rfl, H1⟩ := hrel
    obtain ⟨vs, H1⟩ : ∃ vs, Hid (DzB ls n G k vs wr ∧ Below G w wr ∧ Tight vs) := H1.out
    have Bw : Hid (Below w.heap.size w wr) := by have := H1.out.2.1; rw [HG.out] at this; exact this
    by_cases hlt : k < n
    · have R : Hid (DzAt wr a ls) := h.out.below Bw.out
      obtain ⟨b1, o1, i1, c1, ha1, hb1, hc1, hr1, -⟩ := R.out k (by rw [Hn.out]; exact hlt)
      subst ha1
      have hn := Hin.out k (by rw [Hn.out]; exact hlt)
      have T := fun w h => implCopyDu i1 c1 (dzAt ls k) w hn h
      have hG : G < wr.heap.size := (World.ownsRow.lt H1.out.1.outer _ rfl).2
      have hlt' : (k : Int) < (n : Int) := by omega
      have St : Hid (∀ w2 x, DuRow wr.heap.size w2 (.slice (some ⟨x, 0, none⟩) (dzAt ls k).length (dzAt ls k).length) (dzAt ls k) → Below wr.heap.size wr w2 →
          (∃ vs', DzB ls n G (k + 1) vs' (w2.setCell ⟨G, k, none⟩ (.slice (some ⟨x, 0, none⟩) (dzAt ls k).length (dzAt ls k).length)) ∧ Below G w (w2.setCell ⟨G, k, none⟩ (.slice (some ⟨x, 0, none⟩) (dzAt ls k).length (dzAt ls k).length)) ∧ Tight vs') ∧ (∃ y, w2.cell? ⟨G, k, none⟩ = some y) ∧ w2.frozen? ⟨G, k, none⟩ = false) := fun w2 x q1 q2 => by
        have hb := H1.out.1.below q2
        refine ⟨⟨_, H1.out.1.add hlt q2 q1, (H1.out.2.1.trans (q2.mono (by omega))).setCell (Nat.le_refl _) _, fun i hi => ?_⟩, ?_, hb.outer.frozenAt k⟩
        · by_cases e : i < vs.length
          · rw [dzV_old e]; exact H1.out.2.2 i e
          · obtain rfl : i = vs.length := by simp at hi; omega
            rw [dzV_new]
            exact ⟨_, _, rfl⟩
        · rw [hb.outer.cellAt k (by omega)]
          exact ⟨_, List.getElem?_eq_getElem (by have := hb.len; simp; omega)⟩
      generalize dzAt ls k = l at hc1 hr1 T St
      generalize hln : l.length = m at hc1 T St
      clear hln
      have T' : Hid _ := T
      have Hr1 : Hid (DusAt wr i1 l) := hr1
      clear T hr1 hn R
      go_wp2_with fail
      refine (T'.out _ Hr1.out).mono ?_
      rintro e w2 ⟨x, rfl, q1, q2⟩
      obtain ⟨H3, ⟨y, hy⟩, hz⟩ := St.out w2 x q1 q2
      have H3 : Hid _ := H3
      have hG2 : G < w2.heap.size := Nat.lt_of_lt_of_le hG q2.size
      clear q1 q2 St hc1
      go_wp2
      go_roundw
      case rel => exact ⟨k + 1, by omega, by go_num, H3⟩
      case measure => simp [intOf]; omega
    · obtain rfl : k = n := by omega
      have Y : Hid (DzG G (.slice (some ⟨G, 0, none⟩) k k) vs ls wr ∧ Tight vs) := ⟨H1.out.1.grow Hn.out, H1.out.2.2⟩
      clear H1
      go_wp2
      go_ret
      refine ⟨⟨vs, ?_, ?_⟩, Bw.out⟩
      · rw [← HG.out]; rfl
      · have := Y.out; rw [HG.out] at this; exact this
end Go.Proofs.Ytgimalimfmoilaa
