/-
  The walks of the program's count of lists and of its copy of them. By the verifier, by program.
-/
import Derived.Test.YtdcekimldgjliaaM0IzPlain
import Derived.Test.YtdcekimldgjliaaIzBlk
import Derived.Test.YtdcekimldgjliaaIzGrow
import Derived.Test.YtdcekimldgjliaaItCpy
import Derived.Test.YtdcekimldgjliaaM1NumIn
import Derived.Test.YtdcekimldgjliaaStepRow
import Derived.Laws.ResultCell
import Derived.Laws.CopyOwn
namespace Go.Proofs.Ytdcekimldgjliaa
open Go.RowKit

set_option maxHeartbeats 1600000 in
set_option maxRecDepth 100000 in
theorem implInAllIt (ls : List (List It)) (a : Option Addr) (c : Nat) (w : World) (hT : ls.length ≤ 1048576) (hS : izSum ls ls.length ≤ 1048576) (h : Hid (IzAt w a ls)) :
    Calls Try.prog 51 #[.slice a ls.length c] w fun e w' => e = .returned (.int .i64 (izSum ls ls.length)) ∧ w' = w := by
  obtain ⟨len, hlen⟩ : ∃ n, ls.length = n := ⟨_, rfl⟩
  rw [hlen] at hT hS ⊢
  have Hlen : Hid (ls.length = len) := hlen
  clear hlen
  go_enter Try.func51, Try.ntmps51
  go_wp2
  go_loop [3, 8] (fun s i => ∃ (k : Nat) (q : Int), k ≤ len ∧ i = .int .i64 k ∧ s = .int .i64 q ∧ 0 ≤ q ∧ q ≤ 1048576 ∧ Hid (q = izSum ls k)) (fun _ i => len - (intOf i).toNat)
  case atStart => exact ⟨0, 0, Nat.zero_le _, rfl, rfl, by omega, by omega, by show (0 : Int) = (izSum ls 0 : Nat); rw [izSum_zero]; rfl⟩
  case round =>
    obtain ⟨k, q, hk, rfl, rfl, q0, q1, Hq⟩ := hrel
    by_cases hlt : k < len
    · have hkl : k < ls.length := by rw [Hlen.out]; exact hlt
      obtain ⟨b, off, ak, ck, ha, hb, hc, -, -⟩ := h.out k hkl
      subst ha
      have hs := izSum_succ hkl
      have hm := izSum_mono (ls := ls) (i := k + 1) (j := len) (by omega) (by rw [Hlen.out]; exact Nat.le_refl _)
      have q2 : q + ((izAt ls k).length : Int) ≤ 1048576 := by have := Hq.out; omega
      have Hs : Hid (izSum ls (k + 1) = izSum ls k + (izAt ls k).length) := hs
      generalize (izAt ls k).length = n at hc q2 Hs
      clear hs hm
      go_wp2
      go_round
      case rel =>
        refine ⟨k + 1, q + n, by omega, by go_num, by go_num, by omega, by omega, ?_⟩
        show q + n = ((izSum ls (k + 1) : Nat) : Int)
        rw [Hs.out, Hq.out]
        push_cast
        rfl
      case measure => simp [intOf]; omega
    · obtain rfl : k = len := by omega
      go_wp2
      go_ret
      exact ⟨ret_num Hq.out, rfl⟩

theorem IzB.grow {ls : List (List It)} {len G : Nat} {vs : List Value} {wr : World} (h : IzB ls len G len vs wr) (hl : ls.length = len) : IzG G (.slice (some ⟨G, 0, none⟩) len len) vs ls wr := by
  subst hl
  have ho := h.outer
  rw [Nat.sub_self, List.replicate_zero, List.append_nil] at ho
  exact ⟨ho, h.len, h.row, fun i j k hi hj hne h1 h2 => h.apart i j hi hj hne (h1.trans h2.symm)⟩

/-- Every list of a list of the call's own has room for just what it holds. -/
def Tight (vs : List Value) : Prop := ∀ i, i < vs.length → ∃ x n, izV vs i = .slice (some ⟨x, 0, none⟩) n n

set_option maxHeartbeats 6400000 in
set_option maxRecDepth 100000 in
theorem implOwnIt (ls : List (List It)) (a : Option Addr) (c : Nat) (w : World) (hT : ls.length ≤ 1048576) (hin : ∀ k, k < ls.length → (izAt ls k).length ≤ 1048576) (h : Hid (IzAt w a ls)) :
    Calls Try.prog 56 #[.slice a ls.length c] w fun e w' => (∃ vs, e = .returned (.slice (some ⟨w.heap.size, 0, none⟩) ls.length ls.length) ∧ IzG w.heap.size (.slice (some ⟨w.heap.size, 0, none⟩) ls.length ls.length) vs ls w' ∧ Tight vs) ∧ Below w.heap.size w w' := by
  have Hin : Hid (∀ k, k < ls.length → (izAt ls k).length ≤ 1048576) := hin
  obtain ⟨i0, hi, hz0, hz1, hz2⟩ := info_parts izInfo
  obtain ⟨n, hn⟩ : ∃ n, ls.length = n := ⟨_, rfl⟩
  rw [hn] at hT ⊢
  have Hn : Hid (ls.length = n) := hn
  clear hn hin
  have hmk : ∀ wx, (Instr.makeSlice 27 (.int .i64 (n : Int)) (.int .i64 (n : Int))).run Try.prog wx = .ok (.slice (some ⟨wx.heap.size, 0, none⟩) n n) (wx.alloc (.cells (madeCells #[.slice none 0 0] (n * 1)) 50)) := by
    intro wx
    have := run_make (P := Try.prog) wx 27 50 i0 (.slice none 0 0) Try.underlying27 hi hz0 .i64 .i64 n n (by omega) (by omega) (by rw [hz2]; omega) (by omega)
    rw [this, hz1]; simp [Value.cells]
  clear hi hz0 hz1 hz2
  have X : Hid (IzB ls n w.heap.size 0 [] (w.alloc (.cells (madeCells #[.slice none 0 0] (n * 1)) 50)) ∧ Below w.heap.size w (w.alloc (.cells (madeCells #[.slice none 0 0] (n * 1)) 50))) := by
    refine ⟨?_, (Below.refl _ _).alloc (Nat.le_refl _) _⟩
    have := World.ownsRow_lit (size := 1) (e := 50) (base := w.heap.size) w (madeCells #[.slice none 0 0] (n * 1)) n (Nat.le_refl _) (by unfold maxLen; omega) (by rw [size_madeCells])
    rw [izMade] at this
    exact ⟨by simpa using this, rfl, fun i hi => by omega, fun i hi => by omega, fun i j hi => by omega⟩
  rw [Nat.mul_one] at X
  obtain ⟨G, hG0⟩ : ∃ G, G = w.heap.size := ⟨_, rfl⟩
  have HG : Hid (G = w.heap.size) := hG0
  clear hG0
  go_enter Try.func56, Try.ntmps56
  go_wp2
  rw [← HG.out] at X ⊢
  generalize w.alloc (.cells (madeCells #[.slice none 0 0] n) 50) = W1 at X ⊢
  go_loopw [11] (fun i wr => ∃ k : Nat, k ≤ n ∧ i = .int .i64 k ∧ Hid (∃ vs, IzB ls n G k vs wr ∧ Below G w wr ∧ Tight vs)) (fun i _ => n - (intOf i).toNat)
  case atStart => exact ⟨0, Nat.zero_le _, rfl, [], X.out.1, X.out.2, fun i hi => by simp at hi⟩
  case round =>
    clear X hmk
    obtain ⟨k, hk, rfl, H1⟩ := hrel
    obtain ⟨vs, H1⟩ : ∃ vs, Hid (IzB ls n G k vs wr ∧ Below G w wr ∧ Tight vs) := H1.out
    have Bw : Hid (Below w.heap.size w wr) := by have := H1.out.2.1; rw [HG.out] at this; exact this
    by_cases hlt : k < n
    · have R : Hid (IzAt wr a ls) := h.out.below Bw.out
      obtain ⟨b1, o1, i1, c1, ha1, hb1, hc1, hr1, -⟩ := R.out k (by rw [Hn.out]; exact hlt)
      subst ha1
      have hn := Hin.out k (by rw [Hn.out]; exact hlt)
      have T := fun w h => implCopyOf i1 c1 (izAt ls k) w hn h
      have hG : G < wr.heap.size := (World.ownsRow.lt H1.out.1.outer _ rfl).2
      have hlt' : (k : Int) < (n : Int) := by omega
      have St : Hid (∀ w2 x, ItRow wr.heap.size w2 (.slice (some ⟨x, 0, none⟩) (izAt ls k).length (izAt ls k).length) (izAt ls k) → Below wr.heap.size wr w2 →
          (∃ vs', IzB ls n G (k + 1) vs' (w2.setCell ⟨G, k, none⟩ (.slice (some ⟨x, 0, none⟩) (izAt ls k).length (izAt ls k).length)) ∧ Below G w (w2.setCell ⟨G, k, none⟩ (.slice (some ⟨x, 0, none⟩) (izAt ls k).length (izAt ls k).length)) ∧ Tight vs') ∧ (∃ y, w2.cell? ⟨G, k, none⟩ = some y) ∧ w2.frozen? ⟨G, k, none⟩ = false) := fun w2 x q1 q2 => by
        have hb := H1.out.1.below q2
        refine ⟨⟨_, H1.out.1.add hlt q2 q1, (H1.out.2.1.trans (q2.mono (by omega))).setCell (Nat.le_refl _) _, fun i hi => ?_⟩, ?_, hb.outer.frozenAt k⟩
        · by_cases e : i < vs.length
          · rw [izV_old e]; exact H1.out.2.2 i e
          · obtain rfl : i = vs.length := by simp at hi; omega
            rw [izV_new]
            exact ⟨_, _, rfl⟩
        · rw [hb.outer.cellAt k (by omega)]
          exact ⟨_, List.getElem?_eq_getElem (by have := hb.len; simp; omega)⟩
      generalize izAt ls k = l at hc1 hr1 T St
      generalize hln : l.length = m at hc1 T St
      clear hln
      have T' : Hid _ := T
      have Hr1 : Hid (ItsAt wr i1 l) := hr1
      clear T hr1 hn R
      go_wp2_with fail
      refine (T'.out _ Hr1.out).mono ?_
      rintro e w2 ⟨x, rfl, q1, q2⟩
      obtain ⟨H3, ⟨y, hy⟩, hz⟩ := St.out w2 x q1 q2
      have H3 : Hid _ := H3
      have hG2 : G < w2.heap.size := Nat.lt_of_lt_of_le hG q2.size
      clear q1 q2 St hc1
      go_wp2
      go_roundw
      case rel => exact ⟨k + 1, by omega, by go_num, H3⟩
      case measure => simp [intOf]; omega
    · obtain rfl : k = n := by omega
      have Y : Hid (IzG G (.slice (some ⟨G, 0, none⟩) k k) vs ls wr ∧ Tight vs) := ⟨H1.out.1.grow Hn.out, H1.out.2.2⟩
      clear H1
      go_wp2
      go_ret
      refine ⟨⟨vs, ?_, ?_⟩, Bw.out⟩
      · rw [← HG.out]; rfl
      · have := Y.out; rw [HG.out] at this; exact this
end Go.Proofs.Ytdcekimldgjliaa
