import Derived.Test.YtgebghkcikmfaaaGreatDoorQJ1FrInner
import Derived.Test.YtgebghkcikmfaaaGreatDoorQJ15OrByte
import Derived.WalkKit
import Derived.WalkSpells
import Derived.WalkLawsBesides
import Derived.RegionTactic
import Derived.Test.YtgebghkcikmfaaaGreatDoorQJ5StepRow
import Derived.Laws.ResultCell
import Derived.Laws.CopyOwn
import Derived.Laws.Tables
import Derived.Laws.Rows
import Derived.WalkMore
import Derived.Lib.ConvBytes
import Derived.Lib.SmallJoins
import Derived.Laws.BitsLemmas
import Derived.Deep.RegionLaw
import Derived.Deep.DeepCutAuto
/-
  The walk of the model's l2Number. By the verifier.
-/
namespace Go.Proofs.YtgebghkcikmfaaaGreatDoor
open Go.RowKit

theorem numAt_succ (text : ByteArray) (p j : Nat) (h : p + j < text.size) : numAt text p (j + 1) = numAt text p j * 256 + ((text[p + j]'h).toNat : Int) := by
  unfold numAt
  have hl : text.data.toList.length = text.size := by rw [Array.length_toList]; rfl
  have hj : j < (text.data.toList.drop p).length := by rw [List.length_drop]; omega
  rw [List.take_succ_eq_append_getElem hj, numOf_append]
  simp [List.getElem_drop]
  rfl
theorem numAt_one (text : ByteArray) (p : Nat) (h : p < text.size) : numAt text p 1 = ((text[p]'h).toNat : Int) := by
  have := numAt_succ text p 0 h
  simpa [numAt, numOf] using this
theorem numAt_lt (text : ByteArray) (p j : Nat) (hj : j ≤ 3) : 0 ≤ numAt text p j ∧ numAt text p j < 16777216 := by
  refine ⟨numOf_nonneg _, ?_⟩
  have h := numOf_lt ((text.data.toList.drop p).take j)
  have hl : ((text.data.toList.drop p).take j).length ≤ 3 := by rw [List.length_take]; omega
  have : (256 : Int) ^ ((text.data.toList.drop p).take j).length ≤ 256 ^ 3 := by
    match ((text.data.toList.drop p).take j).length, hl with
    | 0, _ => decide
    | 1, _ => decide
    | 2, _ => decide
    | 3, _ => decide
  unfold numAt
  omega

set_option maxHeartbeats 1600000 in
theorem specNumber (text : ByteArray) (p k : Nat) (hk : k ≤ 4) (h : p + k ≤ text.size) (hsz : text.size ≤ 1048576) (w : World) :
    Calls Tryz.prog 182 #[.string text, .int .i64 p, .int .i64 k] w fun e w' => e = .returned (.int .i64 (numAt text p k)) ∧ w' = w := by
  go_enter Tryz.func182, Tryz.ntmps182
  go_wp2
  go_loop [7, 8] (fun n i => ∃ j : Nat, j ≤ k ∧ i = .int .i64 ((p : Int) + j) ∧ n = .int .i64 (numAt text p j)) (fun _ i => p + k - (intOf i).toNat)
  case atStart => exact ⟨0, Nat.zero_le _, by simp, rfl⟩
  case round =>
    obtain ⟨j, hj, rfl, rfl⟩ := hrel
    by_cases hlt : j < k
    · have hin : p + j < text.size := by omega
      have hs : Hid (numAt text p (j + 1) = numAt text p j * 256 + ((text[p + j]'hin).toNat : Int)) := numAt_succ text p j hin
      obtain ⟨n0, n1⟩ := numAt_lt text p j (by omega)
      have hx := (text[p + j]'hin).toNat_lt
      have hor := or_byte (numAt text p j) ((text[p + j]'hin).toNat : Int) n0 (by omega) (by omega) (by omega)
      generalize numAt text p j = n at hs n0 n1 hor ⊢
      have hin' : (p : Int) + j < text.size := by omega
      go_wp2
      go_round
      case rel => exact ⟨j + 1, by omega, by go_num, by rw [hs.out]⟩
      case measure => simp [intOf]; omega
    · obtain rfl : j = k := by omega
      go_wp2
      go_ret
      exact ⟨rfl, rfl⟩
end Go.Proofs.YtgebghkcikmfaaaGreatDoor

/-
  The walk of the model's ReadFrame. By the verifier.
-/
namespace Go.Proofs.YtgebghkcikmfaaaGreatDoor
open Go.RowKit

/-- What a call leaves. -/
def SPost (text : ByteArray) (w : World) (e : Ending) (w' : World) : Prop :=
  ∃ a cap, e = .returned (.tuple #[(sRun text).1.val a cap, .int .i64 (sRun text).2]) ∧ IRow w.heap.size w' (.slice a (sRun text).1.tags.length cap) (sRun text).1.tags ∧ Below w.heap.size w w'
/-- The call's own memory: the answer's variable, the empty frame, the frame that is read. -/
structure Ss (w0 : World) (sl : Value) (T : List Int) (cs : Array Value) (w : World) : Prop where
  res : Boxed w w0.heap.size zeroFr 175
  non : Boxed w (w0.heap.size + 1) zeroFr 175
  fr : Boxed w (w0.heap.size + 1 + 1) cs 175
  row : IRow (w0.heap.size + 1 + 1 + 1) w sl T
  bel : Below w0.heap.size w0 w
theorem Ss.store {w0 : World} {sl : Value} {T : List Int} {cs : Array Value} {w : World} (h : Ss w0 sl T cs w) (j : Nat) (v : Value) : Ss w0 sl T (cs.setIfInBounds j v) (w.setCell ⟨w0.heap.size + 1 + 1, j, none⟩ v) := by
  have o : ∀ k, k ≠ w0.heap.size + 1 + 1 → (w.setCell ⟨w0.heap.size + 1 + 1, j, none⟩ v).heap[k]? = w.heap[k]? := fun k hk => Below.heap_setCell _ _ _ _ hk
  refine ⟨?_, ?_, h.fr.put j v, h.row.carry fun k hk _ => o k (by omega), h.bel.setCell (by show w0.heap.size ≤ w0.heap.size + 1 + 1; omega) _⟩
  · unfold Boxed; rw [o _ (by omega)]; exact h.res
  · unfold Boxed; rw [o _ (by omega)]; exact h.non
theorem Ss.grow {w0 : World} {sl sl' : Value} {T T' : List Int} {cs : Array Value} {w w' : World} (h : Ss w0 sl T cs w) (g : Below (w0.heap.size + 1 + 1 + 1) w w') (r : IRow (w0.heap.size + 1 + 1 + 1) w' sl' T') : Ss w0 sl' T' cs w' :=
  ⟨h.res.below (by omega) g, h.non.below (by omega) g, h.fr.below (by omega) g, r, h.bel.trans (g.mono (by omega))⟩
theorem sResults {w : World} {B : Nat} {cs : Array Value} {code : Value} {tmps : Array Value} (hg : w.heap[B]? = some (.cells cs 175 (0, 0))) (h2 : tmps.getD 2 undef = .pointer (some ⟨B, 0, none⟩)) (h3 : tmps.getD 3 undef = code) (hi : (Tryz.prog.info? 175).map (·.size) = some cs.size) :
    (results Tryz.f124 tmps).run Tryz.prog w = .ok (.tuple #[.agg cs, code]) w := by
  rw [results_cell_tmp Tryz.results124, h2, h3]
  simp [asAddr, run_loadVar_row w B _ 175 cs (0, 0) _ hg Tryz.underlying175 rfl hi, Result.andThen]
theorem sRet {text : ByteArray} {w0 : World} {sl : Value} {T : List Int} {cs : Array Value} {w : World} (h : Ss w0 sl T cs w) {code : Int} (hr : sRun text = (noFr, code)) (t : Act) (h2 : t.tmps.getD 2 undef = .pointer (some ⟨w0.heap.size, 0, none⟩)) (h3 : t.tmps.getD 3 undef = .int .i64 code) (hd : t.defers = []) :
    bodyPost Tryz.prog Tryz.f124 (SPost text w0) .ret t (w.setRow w0.heap.size zeroFr) := by
  refine bodyPost_ret (sResults (setRow_heap w w0.heap.size _ zeroFr _ _ h.res) h2 h3 (by kernel_rfl)) hd ⟨none, 0, ?_, ?_, below_setRow h.bel (Nat.le_refl _) _⟩
  · rw [hr]; rfl
  · rw [hr]; exact World.ownsRow_nil _ _ _ _
theorem sOk {text : ByteArray} {w0 : World} {a : Option Addr} {cap : Nat} {f : Fr} {w : World} (h : Ss w0 (.slice a f.tags.length cap) f.tags #[.int .i64 f.to, .int .i64 f.frm, .slice a f.tags.length cap, .int .i64 f.src, .int .i64 f.dst, .int .i64 f.proto, .int .i64 f.sport, .int .i64 f.dport, .int .i64 f.mark, .int .i64 f.sum, .string f.body] w) (hr : sRun text = (f, 0)) (t : Act) (h2 : t.tmps.getD 2 undef = .pointer (some ⟨w0.heap.size, 0, none⟩)) (h3 : t.tmps.getD 3 undef = .int .i64 0) (hd : t.defers = []) :
    bodyPost Tryz.prog Tryz.f124 (SPost text w0) .ret t (w.setRow w0.heap.size #[.int .i64 f.to, .int .i64 f.frm, .slice a f.tags.length cap, .int .i64 f.src, .int .i64 f.dst, .int .i64 f.proto, .int .i64 f.sport, .int .i64 f.dport, .int .i64 f.mark, .int .i64 f.sum, .string f.body]) := by
  refine bodyPost_ret (sResults (setRow_heap w w0.heap.size _ _ _ _ h.res) h2 h3 (by kernel_rfl)) hd ⟨a, cap, ?_, ?_, below_setRow h.bel (Nat.le_refl _) _⟩
  · rw [hr]; rfl
  · rw [hr]; exact (irow_other h.row h.res _).mono (by omega)
theorem Ss.start (w : World) (cs : Array Value) : Ss w (.slice none 0 0) [] cs (((w.alloc (.cells zeroFr 175)).alloc (.cells zeroFr 175)).alloc (.cells cs 175)) := by
  refine ⟨?_, ?_, ?_, World.ownsRow_nil _ _ _ _, bel_alloc (bel_alloc (bel_alloc (Below.refl _ w) (Nat.le_refl _) _) (Nat.le_refl _) _) (Nat.le_refl _) _⟩
  · unfold Boxed
    rw [Below.heap_alloc _ _ _ (by simp; omega), Below.heap_alloc _ _ _ (by simp)]
    exact Boxed.new w zeroFr 175
  · unfold Boxed
    rw [Below.heap_alloc _ _ _ (by simp)]
    simpa [Boxed] using Boxed.new (w.alloc (.cells zeroFr 175)) zeroFr 175
  · simpa [Boxed] using Boxed.new ((w.alloc (.cells zeroFr 175)).alloc (.cells zeroFr 175)) cs 175

def sTag (text : ByteArray) (dest frm : Int) : Nat → Nat → List Int → Fr × Int
  | 0, _, _ => (noFr, 2)
  | k + 1, p, T => if text.size < p + 3 then (noFr, 1) else if 4095 < numAt text (p + 1) 2 then (noFr, 2) else sKind text dest frm k (p + 3) (T ++ [numAt text (p + 1) 2])
theorem sKind_eq (text : ByteArray) (dest frm : Int) (k p : Nat) (T : List Int) : sKind text dest frm k p T = if text.size ≤ p then (noFr, 1) else if numAt text p 1 = 2 then sTail text dest frm T (p + 1) else if numAt text p 1 ≠ 1 then (noFr, 3) else sTag text dest frm k p T := by
  cases k <;> rfl

set_option maxHeartbeats 12800000 in
set_option maxRecDepth 100000 in
theorem specRead (text : ByteArray) (hsz : text.size ≤ 1048576) (w : World) :
    Calls Tryz.prog 124 #[.string text] w (SPost text w) := by
  have hrun : Hid (sRun text = if text.size < 4 then (noFr, 1) else sKind text (numAt text 0 2) (numAt text 2 2) 2 4 []) := rfl
  by_cases h4 : text.size < 4
  · have hr : Hid (sRun text = (noFr, 1)) := by
      have := hrun.out
      rw [if_pos h4] at this
      exact this
    clear hrun
    have h4' : (text.size : Int) < 4 := by omega
    go_enter Tryz.func124, Tryz.ntmps124
    go_wp2
    refine bodyPost_ret (v := .tuple #[noFr.val none 0, .int .i64 1]) (by simp [results, Tryz.results124, go_sem, Fr.val, noFr]) rfl ⟨none, 0, ?_, ?_, bel_alloc (bel_alloc (Below.refl _ w) (Nat.le_refl _) _) (Nat.le_refl _) _⟩
    · rw [hr.out]
    · rw [hr.out]; exact World.ownsRow_nil _ _ _ _
  have hr : Hid (sKind text (numAt text 0 2) (numAt text 2 2) 2 4 [] = sRun text) := by
    have := hrun.out
    rw [if_neg h4] at this
    exact this.symm
  clear hrun
  have h4' : ¬ (text.size : Int) < 4 := by omega
  go_enter Tryz.func124, Tryz.ntmps124
  go_wp2_with fail
  refine (specNumber text 0 2 (by decide) (by omega) hsz _).mono ?_
  rintro e w' ⟨rfl, rfl⟩
  go_wp2_with fail
  refine (specNumber text 2 2 (by decide) (by omega) hsz _).mono ?_
  rintro e w' ⟨rfl, rfl⟩
  generalize numAt text 0 2 = dest at hr ⊢
  generalize numAt text 2 2 = frm at hr ⊢
  go_wp2
  have H1 : Hid (Ss w (.slice none 0 0) [] (csOf dest frm (.slice none 0 0)) (((w.alloc (.cells zeroFr 175)).alloc (.cells zeroFr 175)).alloc (.cells (csOf dest frm (.slice none 0 0)) 175))) := Ss.start w _
  go_loopw [6] (fun i wr => ∃ (k p : Nat) (T : List Int) (sl : Value), T.length + k = 2 ∧ p ≤ text.size ∧ i = .int .i64 p ∧ Hid (Ss w sl T (csOf dest frm sl) wr) ∧ Hid (sKind text dest frm k p T = sRun text)) (fun i _ => text.size - (intOf i).toNat)
  case atStart => exact ⟨2, 4, [], .slice none 0 0, rfl, by omega, rfl, H1, hr⟩
  case round =>
    clear hr H1
    obtain ⟨k, p, T, sl, hT, hp, rfl, H, hk⟩ := hrel
    obtain ⟨sa, sc, rfl⟩ := H.out.row.shape
    have hk : Hid (_ = sRun text) := (sKind_eq text dest frm k p T).symm.trans hk.out
    by_cases e0 : text.size ≤ p
    · have hr : Hid (sRun text = (noFr, 1)) := by
        have := hk.out
        rw [if_pos e0] at this
        exact this.symm
      have e0' : (text.size : Int) ≤ p := by omega
      go_wp2_with (first | (refine wpList_load_row rfl 175 (.tmp 4) rfl (w.heap.size + 1) rfl _ _ _ _ H.out.non Tryz.underlying175 rfl (by kernel_rfl) ?_) | (refine wpList_store_row rfl 175 (.tmp 2) (.tmp 23) rfl w.heap.size _ rfl rfl _ _ H.out.res (by kernel_rfl) rfl (frOne _ _ _ _ _ _ _ _ _ _ _ _ _) ?_))
      exact sRet H.out (code := 1) hr.out _ rfl rfl rfl
    have hk : Hid (_ = sRun text) := (if_neg e0).symm.trans hk.out
    have hin : p < text.size := by omega
    have hin' : (p : Int) < text.size := by omega
    have hx1 := numAt_one text p hin
    have hxl := (text[p]'hin).toNat_lt
    obtain ⟨x, hx⟩ : ∃ x, (text[p]'hin).toNat = x := ⟨_, rfl⟩
    rw [hx] at hx1 hxl
    have Hx1 : Hid (numAt text p 1 = (x : Int)) := hx1
    clear hx1
    rw [Hx1.out] at hk
    by_cases x2 : x = 2
    · have hk : Hid (sTail text dest frm T (p + 1) = sRun text) := (if_pos (by omega)).symm.trans hk.out
      have x2' : (x : Int) = 2 := by omega
      clear Hx1
      rw [sTail] at hk
      by_cases t14 : text.size < p + 1 + 14
      · have hr : Hid (sRun text = (noFr, 1)) := by
          have := hk.out
          rw [if_pos t14] at this
          exact this.symm
        have t14' : (text.size : Int) < p + 1 + 14 := by omega
        go_wp2_with (first | (refine wpList_load_row rfl 175 (.tmp 4) rfl (w.heap.size + 1) rfl _ _ _ _ H.out.non Tryz.underlying175 rfl (by kernel_rfl) ?_) | (refine wpList_store_row rfl 175 (.tmp 2) (.tmp 66) rfl w.heap.size _ rfl rfl _ _ H.out.res (by kernel_rfl) rfl (frOne _ _ _ _ _ _ _ _ _ _ _ _ _) ?_))
        exact sRet H.out (code := 1) hr.out _ rfl rfl rfl
      have hk : Hid (_ = sRun text) := (if_neg t14).symm.trans hk.out
      have t14' : ¬ (text.size : Int) < p + 1 + 14 := by omega
      go_wp2_with fail
      refine (specNumber text (p + 1) 4 (by decide) (by omega) hsz _).mono ?_
      rintro e w' ⟨rfl, hw⟩
      rw [hw]
      clear hw w'
      have c3 : wr.cell? ⟨w.heap.size + 1 + 1, 3, none⟩ = some (.int .i64 0) := H.out.fr.cell 3 rfl
      have f3 := H.out.fr.ice 3
      generalize numAt text (p + 1) 4 = y3 at hk ⊢
      go_wp2_with fail
      refine (specNumber text (p + 1 + 4) 4 (by decide) (by omega) hsz _).mono ?_
      have H3 : Hid (Ss w (.slice sa T.length sc) T #[.int .i64 dest, .int .i64 frm, .slice sa T.length sc, .int .i64 y3, .int .i64 0, .int .i64 0, .int .i64 0, .int .i64 0, .int .i64 0, .int .i64 0, .string ⟨#[]⟩] (wr.setCell ⟨w.heap.size + 1 + 1, 3, none⟩ (.int .i64 y3))) := H.out.store 3 _
      generalize wr.setCell ⟨w.heap.size + 1 + 1, 3, none⟩ (.int .i64 y3) = w3 at H3 ⊢
      rintro e w' ⟨rfl, hw⟩
      rw [hw]
      clear hw w'
      clear H c3 f3
      have c4 : w3.cell? ⟨w.heap.size + 1 + 1, 4, none⟩ = some (.int .i64 0) := H3.out.fr.cell 4 rfl
      have f4 := H3.out.fr.ice 4
      have c5 : w3.cell? ⟨w.heap.size + 1 + 1, 5, none⟩ = some (.int .i64 0) := H3.out.fr.cell 5 rfl
      have f5 := H3.out.fr.ice 5
      generalize numAt text (p + 1 + 4) 4 = y4 at hk ⊢
      have i5 : p + 1 + 8 < text.size := by omega
      have i5' : (p : Int) + 1 + 8 < text.size := by omega
      have n5 := numAt_one text (p + 1 + 8) i5
      have l5 := (text[p + 1 + 8]'i5).toNat_lt
      obtain ⟨x5, hx5⟩ : ∃ x, (text[p + 1 + 8]'i5).toNat = x := ⟨_, rfl⟩
      rw [hx5] at n5 l5
      rw [n5] at hk
      clear n5
      go_wp2_with fail
      refine (specNumber text (p + 1 + 9) 2 (by decide) (by omega) hsz _).mono ?_
      have H5 : Hid (Ss w (.slice sa T.length sc) T #[.int .i64 dest, .int .i64 frm, .slice sa T.length sc, .int .i64 y3, .int .i64 y4, .int .i64 x5, .int .i64 0, .int .i64 0, .int .i64 0, .int .i64 0, .string ⟨#[]⟩] ((w3.setCell ⟨w.heap.size + 1 + 1, 4, none⟩ (.int .i64 y4)).setCell ⟨w.heap.size + 1 + 1, 5, none⟩ (.int .i64 x5))) := (H3.out.store 4 _).store 5 _
      generalize (w3.setCell ⟨w.heap.size + 1 + 1, 4, none⟩ (.int .i64 y4)).setCell ⟨w.heap.size + 1 + 1, 5, none⟩ (.int .i64 x5) = w5 at H5 ⊢
      rintro e w' ⟨rfl, hw⟩
      rw [hw]
      clear hw w' H3 c4 f4 c5 f5 hx5 i5 i5'
      have c6 : w5.cell? ⟨w.heap.size + 1 + 1, 6, none⟩ = some (.int .i64 0) := H5.out.fr.cell 6 rfl
      have f6 := H5.out.fr.ice 6
      generalize numAt text (p + 1 + 9) 2 = y6 at hk ⊢
      go_wp2_with fail
      refine (specNumber text (p + 1 + 11) 2 (by decide) (by omega) hsz _).mono ?_
      have H6 : Hid (Ss w (.slice sa T.length sc) T #[.int .i64 dest, .int .i64 frm, .slice sa T.length sc, .int .i64 y3, .int .i64 y4, .int .i64 x5, .int .i64 y6, .int .i64 0, .int .i64 0, .int .i64 0, .string ⟨#[]⟩] (w5.setCell ⟨w.heap.size + 1 + 1, 6, none⟩ (.int .i64 y6))) := H5.out.store 6 _
      generalize w5.setCell ⟨w.heap.size + 1 + 1, 6, none⟩ (.int .i64 y6) = w6 at H6 ⊢
      rintro e w' ⟨rfl, hw⟩
      rw [hw]
      clear hw w' H5 c6 f6
      have c7 : w6.cell? ⟨w.heap.size + 1 + 1, 7, none⟩ = some (.int .i64 0) := H6.out.fr.cell 7 rfl
      have f7 := H6.out.fr.ice 7
      have c8 : w6.cell? ⟨w.heap.size + 1 + 1, 8, none⟩ = some (.int .i64 0) := H6.out.fr.cell 8 rfl
      have f8 := H6.out.fr.ice 8
      generalize numAt text (p + 1 + 11) 2 = y7 at hk ⊢
      have i8 : p + 1 + 13 < text.size := by omega
      have i8' : (p : Int) + 1 + 13 < text.size := by omega
      have n8 := numAt_one text (p + 1 + 13) i8
      have l8 := (text[p + 1 + 13]'i8).toNat_lt
      obtain ⟨x8, hx8⟩ : ∃ x, (text[p + 1 + 13]'i8).toNat = x := ⟨_, rfl⟩
      rw [hx8] at n8 l8
      rw [n8] at hk
      clear n8
      have H8 : Hid (Ss w (.slice sa T.length sc) T #[.int .i64 dest, .int .i64 frm, .slice sa T.length sc, .int .i64 y3, .int .i64 y4, .int .i64 x5, .int .i64 y6, .int .i64 y7, .int .i64 x8, .int .i64 0, .string ⟨#[]⟩] ((w6.setCell ⟨w.heap.size + 1 + 1, 7, none⟩ (.int .i64 y7)).setCell ⟨w.heap.size + 1 + 1, 8, none⟩ (.int .i64 x8))) := (H6.out.store 7 _).store 8 _
      by_cases m8 : 3 < (x8 : Int)
      · have hr : Hid (sRun text = (noFr, 4)) := by
          have := hk.out
          rw [if_pos m8] at this
          exact this.symm
        go_wp2_with (first | (refine wpList_load_row rfl 175 (.tmp 4) rfl (w.heap.size + 1) rfl _ _ _ _ H8.out.non Tryz.underlying175 rfl (by kernel_rfl) ?_) | (refine wpList_store_row rfl 175 (.tmp 2) (.tmp 101) rfl w.heap.size _ rfl rfl _ _ H8.out.res (by kernel_rfl) rfl (frOne _ _ _ _ _ _ _ _ _ _ _ _ _) ?_))
        exact sRet H8.out (code := 4) hr.out _ rfl rfl rfl
      have hk : Hid (_ = sRun text) := (if_neg m8).symm.trans hk.out
      by_cases t18 : text.size < p + 1 + 18
      · have hr : Hid (sRun text = (noFr, 1)) := by
          have := hk.out
          rw [if_pos t18] at this
          exact this.symm
        have t18' : (text.size : Int) < p + 1 + 18 := by omega
        go_wp2_with (first | (refine wpList_load_row rfl 175 (.tmp 4) rfl (w.heap.size + 1) rfl _ _ _ _ H8.out.non Tryz.underlying175 rfl (by kernel_rfl) ?_) | (refine wpList_store_row rfl 175 (.tmp 2) (.tmp 107) rfl w.heap.size _ rfl rfl _ _ H8.out.res (by kernel_rfl) rfl (frOne _ _ _ _ _ _ _ _ _ _ _ _ _) ?_))
        exact sRet H8.out (code := 1) hr.out _ rfl rfl rfl
      have hk : Hid (_ = sRun text) := (if_neg t18).symm.trans hk.out
      have t18' : ¬ (text.size : Int) < p + 1 + 18 := by omega
      go_wp2_with fail
      refine (specNumber text (p + 1 + 14) 2 (by decide) (by omega) hsz _).mono ?_
      generalize (w6.setCell ⟨w.heap.size + 1 + 1, 7, none⟩ (.int .i64 y7)).setCell ⟨w.heap.size + 1 + 1, 8, none⟩ (.int .i64 x8) = w8 at H8 ⊢
      rintro e w' ⟨rfl, hw⟩
      rw [hw]
      clear hw w' H6 c7 f7 c8 f8 hx8 i8 i8'
      have c9 : w8.cell? ⟨w.heap.size + 1 + 1, 9, none⟩ = some (.int .i64 0) := H8.out.fr.cell 9 rfl
      have f9 := H8.out.fr.ice 9
      generalize numAt text (p + 1 + 14) 2 = y9 at hk ⊢
      go_wp2_with fail
      refine (specNumber text (p + 1 + 16) 2 (by decide) (by omega) hsz _).mono ?_
      have H9 : Hid (Ss w (.slice sa T.length sc) T #[.int .i64 dest, .int .i64 frm, .slice sa T.length sc, .int .i64 y3, .int .i64 y4, .int .i64 x5, .int .i64 y6, .int .i64 y7, .int .i64 x8, .int .i64 y9, .string ⟨#[]⟩] (w8.setCell ⟨w.heap.size + 1 + 1, 9, none⟩ (.int .i64 y9))) := H8.out.store 9 _
      generalize w8.setCell ⟨w.heap.size + 1 + 1, 9, none⟩ (.int .i64 y9) = w9 at H9 ⊢
      rintro e w' ⟨rfl, hw⟩
      rw [hw]
      clear hw w' H8 c9 f9
      obtain ⟨z0, z1⟩ := numAt_lt text (p + 1 + 16) 2 (by decide)
      generalize numAt text (p + 1 + 16) 2 = z at hk z0 z1 ⊢
      by_cases m9 : 1500 < z
      · have hr : Hid (sRun text = (noFr, 5)) := by
          have := hk.out
          rw [if_pos m9] at this
          exact this.symm
        go_wp2_with (first | (refine wpList_load_row rfl 175 (.tmp 4) rfl (w.heap.size + 1) rfl _ _ _ _ H9.out.non Tryz.underlying175 rfl (by kernel_rfl) ?_) | (refine wpList_store_row rfl 175 (.tmp 2) (.tmp 119) rfl w.heap.size _ rfl rfl _ _ H9.out.res (by kernel_rfl) rfl (frOne _ _ _ _ _ _ _ _ _ _ _ _ _) ?_))
        exact sRet H9.out (code := 5) hr.out _ rfl rfl rfl
      have hk : Hid (_ = sRun text) := (if_neg m9).symm.trans hk.out
      by_cases t19 : (text.size : Int) < (p + 1 : Nat) + 18 + z
      · have hr : Hid (sRun text = (noFr, 1)) := by
          have := hk.out
          rw [if_pos t19] at this
          exact this.symm
        have t19' : (text.size : Int) < p + 1 + 18 + z := by omega
        go_wp2_with (first | (refine wpList_load_row rfl 175 (.tmp 4) rfl (w.heap.size + 1) rfl _ _ _ _ H9.out.non Tryz.underlying175 rfl (by kernel_rfl) ?_) | (refine wpList_store_row rfl 175 (.tmp 2) (.tmp 127) rfl w.heap.size _ rfl rfl _ _ H9.out.res (by kernel_rfl) rfl (frOne _ _ _ _ _ _ _ _ _ _ _ _ _) ?_))
        exact sRet H9.out (code := 1) hr.out _ rfl rfl rfl
      have hk : Hid (_ = sRun text) := (if_neg t19).symm.trans hk.out
      have t19' : ¬ (text.size : Int) < p + 1 + 18 + z := by omega
      by_cases t20 : (p + 1 : Nat) + 18 + z < (text.size : Int)
      · have hr : Hid (sRun text = (noFr, 6)) := by
          have := hk.out
          rw [if_pos t20] at this
          exact this.symm
        have t20' : (p : Int) + 1 + 18 + z < text.size := by omega
        go_wp2_with (first | (refine wpList_load_row rfl 175 (.tmp 4) rfl (w.heap.size + 1) rfl _ _ _ _ H9.out.non Tryz.underlying175 rfl (by kernel_rfl) ?_) | (refine wpList_store_row rfl 175 (.tmp 2) (.tmp 135) rfl w.heap.size _ rfl rfl _ _ H9.out.res (by kernel_rfl) rfl (frOne _ _ _ _ _ _ _ _ _ _ _ _ _) ?_))
        exact sRet H9.out (code := 6) hr.out _ rfl rfl rfl
      have hk : Hid (_ = sRun text) := (if_neg t20).symm.trans hk.out
      have t20' : ¬ (p : Int) + 1 + 18 + z < text.size := by omega
      have hq : (p : Int) + 1 + 18 ≤ text.size := by omega
      have c10 : w9.cell? ⟨w.heap.size + 1 + 1, 10, none⟩ = some (.string ⟨#[]⟩) := H9.out.fr.cell 10 rfl
      have f10 := H9.out.fr.ice 10
      have H10 : Hid (Ss w (.slice sa T.length sc) T #[.int .i64 dest, .int .i64 frm, .slice sa T.length sc, .int .i64 y3, .int .i64 y4, .int .i64 x5, .int .i64 y6, .int .i64 y7, .int .i64 x8, .int .i64 y9, .string (text.extract (p + 1 + 18) text.size)] (w9.setCell ⟨w.heap.size + 1 + 1, 10, none⟩ (.string (text.extract (p + 1 + 18) text.size)))) := H9.out.store 10 _
      go_wp2_with (first | (refine wpList_load_row rfl 175 (.tmp 5) rfl (w.heap.size + 1 + 1) rfl _ _ _ _ H10.out.fr Tryz.underlying175 rfl (by kernel_rfl) ?_) | (refine wpList_store_row rfl 175 (.tmp 2) (.tmp 141) rfl w.heap.size _ rfl rfl _ _ H10.out.res (by kernel_rfl) rfl (frOne _ _ _ _ _ _ _ _ _ _ _ _ _) ?_))
      exact sOk (f := ⟨dest, frm, T, y3, y4, x5, y6, y7, x8, y9, text.extract (p + 1 + 18) text.size⟩) H10.out hk.out.symm _ rfl rfl rfl
    have hk : Hid (_ = sRun text) := (if_neg (by omega)).symm.trans hk.out
    have x2' : ¬ (x : Int) = 2 := by omega
    by_cases x1 : x = 1
    rotate_left
    · have hr : Hid (sRun text = (noFr, 3)) := by
        have := hk.out
        rw [if_pos (by omega)] at this
        exact this.symm
      have x1' : ¬ (x : Int) = 1 := by omega
      go_wp2_with (first | (refine wpList_load_row rfl 175 (.tmp 4) rfl (w.heap.size + 1) rfl _ _ _ _ H.out.non Tryz.underlying175 rfl (by kernel_rfl) ?_) | (refine wpList_store_row rfl 175 (.tmp 2) (.tmp 32) rfl w.heap.size _ rfl rfl _ _ H.out.res (by kernel_rfl) rfl (frOne _ _ _ _ _ _ _ _ _ _ _ _ _) ?_))
      exact sRet H.out (code := 3) hr.out _ rfl rfl rfl
    have hk : Hid (sTag text dest frm k p T = sRun text) := (if_neg (by omega)).symm.trans hk.out
    have x1' : (x : Int) = 1 := by omega
    have c2 : wr.cell? ⟨w.heap.size + 1 + 1, 2, none⟩ = some (.slice sa T.length sc) := H.out.fr.cell 2 rfl
    cases k with
    | zero =>
      have hr : Hid (sRun text = (noFr, 2)) := hk.out.symm
      have hTa : 2 ≤ (T.length : Int) := by omega
      have hTb : (T.length : Int) ≤ 2 := by omega
      go_wp2_with (first | (refine wpList_load_row rfl 175 (.tmp 4) rfl (w.heap.size + 1) rfl _ _ _ _ H.out.non Tryz.underlying175 rfl (by kernel_rfl) ?_) | (refine wpList_store_row rfl 175 (.tmp 2) (.tmp 37) rfl w.heap.size _ rfl rfl _ _ H.out.res (by kernel_rfl) rfl (frOne _ _ _ _ _ _ _ _ _ _ _ _ _) ?_))
      exact sRet H.out (code := 2) hr.out _ rfl rfl rfl
    | succ k =>
      have hT1 : (T.length : Int) < 2 := by omega
      have hk : Hid ((if text.size < p + 3 then (noFr, 1) else if 4095 < numAt text (p + 1) 2 then (noFr, 2) else sKind text dest frm k (p + 3) (T ++ [numAt text (p + 1) 2])) = sRun text) := hk.out
      by_cases e3 : text.size < p + 3
      · have hr : Hid (sRun text = (noFr, 1)) := by
          have := hk.out
          rw [if_pos e3] at this
          exact this.symm
        have e3' : (text.size : Int) < p + 3 := by omega
        go_wp2_with (first | (refine wpList_load_row rfl 175 (.tmp 4) rfl (w.heap.size + 1) rfl _ _ _ _ H.out.non Tryz.underlying175 rfl (by kernel_rfl) ?_) | (refine wpList_store_row rfl 175 (.tmp 2) (.tmp 43) rfl w.heap.size _ rfl rfl _ _ H.out.res (by kernel_rfl) rfl (frOne _ _ _ _ _ _ _ _ _ _ _ _ _) ?_))
        exact sRet H.out (code := 1) hr.out _ rfl rfl rfl
      have hk : Hid (_ = sRun text) := (if_neg e3).symm.trans hk.out
      have e3' : ¬ (text.size : Int) < p + 3 := by omega
      have N := fun w1 => specNumber text (p + 1) 2 (by decide) (by omega) hsz w1
      obtain ⟨n0, n1⟩ := numAt_lt text (p + 1) 2 (by decide)
      generalize numAt text (p + 1) 2 = nn at hk N n0 n1
      have N' : Hid _ := N
      clear N
      go_wp2_with fail
      refine (N'.out _).mono ?_
      rintro e w' ⟨rfl, rfl⟩
      by_cases e4 : 4095 < nn
      · have hr : Hid (sRun text = (noFr, 2)) := by
          have := hk.out
          rw [if_pos e4] at this
          exact this.symm
        go_wp2_with (first | (refine wpList_load_row rfl 175 (.tmp 4) rfl (w.heap.size + 1) rfl _ _ _ _ H.out.non Tryz.underlying175 rfl (by kernel_rfl) ?_) | (refine wpList_store_row rfl 175 (.tmp 2) (.tmp 50) rfl w.heap.size _ rfl rfl _ _ H.out.res (by kernel_rfl) rfl (frOne _ _ _ _ _ _ _ _ _ _ _ _ _) ?_))
        exact sRet H.out (code := 2) hr.out _ rfl rfl rfl
      have hk : Hid (_ = sRun text) := (if_neg e4).symm.trans hk.out
      have lf := H.out.fr.under
      go_wp2_with (at_builtin; refine row_iapp1 rfl (.tmp 52) (.tmp 54) rfl (w.heap.size + 1 + 1 + 1) _ T nn rfl H.out.row rfl ?_ ?_ ?_)
      · omega
      · exact lf
      intro v' w11 r11 b11
      obtain ⟨sa', sc', rfl⟩ := r11.shape
      have H11 : Hid (Ss w (.slice sa' (T ++ [nn]).length sc') (T ++ [nn]) (csOf dest frm (.slice sa T.length sc)) w11) := H.out.grow b11 r11
      have g2 : w11.cell? ⟨w.heap.size + 1 + 1, 2, none⟩ = some (.slice sa T.length sc) := H11.out.fr.cell 2 rfl
      have f2 := H11.out.fr.ice 2
      simp only [List.length_append, List.length_singleton] at H11
      clear r11 b11
      go_wp2
      go_roundw
      case rel => exact ⟨k, p + 3, T ++ [nn], .slice sa' (T.length + 1) sc', by simp; omega, by omega, by go_num, H11.out.store 2 _, hk⟩
      case measure => simp [intOf]; omega
end Go.Proofs.YtgebghkcikmfaaaGreatDoor
