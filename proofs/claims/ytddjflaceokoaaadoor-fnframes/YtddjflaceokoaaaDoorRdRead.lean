/-
  The walk of the program's ReadFrame: the frame that is read, or the empty one and the code of what was wrong first. By the verifier.
-/
import Derived.Test.YtddjflaceokoaaaDoorRdFrame
import Derived.Laws.ResultCell
namespace Go.Proofs.YtddjflaceokoaaaDoor
open Go.RowKit

/-- The empty frame. -/
def noFr : Fr := ⟨0, 0, [], 0, 0, 0, 0, 0, 0, 0, ⟨#[]⟩⟩
/-- What is read. -/
def readRes (text : ByteArray) : Fr × Int := if (frameRun text).2.code = 0 then ((frameRun text).1, 0) else (noFr, (frameRun text).2.code)
theorem IRow.mono {base base' : Nat} {w : World} {v : Value} {xs : List Int} (h : IRow base w v xs) (hb : base' ≤ base) : IRow base' w v xs := ⟨h.1, h.2.imp id fun ⟨g, cap, cur, h1, h2, h3⟩ => ⟨g, cap, cur, h1, Nat.le_trans hb h2, h3⟩⟩
theorem irow_other {base B : Nat} {w : World} {v : Value} {xs : List Int} {cs : Array Value} (h : IRow base w v xs) (x : Boxed w B cs 26) (cs' : Array Value) : IRow base (w.setRow B cs') v xs := by
  refine ⟨h.1, h.2.imp id ?_⟩
  rintro ⟨g0, cap, cur, h1, h2, h3, h4⟩
  have hne : g0 ≠ B := by
    rintro rfl
    unfold Boxed at x
    rw [x] at h3
    injection h3 with h3
    injection h3 with _ h3 _
    exact absurd h3 (by decide)
  exact ⟨g0, cap, cur, h1, h2, by rw [setRow_other _ _ _ _ hne]; exact h3, h4⟩
/-- What a call leaves. -/
def RdPost (text : ByteArray) (w : World) (e : Ending) (w' : World) : Prop :=
  ∃ a cap, e = .returned (.tuple #[(readRes text).1.val a cap, .int .i64 (readRes text).2]) ∧ IRow w.heap.size w' (.slice a (readRes text).1.tags.length cap) (readRes text).1.tags ∧ Below w.heap.size w w'

theorem rdEnd {w : World} {B : Nat} {cs : Array Value} {code : Value} {tmps : Array Value} (hg : w.heap[B]? = some (.cells cs 26 (0, 0))) (h2 : tmps.getD 2 undef = .pointer (some ⟨B, 0, none⟩)) (h3 : tmps.getD 3 undef = code) (hi : (Tryd.prog.info? 26).map (·.size) = some cs.size) :
    (results Tryd.f9 tmps).run Tryd.prog w = .ok (.tuple #[.agg cs, code]) w := by
  rw [results_cell_tmp Tryd.results9, h2, h3]
  simp [asAddr, run_loadVar_row w B _ 26 cs (0, 0) _ hg Tryd.underlying26 rfl hi, Result.andThen]

set_option maxHeartbeats 6400000 in
set_option maxRecDepth 100000 in
theorem implRead {es em : Addr} (text : ByteArray) (hsz : text.size ≤ 1048576) (w : World) (G : Hid (Gl es em w)) :
    Calls Tryd.prog 9 #[.string text] w (RdPost text w) := by
  go_enter Tryd.func9, Tryd.ntmps9
  go_wp2_with fail
  have hres := Boxed.new w zeroFr 26
  have hbox := Boxed.new (w.alloc (.cells zeroFr 26)) #[.string text, .int .i64 0, .nilIface] 47
  have hs1 : (w.alloc (.cells zeroFr 26)).heap.size = w.heap.size + 1 := by simp
  rw [hs1] at hbox
  have g2 : Below w.heap.size w ((w.alloc (.cells zeroFr 26)).alloc (.cells #[.string text, .int .i64 0, .nilIface] 47)) := bel_alloc (bel_alloc (Below.refl _ w) (Nat.le_refl _) _) (Nat.le_refl _) _
  have hres2 := hres.below (b := w.heap.size + 1) (by omega) ((Below.refl _ (w.alloc (.cells zeroFr 26))).alloc (by simp) (.cells #[.string text, .int .i64 0, .nilIface] 47))
  have R : Hid (Rd es em w (w.heap.size + 1) text ⟨0, none⟩ _) := ⟨g2, Nat.le_succ _, hbox, Nat.zero_le _⟩
  have Hr : Hid (Boxed _ w.heap.size zeroFr 26) := hres2
  clear hres hbox hs1 g2 hres2
  refine (rdFrame G hsz _ R).mono ?_
  rintro e w3 ⟨a3, cap3, rfl, row3, R3, K3⟩
  have H3 : Hid (IRow w.heap.size w3 (.slice a3 (frameRun text).1.tags.length cap3) (frameRun text).1.tags ∧ Rd es em w (w.heap.size + 1) text (frameRun text).2 w3 ∧ Boxed w3 w.heap.size zeroFr 26) :=
    ⟨row3.mono (by simp; omega), R3, K3.boxed Hr.out (by omega)⟩
  have c2 : w3.cell? ⟨w.heap.size + 1, 2, none⟩ = some (errVal es em (frameRun text).2.err) := R3.box.cell 2 rfl
  have l3 : w.heap.size + 1 < w3.heap.size := R3.box.lt
  clear row3 R3 K3 R Hr
  have hres : Hid (readRes text = if (frameRun text).2.code = 0 then ((frameRun text).1, 0) else (noFr, (frameRun text).2.code)) := rfl
  have C := fun w1 (G1 : Hid (Gl es em w1)) => implCodeOf es em (frameRun text).2 w1 G1
  generalize (frameRun text).2.code = code at hres C
  generalize errVal es em (frameRun text).2.err = ev at c2 C
  generalize hσ : (frameRun text).2 = σ at H3
  generalize hf : (frameRun text).1 = f at H3 hres ⊢
  have C' : Hid _ := C
  clear C hσ hf
  obtain ⟨dest, frm, tags, src, dst, proto, sport, dport, mark, sum, body⟩ := f
  simp only [Fr.val] at H3 ⊢
  go_wp2_with fail
  have b4 : Below w3.heap.size w3 (w3.alloc (.cells #[.int .i64 dest, .int .i64 frm, .slice a3 tags.length cap3, .int .i64 src, .int .i64 dst, .int .i64 proto, .int .i64 sport, .int .i64 dport, .int .i64 mark, .int .i64 sum, .string body] 26)) := (Below.refl _ _).alloc (Nat.le_refl _) _
  have hn := Boxed.new w3 #[.int .i64 dest, .int .i64 frm, .slice a3 tags.length cap3, .int .i64 src, .int .i64 dst, .int .i64 proto, .int .i64 sport, .int .i64 dport, .int .i64 mark, .int .i64 sum, .string body] 26
  refine (C'.out _ (G.out.below (H3.out.2.1.bel.trans (b4.mono (by omega))))).mono ?_
  rintro e w5 ⟨rfl, b5⟩
  have H5 : Hid (IRow w.heap.size w5 (.slice a3 tags.length cap3) tags ∧ Boxed w5 w.heap.size zeroFr 26 ∧ Boxed w5 w3.heap.size #[.int .i64 dest, .int .i64 frm, .slice a3 tags.length cap3, .int .i64 src, .int .i64 dst, .int .i64 proto, .int .i64 sport, .int .i64 dport, .int .i64 mark, .int .i64 sum, .string body] 26 ∧ Below w.heap.size w w5) := by
    have g : Below w3.heap.size w3 w5 := b4.trans (b5.mono (by simp))
    exact ⟨H3.out.1.carry fun k _ hk => g.block k hk, H3.out.2.2.below (by omega) g, hn.below (by simp) b5, H3.out.2.1.bel.trans (g.mono (by omega))⟩
  clear b4 hn b5 H3 c2
  by_cases hc : code = 0
  · have hres : Hid (readRes text = (⟨dest, frm, tags, src, dst, proto, sport, dport, mark, sum, body⟩, 0)) := by
      have := hres.out
      rw [if_pos hc] at this
      exact this
    subst hc
    go_wp2_with (first | (refine wpList_load_row rfl 26 (.tmp 5) rfl w3.heap.size rfl _ _ _ _ H5.out.2.2.1 Tryd.underlying26 rfl (by kernel_rfl) ?_) | (refine wpList_store_row rfl 26 (.tmp 2) (.tmp 17) rfl w.heap.size _ rfl rfl _ _ H5.out.2.1 (by kernel_rfl) rfl (frOne _ _ _ _ _ _ _ _ _ _ _ _ _) ?_))
    have hg := setRow_heap w5 w.heap.size _ #[.int .i64 dest, .int .i64 frm, .slice a3 tags.length cap3, .int .i64 src, .int .i64 dst, .int .i64 proto, .int .i64 sport, .int .i64 dport, .int .i64 mark, .int .i64 sum, .string body] _ _ H5.out.2.1
    refine bodyPost_ret (rdEnd hg rfl rfl (by kernel_rfl)) rfl ⟨a3, cap3, ?_, ?_, ?_⟩
    · rw [hres.out]; rfl
    · rw [hres.out]
      exact irow_other H5.out.1 H5.out.2.1 _
    · exact below_setRow H5.out.2.2.2 (Nat.le_refl _) _
  · have hres : Hid (readRes text = (noFr, code)) := by
      have := hres.out
      rw [if_neg hc] at this
      exact this
    go_wp2_with (refine wpList_store_row rfl 26 (.tmp 2) (.tmp 15) rfl w.heap.size _ rfl rfl _ _ H5.out.2.1 (by kernel_rfl) rfl (frOne _ _ _ _ _ _ _ _ _ _ _ _ _) ?_)
    have hg := setRow_heap w5 w.heap.size _ zeroFr _ _ H5.out.2.1
    refine bodyPost_ret (rdEnd hg rfl rfl (by kernel_rfl)) rfl ⟨none, 0, ?_, ?_, ?_⟩
    · rw [hres.out]; rfl
    · rw [hres.out]
      exact World.ownsRow_nil _ _ _ _
    · exact below_setRow H5.out.2.2.2 (Nat.le_refl _) _
end Go.Proofs.YtddjflaceokoaaaDoor
