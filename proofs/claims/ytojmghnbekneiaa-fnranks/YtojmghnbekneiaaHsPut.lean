/-
  One number of a list, or of a record, put (Host). By the verifier, by program.
-/
import Derived.Test.YtojmghnbekneiaaHsPlain
namespace Go.Proofs.Ytojmghnbekneiaa
open Go.RowKit

section
variable {b t : Nat} {w : World} {v : Value} {rs : List Hsr} {l : List Hs}
theorem HsV.put (h : HsV b t w v rs l) {j i : Nat} (hj : j < l.length) (hi : i < (hsAt l j).flows.length) {x off c : Nat} (e : (hsrAt rs j).hd = .slice (some ⟨x, off, none⟩) (hsAt l j).flows.length c) (z : Int) :
    HsV b t (w.setCell ⟨x, off + i, none⟩ (.int .i64 z)) v rs (l.set j ⟨(hsAt l j).turn, (hsAt l j).flows.set i z⟩) := by
  have hr := h.row j hj
  unfold IntIn at hr
  rw [e] at hr
  have hp := SlIn.put hr i (by simpa using hi) (.int .i64 z)
  refine h.list hj rfl (by simp) ?_ ?_
  · unfold IntIn
    rw [e, List.length_set, List.map_set]
    exact hp
  · refine (turn_set _ _ _ _).wide ?_
    rintro k o ⟨rfl, rfl⟩
    rw [e]
    exact ⟨off, _, c, rfl, by omega, by omega⟩

theorem HsV.putTurn (h : HsV b t w v rs l) {j : Nat} (hj : j < l.length) {x off c : Nat} (e : v = .slice (some ⟨x, off, none⟩) l.length c) (z : Int) :
    HsV b t (w.setCell ⟨x, off + j * 2, none⟩ (.int .i64 z)) v (rs.set j ⟨z, (hsrAt rs j).hd⟩) (l.set j ⟨z, (hsAt l j).flows⟩) := by
  have hl := h.len
  have hcl := hscells_length rs
  have ho := h.outer
  rw [e] at ho
  have hp := SlIn.put ho (j * 2) (by omega) (.int .i64 z)
  have hnum := h.num j hj
  have hset : (hscells rs).set (j * 2) (.int .i64 z) = hscells (rs.set j ⟨z, (hsrAt rs j).hd⟩) := by
    rw [← hscells_set rs j ⟨z, (hsrAt rs j).hd⟩]
    have hg := hscells_get rs j (by omega)
    apply List.ext_getElem?
    intro i
    simp only [List.getElem?_set]
    repeat' split
    all_goals first | rfl | (exfalso; omega) | skip
    all_goals (try subst_vars)
    all_goals first | rfl | (exfalso; simp only [List.length_set] at *; omega) | (simp only [hg]; done) | (rw [hg.1]) | (rw [hg.2]) | (rw [hg.2.1]) | (rw [hg.2.2])
  rw [hset] at hp
  have := h.nums (r' := ⟨z, (hsAt l j).flows⟩) hj rfl (w' := w.setCell ⟨x, off + (j * 2), none⟩ (.int .i64 z)) (by rw [e]; exact hp) ?_
  · exact this
  · refine (turn_set _ _ _ _).wide ?_
    rintro k o ⟨rfl, rfl⟩
    rw [e]
    exact ⟨off, _, c, rfl, by omega, by omega⟩

end
end Go.Proofs.Ytojmghnbekneiaa
