/-
  One number of a list, or of a record, put (Flow). By the verifier, by program.
-/
import Derived.Test.YtllmkolchgmjoaaFwPlain
namespace Go.Proofs.Ytllmkolchgmjoaa
open Go.RowKit

section
variable {b t : Nat} {w : World} {v : Value} {rs : List Fwr} {l : List Fw}
theorem FwV.put (h : FwV b t w v rs l) {j i : Nat} (hj : j < l.length) (hi : i < (fwAt l j).sizes.length) {x off c : Nat} (e : (fwrAt rs j).hd = .slice (some ⟨x, off, none⟩) (fwAt l j).sizes.length c) (z : Int) :
    FwV b t (w.setCell ⟨x, off + i, none⟩ (.int .i64 z)) v rs (l.set j ⟨(fwAt l j).weight, (fwAt l j).finish, (fwAt l j).sizes.set i z⟩) := by
  have hr := h.row j hj
  unfold IntIn at hr
  rw [e] at hr
  have hp := SlIn.put hr i (by simpa using hi) (.int .i64 z)
  refine h.list hj rfl rfl (by simp) ?_ ?_
  · unfold IntIn
    rw [e, List.length_set, List.map_set]
    exact hp
  · refine (turn_set _ _ _ _).wide ?_
    rintro k o ⟨rfl, rfl⟩
    rw [e]
    exact ⟨off, _, c, rfl, by omega, by omega⟩

theorem FwV.putWeight (h : FwV b t w v rs l) {j : Nat} (hj : j < l.length) {x off c : Nat} (e : v = .slice (some ⟨x, off, none⟩) l.length c) (z : Int) :
    FwV b t (w.setCell ⟨x, off + j * 3, none⟩ (.int .i64 z)) v (rs.set j ⟨z, (fwrAt rs j).finish, (fwrAt rs j).hd⟩) (l.set j ⟨z, (fwAt l j).finish, (fwAt l j).sizes⟩) := by
  have hl := h.len
  have hcl := fwcells_length rs
  have ho := h.outer
  rw [e] at ho
  have hp := SlIn.put ho (j * 3) (by omega) (.int .i64 z)
  have hnum := h.num j hj
  have hset : (fwcells rs).set (j * 3) (.int .i64 z) = fwcells (rs.set j ⟨z, (fwrAt rs j).finish, (fwrAt rs j).hd⟩) := by
    rw [← fwcells_set rs j ⟨z, (fwrAt rs j).finish, (fwrAt rs j).hd⟩]
    have hg := fwcells_get rs j (by omega)
    apply List.ext_getElem?
    intro i
    simp only [List.getElem?_set]
    repeat' split
    all_goals first | rfl | (exfalso; omega) | skip
    all_goals (try subst_vars)
    all_goals first | rfl | (exfalso; simp only [List.length_set] at *; omega) | (simp only [hg]; done) | (rw [hg.1]) | (rw [hg.2]) | (rw [hg.2.1]) | (rw [hg.2.2])
  rw [hset] at hp
  have := h.nums (r' := ⟨z, (fwAt l j).finish, (fwAt l j).sizes⟩) hj rfl (w' := w.setCell ⟨x, off + (j * 3), none⟩ (.int .i64 z)) (by simp only [← hnum.2]; rw [e]; exact hp) ?_
  · simp only [← hnum.2] at this ⊢; exact this
  · refine (turn_set _ _ _ _).wide ?_
    rintro k o ⟨rfl, rfl⟩
    rw [e]
    exact ⟨off, _, c, rfl, by omega, by omega⟩

theorem FwV.putFinish (h : FwV b t w v rs l) {j : Nat} (hj : j < l.length) {x off c : Nat} (e : v = .slice (some ⟨x, off, none⟩) l.length c) (z : Int) :
    FwV b t (w.setCell ⟨x, off + j * 3 + 1, none⟩ (.int .i64 z)) v (rs.set j ⟨(fwrAt rs j).weight, z, (fwrAt rs j).hd⟩) (l.set j ⟨(fwAt l j).weight, z, (fwAt l j).sizes⟩) := by
  have hl := h.len
  have hcl := fwcells_length rs
  have ho := h.outer
  rw [e] at ho
  have hp := SlIn.put ho (j * 3 + 1) (by omega) (.int .i64 z)
  have hnum := h.num j hj
  have hset : (fwcells rs).set (j * 3 + 1) (.int .i64 z) = fwcells (rs.set j ⟨(fwrAt rs j).weight, z, (fwrAt rs j).hd⟩) := by
    rw [← fwcells_set rs j ⟨(fwrAt rs j).weight, z, (fwrAt rs j).hd⟩]
    have hg := fwcells_get rs j (by omega)
    apply List.ext_getElem?
    intro i
    simp only [List.getElem?_set]
    repeat' split
    all_goals first | rfl | (exfalso; omega) | skip
    all_goals (try subst_vars)
    all_goals first | rfl | (exfalso; simp only [List.length_set] at *; omega) | (simp only [hg]; done) | (rw [hg.1]) | (rw [hg.2]) | (rw [hg.2.1]) | (rw [hg.2.2])
  rw [hset] at hp
  have := h.nums (r' := ⟨(fwAt l j).weight, z, (fwAt l j).sizes⟩) hj rfl (w' := w.setCell ⟨x, off + (j * 3 + 1), none⟩ (.int .i64 z)) (by simp only [← hnum.1]; rw [e]; exact hp) ?_
  · simp only [← hnum.1] at this ⊢; exact this
  · refine (turn_set _ _ _ _).wide ?_
    rintro k o ⟨rfl, rfl⟩
    rw [e]
    exact ⟨off, _, c, rfl, by omega, by omega⟩

end
end Go.Proofs.Ytllmkolchgmjoaa
