/-
  The leaves or the steers of a gate laid later: where its memory lies. By the verifier, by program.
-/
import Derived.Test.YtfkkmjejmflgjaaQ7GtFn
namespace Go.Proofs.Ytfkkmjejmflgjaa
open Go.RowKit
section
variable {lo hi b t : Nat} {f : Gf}
theorem Gf.In.lay3 (h : f.In lo hi) (hl : lo ≤ hi) (ht : hi ≤ t) : ({ f with b3 := hi, t3 := t } : Gf).In lo t := by
  obtain ⟨l1, h1, l2, h2, l3, h3, l4, h4, l5, h5, l6, h6, l7, h7⟩ := h
  constructor <;> (try simp only) <;> omega
theorem Gf.Apart.lay3 (ap : f.Apart) (h : f.In lo hi) : ({ f with b3 := hi, t3 := t } : Gf).Apart := by
  obtain ⟨l1, h1, l2, h2, l3, h3, l4, h4, l5, h5, l6, h6, l7, h7⟩ := h
  obtain ⟨p12, p13, p14, p15, p16, p17, p23, p24, p25, p26, p27, p34, p35, p36, p37, p45, p46, p47, p56, p57, p67⟩ := ap
  constructor <;> (try simp only) <;> omega
theorem Gf.In.lay4 (h : f.In lo hi) (hl : lo ≤ hi) (ht : hi ≤ t) : ({ f with b4 := hi, t4 := t } : Gf).In lo t := by
  obtain ⟨l1, h1, l2, h2, l3, h3, l4, h4, l5, h5, l6, h6, l7, h7⟩ := h
  constructor <;> (try simp only) <;> omega
theorem Gf.Apart.lay4 (ap : f.Apart) (h : f.In lo hi) : ({ f with b4 := hi, t4 := t } : Gf).Apart := by
  obtain ⟨l1, h1, l2, h2, l3, h3, l4, h4, l5, h5, l6, h6, l7, h7⟩ := h
  obtain ⟨p12, p13, p14, p15, p16, p17, p23, p24, p25, p26, p27, p34, p35, p36, p37, p45, p46, p47, p56, p57, p67⟩ := ap
  constructor <;> (try simp only) <;> omega
theorem Gf.In.lay5 (h : f.In lo hi) (hl : lo ≤ hi) (ht : hi ≤ t) : ({ f with b5 := hi, t5 := t } : Gf).In lo t := by
  obtain ⟨l1, h1, l2, h2, l3, h3, l4, h4, l5, h5, l6, h6, l7, h7⟩ := h
  constructor <;> (try simp only) <;> omega
theorem Gf.Apart.lay5 (ap : f.Apart) (h : f.In lo hi) : ({ f with b5 := hi, t5 := t } : Gf).Apart := by
  obtain ⟨l1, h1, l2, h2, l3, h3, l4, h4, l5, h5, l6, h6, l7, h7⟩ := h
  obtain ⟨p12, p13, p14, p15, p16, p17, p23, p24, p25, p26, p27, p34, p35, p36, p37, p45, p46, p47, p56, p57, p67⟩ := ap
  constructor <;> (try simp only) <;> omega
theorem Gf.In.lay6 (h : f.In lo hi) (hl : lo ≤ hi) (ht : hi ≤ t) : ({ f with b6 := hi, t6 := t } : Gf).In lo t := by
  obtain ⟨l1, h1, l2, h2, l3, h3, l4, h4, l5, h5, l6, h6, l7, h7⟩ := h
  constructor <;> (try simp only) <;> omega
theorem Gf.Apart.lay6 (ap : f.Apart) (h : f.In lo hi) : ({ f with b6 := hi, t6 := t } : Gf).Apart := by
  obtain ⟨l1, h1, l2, h2, l3, h3, l4, h4, l5, h5, l6, h6, l7, h7⟩ := h
  obtain ⟨p12, p13, p14, p15, p16, p17, p23, p24, p25, p26, p27, p34, p35, p36, p37, p45, p46, p47, p56, p57, p67⟩ := ap
  constructor <;> (try simp only) <;> omega
theorem Gf.In.lay7 (h : f.In lo hi) (hl : lo ≤ hi) (ht : hi ≤ t) : ({ f with b7 := hi, t7 := t } : Gf).In lo t := by
  obtain ⟨l1, h1, l2, h2, l3, h3, l4, h4, l5, h5, l6, h6, l7, h7⟩ := h
  constructor <;> (try simp only) <;> omega
theorem Gf.Apart.lay7 (ap : f.Apart) (h : f.In lo hi) : ({ f with b7 := hi, t7 := t } : Gf).Apart := by
  obtain ⟨l1, h1, l2, h2, l3, h3, l4, h4, l5, h5, l6, h6, l7, h7⟩ := h
  obtain ⟨p12, p13, p14, p15, p16, p17, p23, p24, p25, p26, p27, p34, p35, p36, p37, p45, p46, p47, p56, p57, p67⟩ := ap
  constructor <;> (try simp only) <;> omega
end
end Go.Proofs.Ytfkkmjejmflgjaa
