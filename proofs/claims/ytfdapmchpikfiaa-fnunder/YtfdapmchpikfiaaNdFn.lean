/-
  Trees as plain data: which are right, the path of a node, filled, paid, when there is so much. By the verifier.
-/
import Derived.Test.YtfdapmchpikfiaaNdPlain
import Derived.Test.YtfdapmchpikfiaaPzFactP
namespace Go.Proofs.Ytfdapmchpikfiaa
open Go.RowKit

/-- Is it right at its place? -/
def Nd.fits (x : Nd) (k : Nat) (t0 : Int) : Bool := x.pz.ok && (decide (x.pz.tm = t0) && (if k = 0 then decide (x.up = -1) else (decide (0 ≤ x.up) && decide (x.up < (k : Int)))))
def treeB (l : List Nd) (k : Nat) : Bool := (ndAt l k).fits k (ndAt l 0).pz.tm
/-- A right tree. -/
def tok (l : List Nd) : Bool := decide (1 ≤ l.length) && (decide (l.length ≤ 12) && (List.range l.length).all (treeB l))
theorem tok_iff {l : List Nd} : tok l = true ↔ 1 ≤ l.length ∧ l.length ≤ 12 ∧ ∀ k, k < l.length → treeB l k = true := by
  unfold tok
  simp only [Bool.and_eq_true, decide_eq_true_eq, List.all_eq_true, List.mem_range]
theorem treeB_iff {l : List Nd} {k : Nat} : treeB l k = true ↔ (ndAt l k).pz.ok = true ∧ (ndAt l k).pz.tm = (ndAt l 0).pz.tm ∧ (k = 0 → (ndAt l k).up = -1) ∧ (k ≠ 0 → 0 ≤ (ndAt l k).up ∧ (ndAt l k).up < k) := by
  unfold treeB Nd.fits
  by_cases h : k = 0
  · simp only [Bool.and_eq_true, decide_eq_true_eq, if_pos h]
    constructor
    · rintro ⟨a, b, c⟩; exact ⟨a, b, fun _ => c, fun g => absurd h g⟩
    · rintro ⟨a, b, c, _⟩; exact ⟨a, b, c h⟩
  · simp only [Bool.and_eq_true, decide_eq_true_eq, if_neg h]
    constructor
    · rintro ⟨a, b, c⟩; exact ⟨a, b, fun g => absurd g h, fun _ => c⟩
    · rintro ⟨a, b, _, c⟩; exact ⟨a, b, c h⟩
theorem tok_at {l : List Nd} (h : tok l = true) {k : Nat} (hk : k < l.length) : (ndAt l k).pz.ok = true ∧ (ndAt l k).pz.tm = (ndAt l 0).pz.tm ∧ -1 ≤ (ndAt l k).up ∧ (ndAt l k).up < k ∧ (k ≠ 0 → 0 ≤ (ndAt l k).up) := by
  obtain ⟨a, b, c, d⟩ := treeB_iff.1 ((tok_iff.1 h).2.2 k hk)
  refine ⟨a, b, ?_⟩
  by_cases g : k = 0
  · have := c g; omega
  · have := d g; omega
/-- A node of a right tree. -/
def tin (l : List Nd) (n : Int) : Bool := tok l && (decide (0 ≤ n) && decide (n < (l.length : Int)))
theorem tin_iff {l : List Nd} {n : Int} : tin l n = true ↔ tok l = true ∧ 0 ≤ n ∧ n < l.length := by
  unfold tin
  simp only [Bool.and_eq_true, decide_eq_true_eq]

def pathF (l : List Nd) : Nat → Int → List Int
  | 0, _ => []
  | f + 1, n => if n < 0 then [] else n :: pathF l f (ndAt l n.toNat).up
/-- The node, its Up, and so on. -/
def path (l : List Nd) (n : Int) : List Int := pathF l (n + 1).toNat n
theorem pathF_same {l : List Nd} (h : tok l = true) : ∀ (f1 f2 : Nat) (n : Int), n < l.length → (n + 1).toNat ≤ f1 → (n + 1).toNat ≤ f2 → pathF l f1 n = pathF l f2 n := by
  intro f1
  induction f1 with
  | zero =>
    intro f2 n hl h1 h2
    cases f2 with
    | zero => rfl
    | succ f2 =>
      have : n < 0 := by omega
      simp [pathF, this]
  | succ f1 ih =>
    intro f2 n hl h1 h2
    by_cases hn : n < 0
    · cases f2 with
      | zero => simp [pathF, hn]
      | succ f2 => simp [pathF, hn]
    · cases f2 with
      | zero => omega
      | succ f2 =>
        have hk := tok_at h (k := n.toNat) (by omega)
        simp only [pathF, if_neg hn]
        rw [ih f2 (ndAt l n.toNat).up (by omega) (by omega) (by omega)]
theorem path_end (l : List Nd) : path l (-1) = [] := rfl
theorem path_next {l : List Nd} {n : Int} (h : tok l = true) (h0 : 0 ≤ n) (h1 : n < l.length) : path l n = n :: path l (ndAt l n.toNat).up := by
  have hk := tok_at h (k := n.toNat) (by omega)
  unfold path
  obtain ⟨m, hm⟩ : ∃ m, (n + 1).toNat = m + 1 := ⟨n.toNat, by omega⟩
  rw [hm]
  simp only [pathF, if_neg (show ¬ n < 0 by omega)]
  rw [pathF_same h m _ _ (by omega) (by omega) (Nat.le_refl _)]
/-- Of what is told of a node and its Up, told of the whole path. -/
theorem path_rec {l : List Nd} (h : tok l = true) {P : Int → List Int → Prop} (e : P (-1) []) (s : ∀ (n : Int) (p : List Int), 0 ≤ n → n < l.length → p = path l (ndAt l n.toNat).up → P (ndAt l n.toNat).up p → P n (n :: p)) :
    ∀ (f : Nat) (n : Int), -1 ≤ n → n < l.length → (n + 1).toNat ≤ f → P n (path l n) := by
  intro f
  induction f with
  | zero =>
    intro n a b c
    obtain rfl : n = -1 := by omega
    exact e
  | succ f ih =>
    intro n a b c
    by_cases hn : n < 0
    · obtain rfl : n = -1 := by omega
      exact e
    · have hk := tok_at h (k := n.toNat) (by omega)
      rw [path_next h (by omega) b]
      exact s n _ (by omega) b rfl (ih _ (by omega) (by omega) (by omega))
theorem path_mem {l : List Nd} {n : Int} (h : tok l = true) (h0 : -1 ≤ n) (h1 : n < l.length) : ∀ x ∈ path l n, 0 ≤ x ∧ x ≤ n := by
  refine path_rec h (P := fun n p => ∀ x ∈ p, 0 ≤ x ∧ x ≤ n) (by simp) ?_ _ n h0 h1 (Nat.le_refl _)
  intro n p a b _ ih x hx
  have hk := tok_at h (k := n.toNat) (by omega)
  rcases List.mem_cons.1 hx with rfl | hx
  · omega
  · have := ih x hx; omega
theorem path_len {l : List Nd} {n : Int} (h : tok l = true) (h0 : -1 ≤ n) (h1 : n < l.length) : ((path l n).length : Int) ≤ n + 1 := by
  refine path_rec h (P := fun n p => (p.length : Int) ≤ n + 1) (by simp) ?_ _ n h0 h1 (Nat.le_refl _)
  intro n p a b _ ih
  have hk := tok_at h (k := n.toNat) (by omega)
  simp only [List.length_cons]
  omega
theorem path_pos {l : List Nd} {n : Int} (h : tok l = true) (h0 : 0 ≤ n) (h1 : n < l.length) : 0 < (path l n).length := by
  rw [path_next h h0 h1]; simp
theorem path_nodup {l : List Nd} {n : Int} (h : tok l = true) (h0 : -1 ≤ n) (h1 : n < l.length) : (path l n).Nodup := by
  refine path_rec h (P := fun _ p => p.Nodup) (by simp) ?_ _ n h0 h1 (Nat.le_refl _)
  intro n p a b e ih
  have hk := tok_at h (k := n.toNat) (by omega)
  rw [List.nodup_cons]
  refine ⟨fun hx => ?_, ih⟩
  rw [e] at hx
  have := path_mem h (by omega) (by omega) n hx
  omega
/-- Each is the Up of the one ahead of it, and below it; the last is 0. -/
theorem path_ups {l : List Nd} {n : Int} (h : tok l = true) (h0 : -1 ≤ n) (h1 : n < l.length) : ∀ i, i + 1 < (path l n).length → (path l n)[i + 1]?.getD 0 = (ndAt l ((path l n)[i]?.getD 0).toNat).up ∧ (path l n)[i + 1]?.getD 0 < (path l n)[i]?.getD 0 := by
  refine path_rec h (P := fun _ p => ∀ i, i + 1 < p.length → p[i + 1]?.getD 0 = (ndAt l (p[i]?.getD 0).toNat).up ∧ p[i + 1]?.getD 0 < p[i]?.getD 0) (by simp) ?_ _ n h0 h1 (Nat.le_refl _)
  intro n p a b e ih i hi
  have hk := tok_at h (k := n.toNat) (by omega)
  cases i with
  | zero =>
    have hp : 0 < p.length := by simpa using hi
    have hu : 0 ≤ (ndAt l n.toNat).up := by
      apply Classical.byContradiction
      intro g
      have e1 : (ndAt l n.toNat).up = -1 := by omega
      rw [e, e1, path_end] at hp
      simp at hp
    rw [e, path_next h hu (by omega)]
    simp
    omega
  | succ i =>
    have := ih i (by simpa using hi)
    simpa using this
theorem path_last {l : List Nd} {n : Int} (h : tok l = true) (h0 : 0 ≤ n) (h1 : n < l.length) : (path l n)[(path l n).length - 1]?.getD 0 = 0 := by
  refine path_rec h (P := fun n p => p[p.length - 1]?.getD 0 = 0) (by simp) ?_ _ n (by omega) h1 (Nat.le_refl _)
  intro n p a b e ih
  have hk := tok_at h (k := n.toNat) (by omega)
  cases p with
  | nil =>
    by_cases g : n.toNat = 0
    · simp; omega
    · have := hk.2.2.2.2 g
      have := path_pos h this (by omega)
      rw [← e] at this
      simp at this
  | cons x p =>
    simpa using ih
/-- The path, or nothing. -/
def pathOf (l : List Nd) (n : Int) : List Int := if tin l n = true then path l n else []
theorem pathOf_len (l : List Nd) (n : Int) : (pathOf l n).length ≤ 12 := by
  unfold pathOf
  split
  · rename_i h
    have g := tin_iff.1 h
    have := path_len g.1 (by omega) g.2.2
    have := (tok_iff.1 g.1).2.1
    omega
  · simp

/-- All filled. -/
def tfill (l : List Nd) (now : Int) : List Nd := l.map fun x => ⟨x.up, x.pz.fill now⟩
def tnow (l : List Nd) (now : Int) : Bool := inB (ndAt l 0).pz.tm 1099511627776 now
def tfilled (l : List Nd) (now : Int) : List Nd := if tok l = true then (if tnow l now = true then tfill l now else l) else []
/-- Has each on the path so much? -/
def canP (l : List Nd) (p : List Int) (size : Int) : Bool := p.all fun x => decide (size ≤ (ndAt l x.toNat).pz.level)
def can (l : List Nd) (n size : Int) : Bool := tin l n && (decide (0 ≤ size) && canP l (path l n) size)
theorem can_iff {l : List Nd} {n size : Int} : can l n size = true ↔ tin l n = true ∧ 0 ≤ size ∧ ∀ x ∈ path l n, size ≤ (ndAt l x.toNat).pz.level := by
  unfold can canP
  simp only [Bool.and_eq_true, decide_eq_true_eq, List.all_eq_true]
/-- So much less. -/
def Nd.less (x : Nd) (size : Int) : Nd := ⟨x.up, ⟨x.pz.rate, x.pz.burst, x.pz.level - size, x.pz.tm⟩⟩
def payP (l : List Nd) (size : Int) : List Int → List Nd
  | [] => l
  | x :: p => payP (l.set x.toNat ((ndAt l x.toNat).less size)) size p
def paid (l : List Nd) (n size : Int) : List Nd := if tok l = true then (if can l n size = true then payP l size (path l n) else l) else []
/-- When each on the path has so much. -/
def whenF (l : List Nd) (size : Int) : List Int → Int → Int
  | [], t => t
  | x :: p, t => if (ndAt l x.toNat).pz.whenL size < 0 then -1 else whenF l size p (max t ((ndAt l x.toNat).pz.whenL size))
def whenCan (l : List Nd) (n size : Int) : Int := if tin l n = true ∧ 0 ≤ size then whenF l size (path l n) 0 else -1
theorem payP_len (size : Int) : ∀ (p : List Int) (l : List Nd), (payP l size p).length = l.length
  | [], _ => rfl
  | x :: p, l => by rw [payP, payP_len size p]; simp
theorem tfill_len (l : List Nd) (now : Int) : (tfill l now).length = l.length := by simp [tfill]
theorem tfilled_len (l : List Nd) (now : Int) : (tfilled l now).length ≤ l.length := by
  unfold tfilled
  split
  · split
    · rw [tfill_len]; exact Nat.le_refl _
    · exact Nat.le_refl _
  · simp
theorem paid_len (l : List Nd) (n size : Int) : (paid l n size).length ≤ l.length := by
  unfold paid
  split
  · split
    · rw [payP_len]; exact Nat.le_refl _
    · exact Nat.le_refl _
  · simp
theorem ndAt_set {l : List Nd} {k j : Nat} {x : Nd} (hk : k < l.length) : ndAt (l.set k x) j = if k = j then x else ndAt l j := by
  unfold ndAt
  rw [List.getElem?_set]
  by_cases h : k = j
  · subst h; simp [hk]
  · simp [h]
theorem ndAt_tfill {l : List Nd} {k : Nat} (now : Int) (hk : k < l.length) : ndAt (tfill l now) k = ⟨(ndAt l k).up, (ndAt l k).pz.fill now⟩ := by
  unfold ndAt tfill
  simp [hk]
theorem payP_at (size : Int) : ∀ (p : List Int) (l : List Nd), p.Nodup → (∀ x ∈ p, 0 ≤ x ∧ x < l.length) → ∀ k, k < l.length → ndAt (payP l size p) k = if (k : Int) ∈ p then (ndAt l k).less size else ndAt l k
  | [], _, _, _, k, _ => by simp [payP]
  | x :: p, l, hn, hb, k, hk => by
    have hx := hb x (List.mem_cons_self ..)
    rw [List.nodup_cons] at hn
    rw [payP, payP_at size p _ hn.2 (fun y hy => by simpa using hb y (List.mem_cons_of_mem _ hy)) k (by simpa using hk), ndAt_set (by omega)]
    by_cases e : x.toNat = k
    · have e2 : (k : Int) = x := by omega
      rw [e2, if_neg hn.1, if_pos e, if_pos (List.mem_cons_self ..), e]
    · have e2 : ¬ (k : Int) = x := by omega
      rw [if_neg e]
      by_cases h : (k : Int) ∈ p
      · rw [if_pos h, if_pos (List.mem_cons_of_mem _ h)]
      · rw [if_neg h, if_neg (by simp [e2, h])]
end Go.Proofs.Ytfdapmchpikfiaa
