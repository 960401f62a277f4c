/-
  Plain facts of trees: what is paid, what is filled, when it can, and no more than burst and rate under a node. By the verifier.
-/
import Derived.Test.YtfdapmchpikfiaaNdFn
namespace Go.Proofs.Ytfdapmchpikfiaa
open Go.RowKit

theorem pathOf_in {l : List Nd} {n : Int} (h : 0 < (pathOf l n).length) : tin l n = true ∧ pathOf l n = path l n := by
  unfold pathOf at h ⊢
  by_cases g : tin l n = true
  · exact ⟨g, if_pos g⟩
  · rw [if_neg g] at h; simp at h
theorem paid_is {l : List Nd} {n size : Int} (h : can l n size = true) : tok l = true ∧ (paid l n size).length = l.length ∧ ∀ k, k < l.length → ndAt (paid l n size) k = if (k : Int) ∈ path l n then (ndAt l k).less size else ndAt l k := by
  obtain ⟨h1, h2, h3⟩ := can_iff.1 h
  obtain ⟨g1, g2, g3⟩ := tin_iff.1 h1
  have e : paid l n size = payP l size (path l n) := by unfold paid; rw [if_pos g1, if_pos h]
  rw [e]
  exact ⟨g1, payP_len _ _ _, fun k hk => payP_at size _ l (path_nodup g1 (by omega) g3) (fun x hx => by have := path_mem g1 (by omega) g3 x hx; omega) k hk⟩
theorem less_ok {x : Nd} {size : Int} (h : x.pz.ok = true) (h0 : 0 ≤ size) (h1 : size ≤ x.pz.level) : (x.less size).pz.ok = true := by
  rw [Pz.ok_iff] at h ⊢
  unfold Nd.less
  simp only
  omega
theorem paid_tok {l : List Nd} {n size : Int} (h : can l n size = true) : tok (paid l n size) = true := by
  obtain ⟨p1, p2, p3⟩ := paid_is h
  obtain ⟨h1, h2, h3⟩ := can_iff.1 h
  have t := tok_iff.1 p1
  rw [tok_iff, p2]
  refine ⟨t.1, t.2.1, fun k hk => ?_⟩
  have e := treeB_iff.1 (t.2.2 k hk)
  rw [treeB_iff, p3 k hk, p3 0 (by omega)]
  have tm0 : (if ((0 : Nat) : Int) ∈ path l n then (ndAt l 0).less size else ndAt l 0).pz.tm = (ndAt l 0).pz.tm := by split <;> rfl
  rw [tm0]
  by_cases g : (k : Int) ∈ path l n
  · rw [if_pos g]
    refine ⟨less_ok e.1 h2 ?_, e.2.1, e.2.2.1, e.2.2.2⟩
    have := h3 _ g
    rwa [Int.toNat_natCast] at this
  · rw [if_neg g]
    exact e
theorem paid_level {l : List Nd} {n size : Int} (h : can l n size = true) {k : Nat} (hk : k < l.length) : (ndAt (paid l n size) k).pz.level = (ndAt l k).pz.level - (if (k : Int) ∈ path l n then size else 0) ∧ 0 ≤ size ∧ ((k : Int) ∈ path l n → size ≤ (ndAt l k).pz.level) ∧ 0 ≤ (ndAt l k).pz.level ∧ (ndAt l k).pz.level ≤ 100000 := by
  obtain ⟨p1, p2, p3⟩ := paid_is h
  obtain ⟨h1, h2, h3⟩ := can_iff.1 h
  have ok := Pz.ok_iff.1 (tok_at p1 hk).1
  rw [p3 k hk]
  refine ⟨?_, h2, fun g => by have := h3 _ g; rwa [Int.toNat_natCast] at this, by omega, by omega⟩
  by_cases g : (k : Int) ∈ path l n
  · rw [if_pos g, if_pos g]; rfl
  · rw [if_neg g, if_neg g]; omega
theorem paid_no {l : List Nd} {n size : Int} (h : can l n size = false) : paid l n size = if tok l = true then l else [] := by
  unfold paid
  rw [h]
  rfl
/-- Alike but for levels and times. -/
def Like (l m : List Nd) : Prop := m.length = l.length ∧ ∀ k, k < l.length → (ndAt m k).up = (ndAt l k).up ∧ (ndAt m k).pz.rate = (ndAt l k).pz.rate ∧ (ndAt m k).pz.burst = (ndAt l k).pz.burst
theorem Like.trans {a b c : List Nd} (h : Like a b) (g : Like b c) : Like a c := by
  refine ⟨g.1.trans h.1, fun k hk => ?_⟩
  have h1 := h.2 k hk
  have h2 := g.2 k (by rw [h.1]; exact hk)
  exact ⟨h2.1.trans h1.1, h2.2.1.trans h1.2.1, h2.2.2.trans h1.2.2⟩
theorem ndAt_out {l : List Nd} {k : Nat} (h : l.length ≤ k) : ndAt l k = ⟨0, 0, 0, 0, 0⟩ := by
  unfold ndAt
  rw [List.getElem?_eq_none h]
  rfl
theorem pathF_like {l m : List Nd} (h : Like l m) : ∀ (f : Nat) (n : Int), pathF m f n = pathF l f n := by
  intro f
  induction f with
  | zero => intro n; rfl
  | succ f ih =>
    intro n
    have e : (ndAt m n.toNat).up = (ndAt l n.toNat).up := by
      by_cases hk : n.toNat < l.length
      · exact (h.2 _ hk).1
      · rw [ndAt_out (by rw [h.1]; omega), ndAt_out (by omega)]
    simp only [pathF]
    rw [ih, e]
theorem path_like {l m : List Nd} (h : Like l m) (n : Int) : path m n = path l n := pathF_like h _ n
theorem tfill_like (l : List Nd) (now : Int) : Like l (tfill l now) := by
  refine ⟨tfill_len l now, fun k hk => ?_⟩
  rw [ndAt_tfill now hk]
  exact ⟨rfl, rfl, rfl⟩
theorem tfill_tok {l : List Nd} {now : Int} (h : tok l = true) (h2 : tnow l now = true) : tok (tfill l now) = true := by
  have t := tok_iff.1 h
  rw [tok_iff, tfill_len]
  refine ⟨t.1, t.2.1, fun k hk => ?_⟩
  have e := treeB_iff.1 (t.2.2 k hk)
  rw [treeB_iff, ndAt_tfill now hk, ndAt_tfill now (by omega)]
  have at1 : (ndAt l k).pz.at' now = true := by
    unfold Pz.at'
    rw [e.2.1]
    exact h2
  exact ⟨(fill_ok e.1 at1).1, rfl, e.2.2.1, e.2.2.2⟩
theorem tfilled_is {l : List Nd} {now : Int} (h : tok l = true) (h1 : (ndAt l 0).pz.tm ≤ now) (h2 : now ≤ 1099511627776) : tfilled l now = tfill l now ∧ tnow l now = true := by
  have t : tnow l now = true := by unfold tnow; rw [inB_true]; exact ⟨h1, h2⟩
  unfold tfilled
  rw [if_pos h, if_pos t]
  exact ⟨rfl, t⟩
/-- Each purse of what is filled is filled. -/
theorem tfilled_at {l : List Nd} {now : Int} (h : tok l = true) {k : Nat} (hk : k < l.length) : (tfilled l now).length = l.length ∧ (ndAt (tfilled l now) k).pz = (ndAt l k).pz.filled now := by
  have e := tok_at h hk
  by_cases g : tnow l now = true
  · have e1 : tfilled l now = tfill l now := by unfold tfilled; rw [if_pos h, if_pos g]
    have at1 : (ndAt l k).pz.at' now = true := by unfold Pz.at'; rw [e.2.1]; exact g
    rw [e1, tfill_len, ndAt_tfill now hk]
    refine ⟨rfl, ?_⟩
    unfold Pz.filled
    rw [if_pos e.1, if_pos at1]
  · have e1 : tfilled l now = l := by unfold tfilled; rw [if_pos h, if_neg g]
    have at1 : ¬ (ndAt l k).pz.at' now = true := by unfold Pz.at'; rw [e.2.1]; exact g
    rw [e1]
    refine ⟨rfl, ?_⟩
    unfold Pz.filled
    rw [if_pos e.1, if_neg at1]
theorem whenF_is {l : List Nd} {size : Int} : ∀ (p : List Int) (t : Int), 0 ≤ t → 0 ≤ whenF l size p t → t ≤ whenF l size p t ∧ (∀ x ∈ p, 0 ≤ (ndAt l x.toNat).pz.whenL size ∧ (ndAt l x.toNat).pz.whenL size ≤ whenF l size p t) ∧ (whenF l size p t = t ∨ ∃ x ∈ p, (ndAt l x.toNat).pz.whenL size = whenF l size p t)
  | [], t, _, _ => ⟨Int.le_refl _, by simp, .inl rfl⟩
  | x :: p, t, h0, h => by
    rw [whenF] at h ⊢
    by_cases g : (ndAt l x.toNat).pz.whenL size < 0
    · rw [if_pos g] at h; omega
    · rw [if_neg g] at h ⊢
      obtain ⟨a, b, c⟩ := whenF_is p _ (by omega) h
      refine ⟨by omega, fun y hy => ?_, ?_⟩
      · rcases List.mem_cons.1 hy with rfl | hy
        · exact ⟨by omega, by omega⟩
        · exact b y hy
      · rcases c with c | ⟨y, hy, e⟩
        · by_cases q : (ndAt l x.toNat).pz.whenL size ≤ t
          · left; rw [c]; omega
          · right; exact ⟨x, List.mem_cons_self .., by rw [c]; omega⟩
        · right; exact ⟨y, List.mem_cons_of_mem _ hy, e⟩
theorem whenL_le {p : Pz} {n : Int} (h : p.ok = true) (h0 : 0 ≤ p.whenL n) : p.whenL n ≤ 1099511627776 ∧ p.tm ≤ p.whenL n := by
  have g := Pz.ok_iff.1 h
  unfold Pz.whenL at h0 ⊢
  by_cases h1 : n ≤ p.level
  · rw [if_pos h1] at h0 ⊢; omega
  · rw [if_neg h1] at h0 ⊢
    by_cases h2 : p.rate = 0 ∨ p.burst < n
    · rw [if_pos h2] at h0; omega
    · rw [if_neg h2] at h0 ⊢
      by_cases h3 : 1099511627776 < p.tm + (n - p.level + p.rate - 1) / p.rate
      · rw [if_pos h3] at h0; omega
      · rw [if_neg h3] at h0 ⊢
        have : 0 ≤ (n - p.level + p.rate - 1) / p.rate := Int.ediv_nonneg (by omega) (by omega)
        omega
theorem fill_up {p : Pz} {a b : Int} (h : p.ok = true) (_h1 : p.tm ≤ a) (h2 : a ≤ b) : (p.fill a).level ≤ (p.fill b).level := by
  have g := Pz.ok_iff.1 h
  have := Int.mul_le_mul_of_nonneg_left (show a - p.tm ≤ b - p.tm by omega) g.1.1
  unfold Pz.fill
  simp only
  omega
/-- At the time that is told it can, and not ahead of it. -/
theorem when_can {l : List Nd} {n size : Int} (h : 0 ≤ whenCan l n size) : tin l n = true ∧ whenCan l n size ≤ 1099511627776 ∧ can (tfilled l (whenCan l n size)) n size = true ∧ (whenCan l n size = (ndAt l 0).pz.tm ∨ can (tfilled l (whenCan l n size - 1)) n size = false) := by
  unfold whenCan at h
  by_cases hc : tin l n = true ∧ 0 ≤ size
  case neg => rw [if_neg hc] at h; omega
  rw [if_pos hc] at h
  have e : whenCan l n size = whenF l size (path l n) 0 := by unfold whenCan; rw [if_pos hc]
  rw [e]
  obtain ⟨hin, h0⟩ := hc
  obtain ⟨hok, n0, n1⟩ := tin_iff.1 hin
  have hl := (tok_iff.1 hok).1
  obtain ⟨a, b, c⟩ := whenF_is (path l n) 0 (Int.le_refl _) h
  generalize whenF l size (path l n) 0 = t at h a b c
  have hp : ∀ x ∈ path l n, x.toNat < l.length ∧ 0 ≤ x := fun x hx => by have := path_mem hok (by omega) n1 x hx; omega
  have hx := path_next hok n0 n1
  have b0 := b n (by rw [hx]; exact List.mem_cons_self ..)
  have k0 := tok_at hok (k := n.toNat) (by omega)
  have w0 := whenL_le k0.1 b0.1
  rw [k0.2.1] at w0
  have tm0 := (Pz.ok_iff.1 k0.1).2.2.2
  rw [k0.2.1] at tm0
  have tmax : t ≤ 1099511627776 := by
    rcases c with c | ⟨x, hx, c⟩
    · omega
    · have := whenL_le (tok_at hok (hp x hx).1).1 (b x hx).1; omega
  have whn : ∀ x ∈ path l n, (ndAt l x.toNat).pz.when size = (ndAt l x.toNat).pz.whenL size := fun x hx => by unfold Pz.when; rw [if_pos ⟨(tok_at hok (hp x hx).1).1, h0⟩]
  refine ⟨hin, tmax, ?_, ?_⟩
  · obtain ⟨e1, e2⟩ := tfilled_is hok (now := t) (by omega) tmax
    rw [e1, can_iff, path_like (tfill_like l t), tin_iff, tfill_len]
    refine ⟨⟨tfill_tok hok e2, n0, n1⟩, h0, fun x hx => ?_⟩
    have kx := tok_at hok (hp x hx).1
    have bx := b x hx
    have wx := whenL_le kx.1 bx.1
    have q := (when_is (p := (ndAt l x.toNat).pz) (n := size) (by rw [whn x hx]; exact bx.1)).1
    rw [whn x hx, filled_at kx.1 wx.2 wx.1] at q
    rw [ndAt_tfill t (hp x hx).1]
    exact Int.le_trans q (fill_up kx.1 wx.2 bx.2)
  · by_cases g : t = (ndAt l 0).pz.tm
    · exact .inl g
    · right
      obtain ⟨x, hx, c⟩ : ∃ x ∈ path l n, (ndAt l x.toNat).pz.whenL size = t := by
        rcases c with c | c
        · omega
        · exact c
      have kx := tok_at hok (hp x hx).1
      obtain ⟨e1, e2⟩ := tfilled_is hok (now := t - 1) (by omega) (by omega)
      have q := (when_is (p := (ndAt l x.toNat).pz) (n := size) (by rw [whn x hx]; omega)).2 (by rw [whn x hx, c, kx.2.1]; omega)
      rw [whn x hx, c, filled_at kx.1 (by rw [kx.2.1]; omega) (by omega)] at q
      cases hq : can (tfilled l (t - 1)) n size with
      | false => rfl
      | true =>
        rw [e1] at hq
        have := (can_iff.1 hq).2.2 x (by rw [path_like (tfill_like l (t - 1))]; exact hx)
        rw [ndAt_tfill (t - 1) (hp x hx).1] at this
        simp only at this
        omega
theorem paid_like {l : List Nd} {n size : Int} (h : can l n size = true) : Like l (paid l n size) := by
  obtain ⟨p1, p2, p3⟩ := paid_is h
  refine ⟨p2, fun k hk => ?_⟩
  rw [p3 k hk]
  split <;> exact ⟨rfl, rfl, rfl⟩
/-- What was paid under each node, and what is left: no more than there was and what came. -/
structure Und (s l : List Nd) (sum : List Int) (frm now : Int) : Prop where
  sok : tok s = true
  ok : tok l = true
  like : Like s l
  len : sum.length = s.length
  tm : (ndAt l 0).pz.tm = now
  past : frm ≤ now
  low : ∀ k, k < s.length → 0 ≤ sum[k]?.getD 0 ∧ (ndAt l k).pz.level + sum[k]?.getD 0 ≤ (ndAt s k).pz.level + (ndAt s k).pz.rate * (now - frm)
theorem Und.start {s : List Nd} (h : tok s = true) : Und s s (List.replicate s.length 0) (ndAt s 0).pz.tm (ndAt s 0).pz.tm := by
  refine ⟨h, h, ⟨rfl, fun _ _ => ⟨rfl, rfl, rfl⟩⟩, by simp, rfl, Int.le_refl _, fun k hk => ?_⟩
  have e : (List.replicate s.length (0 : Int))[k]?.getD 0 = 0 := by simp [hk]
  rw [e]
  refine ⟨Int.le_refl _, ?_⟩
  rw [Int.sub_self, Int.mul_zero]
  omega
/-- Time goes on. -/
theorem Und.fill {s l : List Nd} {sum : List Int} {frm now t : Int} (h : Und s l sum frm now) (h1 : now ≤ t) (h2 : t ≤ 1099511627776) : tfilled l t = tfill l t ∧ Und s (tfill l t) sum frm t := by
  obtain ⟨e1, e2⟩ := tfilled_is h.ok (by rw [h.tm]; exact h1) h2
  have hl := h.like.1
  have hp := (tok_iff.1 h.sok).1
  refine ⟨e1, h.sok, tfill_tok h.ok e2, h.like.trans (tfill_like l t), h.len, by rw [ndAt_tfill t (by omega)]; rfl, by have := h.past; omega, fun k hk => ?_⟩
  have lk := h.low k hk
  refine ⟨lk.1, ?_⟩
  rw [ndAt_tfill t (by omega)]
  have kx := tok_at h.ok (k := k) (by omega)
  have er := (h.like.2 k hk).2.1
  have el : ((ndAt l k).pz.fill t).level ≤ (ndAt l k).pz.level + (ndAt l k).pz.rate * (t - (ndAt l k).pz.tm) := by unfold Pz.fill; simp only; omega
  rw [er, kx.2.1, h.tm] at el
  have e3 : (ndAt s k).pz.rate * (t - frm) = (ndAt s k).pz.rate * (now - frm) + (ndAt s k).pz.rate * (t - now) := by rw [← Int.mul_add]; congr 1; omega
  simp only
  omega
/-- And something is paid. -/
def addAt (sum : List Int) (k : Int) : List Int → List Int
  | [] => sum
  | x :: p => addAt (sum.set x.toNat (sum[x.toNat]?.getD 0 + k)) k p
theorem addAt_len (k : Int) : ∀ (p : List Int) (s : List Int), (addAt s k p).length = s.length
  | [], _ => rfl
  | x :: p, s => by rw [addAt, addAt_len k p]; simp
theorem addAt_snoc (k : Int) : ∀ (p : List Int) (x : Int) (s : List Int), addAt s k (p ++ [x]) = (addAt s k p).set x.toNat ((addAt s k p)[x.toNat]?.getD 0 + k)
  | [], _, _ => rfl
  | _ :: p, x, s => by rw [List.cons_append, addAt, addAt, addAt_snoc k p x]
theorem addAt_at (k : Int) : ∀ (p : List Int) (s : List Int), p.Nodup → (∀ x ∈ p, 0 ≤ x ∧ x < s.length) → ∀ j, j < s.length → (addAt s k p)[j]?.getD 0 = s[j]?.getD 0 + (if (j : Int) ∈ p then k else 0)
  | [], s, _, _, j, _ => by simp [addAt]
  | x :: p, s, hn, hb, j, hj => by
    have hx := hb x (List.mem_cons_self ..)
    rw [List.nodup_cons] at hn
    rw [addAt, addAt_at k p _ hn.2 (fun y hy => by simpa using hb y (List.mem_cons_of_mem _ hy)) j (by simpa using hj)]
    by_cases e : x.toNat = j
    · have e2 : (j : Int) = x := by omega
      have e3 : (s.set x.toNat (s[x.toNat]?.getD 0 + k))[j]?.getD 0 = s[j]?.getD 0 + k := by rw [e]; simp [hj]
      rw [e3, e2, if_neg hn.1, if_pos (List.mem_cons_self ..)]
      omega
    · have e2 : ¬ (j : Int) = x := by omega
      have e3 : (s.set x.toNat (s[x.toNat]?.getD 0 + k))[j]?.getD 0 = s[j]?.getD 0 := by rw [List.getElem?_set_ne e]
      rw [e3]
      by_cases h : (j : Int) ∈ p
      · rw [if_pos h, if_pos (List.mem_cons_of_mem _ h)]
      · rw [if_neg h, if_neg (by simp [e2, h])]
theorem Und.pay {s l : List Nd} {sum : List Int} {frm now n size : Int} (h : Und s l sum frm now) (hc : can l n size = true) : Und s (paid l n size) (addAt sum size (path l n)) frm now := by
  obtain ⟨p1, p2, p3⟩ := paid_is hc
  obtain ⟨h1, h2, h3⟩ := can_iff.1 hc
  obtain ⟨g1, g2, g3⟩ := tin_iff.1 h1
  have hl := h.like.1
  have hp := (tok_iff.1 h.sok).1
  have htm : (ndAt (paid l n size) 0).pz.tm = now := by
    rw [p3 0 (by omega), ← h.tm]
    split <;> rfl
  refine ⟨h.sok, paid_tok hc, h.like.trans (paid_like hc), by rw [addAt_len]; exact h.len, htm, h.past, fun k hk => ?_⟩
  have lk := h.low k hk
  have pl := paid_level hc (k := k) (by omega)
  rw [addAt_at size _ _ (path_nodup g1 (by omega) g3) (fun x hx => by have := path_mem g1 (by omega) g3 x hx; rw [h.len]; omega) k (by rw [h.len]; exact hk), pl.1]
  by_cases g : (k : Int) ∈ path l n
  · rw [if_pos g]; omega
  · rw [if_neg g]; omega
/-- So no more than level and rate, burst and rate. -/
theorem Und.most {s l : List Nd} {sum : List Int} {frm now : Int} (h : Und s l sum frm now) {k : Nat} (hk : k < s.length) : sum[k]?.getD 0 ≤ (ndAt s k).pz.level + (ndAt s k).pz.rate * (now - frm) ∧ sum[k]?.getD 0 ≤ (ndAt s k).pz.burst + (ndAt s k).pz.rate * (now - frm) ∧ 0 ≤ sum[k]?.getD 0 := by
  have lk := h.low k hk
  have a := Pz.ok_iff.1 (tok_at h.ok (k := k) (by rw [h.like.1]; exact hk)).1
  have b := Pz.ok_iff.1 (tok_at h.sok hk).1
  omega
end Go.Proofs.Ytfdapmchpikfiaa
