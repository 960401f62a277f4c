/-
  The program's set of ids, how many it holds, and the walk of its test that no id is there twice. By the verifier.
-/
import Derived.Test.YtdcekimldgjliaaRwCntI
import Derived.Maps.OwnSet
namespace Go.Proofs.Ytdcekimldgjliaa
open Go.RowKit Go.Maps

/-- What an entry of the set reads as: it holds nothing. -/
def noElemR (_ : Value) : Option (DataW Unit × List MemPlace) := some (.lit (.bool true), [])
/-- Block b is a set that holds just these, of so many as they are only where no one is there twice. -/
def IdsIn (w : World) (b : Nat) (L : List Int) : Prop :=
  ∃ D : DataW Unit, w.ownsMap Try.prog 2 noElemR b L.length D ∧ (∀ x, has D (.int .i64 x) = decide (x ∈ L)) ∧ (Maps.size D = L.length ↔ L.Nodup)
theorem IdsIn.lt {w : World} {b : Nat} {L : List Int} (h : IdsIn w b L) : b < w.heap.size := by
  obtain ⟨D, o, _⟩ := h
  exact o.lt
theorem IdsIn.kept {w w' : World} {b : Nat} {L : List Int} (h : IdsIn w b L) (hb : w'.heap[b]? = w.heap[b]?) : IdsIn w' b L := by
  obtain ⟨D, ⟨es, clock, h1, h2⟩, hg⟩ := h
  exact ⟨D, ⟨es, clock, hb.trans h1, h2⟩, hg⟩
theorem IdsIn.made (w : World) : IdsIn (w.alloc (.map #[] 0)) w.heap.size [] :=
  ⟨_, World.ownsMap_made w _ _ _, fun _ => rfl, by simp [Maps.size]⟩
theorem IdsIn.store {w : World} {b : Nat} {L : List Int} (h : IdsIn w b L) (hn : L.length < maxLen) {x : Int} (wx : (Lit.int .i64 x).wf = true) (v : Value) :
    ∃ w', (Instr.mapUpdate 68 (.map (some b)) (.int .i64 x) v).run Try.prog w = .ok () w' ∧ IdsIn w' b (L ++ [x]) ∧ w.grownBy w' (some b) := by
  obtain ⟨D, o, hg, hs⟩ := h
  have hk : keyOf Try.prog 2 (.int .i64 x) = some (.int .i64 x) := keyOf_int_mk Try.underlying2 wx
  have hle := o.size_le
  obtain ⟨w', hrun, o', gr⟩ := o.update (int_keyed Try.underlying2) Try.underlying68 hn hk (val := v) (d := .lit (.bool true)) (ps := []) rfl
  have hz := size_put (k := .int .i64 x) (o.tidy (int_keyed Try.underlying2)) (DataW.lit (.bool true))
  rw [hg x] at hz
  refine ⟨w', hrun, ⟨_, by rw [List.length_append]; exact o', fun y => ?_, ?_⟩, gr⟩
  · by_cases e : y = x
    · subst e
      rw [has_put_same o.isMap ((int_keyed Try.underlying2).key hk)]
      simp
    · rw [has_put_other (by intro e2; exact e (by simpa using e2)), hg y]
      simp [e]
  · rw [hz, List.length_append, List.length_singleton, List.nodup_append]
    by_cases hm : x ∈ L
    · rw [decide_eq_true hm, if_pos rfl]
      constructor
      · intro e; omega
      · intro e
        exact absurd rfl (e.2.2 x hm x (by simp))
    · rw [decide_eq_false hm, if_neg (by simp)]
      constructor
      · intro e
        refine ⟨hs.1 (by omega), by simp, ?_⟩
        intro y hy z hz' e2
        rw [List.mem_singleton.1 hz'] at e2
        exact hm (e2 ▸ hy)
      · rintro ⟨e, _⟩
        rw [hs.2 e]
theorem implAddR (b : Nat) (L : List Int) (x : Int) (w : World) (hn : L.length ≤ 1048576) (wx : (Lit.int .i64 x).wf = true) (h : Hid (IdsIn w b L)) :
    Calls Try.prog 54 #[.map (some b), .int .i64 x] w fun e w' => e = .returned (.tuple #[]) ∧ IdsIn w' b (L ++ [x]) ∧ w.grownBy w' (some b) := by
  obtain ⟨w1, hrun, h1, g1⟩ := h.out.store (by unfold maxLen; omega) wx (.agg #[])
  have H1 : Hid (IdsIn w1 b (L ++ [x]) ∧ w.grownBy w1 (some b)) := ⟨h1, g1⟩
  clear h1 g1
  go_enter Try.func54, Try.ntmps54
  go_wp2
  refine bodyPost_end (v := .tuple #[]) ?_ rfl ?_
  · simp [results, Try.results54, go_sem]
  · exact ⟨rfl, H1.out⟩
theorem not_ids {w : World} {b : Nat} {L : List Int} (h : IdsIn w b L) {off : Nat} {v : Value} (c : ∃ o, w.cell? ⟨o, off, none⟩ = some v ∧ o = b) : False := by
  obtain ⟨D, ⟨es, clock, h1, _⟩, _⟩ := h
  obtain ⟨o, hc, rfl⟩ := c
  simp [World.cell?, h1] at hc
theorem ItsAt.asideR {w w' : World} {a : Option Addr} {l : List It} {b : Nat} {L : List Int} (h : ItsAt w a l) (hm : IdsIn w b L) (hg : w.grownBy w' (some b)) : ItsAt w' a l := by
  intro k hk
  obtain ⟨o, off, e, ho, c0, c1, c2⟩ := h k hk
  have hne : o ≠ b := fun e => not_ids hm ⟨o, c0, e⟩
  exact ⟨o, off, e, Nat.lt_of_lt_of_le ho hg.size, hg.cell c0 (by simpa using hne), hg.cell c1 (by simpa using hne), hg.cell c2 (by simpa using hne)⟩
theorem IzAt.asideR {w w' : World} {a : Option Addr} {ls : List (List It)} {b : Nat} {L : List Int} (h : IzAt w a ls) (hm : IdsIn w b L) (hg : w.grownBy w' (some b)) : IzAt w' a ls := by
  intro k hk
  obtain ⟨o, off, ak, ck, e, ho, hc, hr, hl⟩ := h k hk
  have hne : o ≠ b := fun e => not_ids hm ⟨o, hc, e⟩
  exact ⟨o, off, ak, ck, e, Nat.lt_of_lt_of_le ho hg.size, hg.cell hc (by simpa using hne), hr.asideR hm hg, hl⟩
theorem IdsIn.len {w : World} {b : Nat} {L : List Int} (h : IdsIn w b L) : ∃ n : Nat, n ≤ L.length ∧ (n = L.length ↔ L.Nodup) ∧ ∀ ty, (Builtin.len_ #[68] ty #[.map (some b)]).run Try.prog w = .ok (.int .i64 n) w := by
  obtain ⟨D, o, _, hs⟩ := h
  exact ⟨Maps.size D, o.size_le, hs, fun ty => o.len Try.underlying68 ty⟩
theorem pre_len_le {r : Rw} {i : Nat} (h : i < r.lists.length) (k : Nat) : (r.pre i k).length ≤ r.all.length := by
  obtain ⟨t, ht⟩ := pre_all h k
  rw [ht, List.length_append]
  omega

/-- What lies while the ids are gathered. -/
structure IdR (w : World) (f : Int) (a : Option Addr) (n c : Nat) (r : Rw) (M : Nat) (L : List Int) (wr : World) : Prop where
  ids : IdsIn wr M L
  here : IzAt wr a r.lists
  box : Boxed wr w.heap.size #[.int .i64 f, .slice a n c] 29
  bel : Below w.heap.size w wr
  far : w.heap.size < M
section
variable {w : World} {f : Int} {a : Option Addr} {n c : Nat} {r : Rw} {M : Nat} {L : List Int} {wr wd : World} {x : Int}
theorem IdR.alloc (h : IdR w f a n c r M L wr) (o : Obj) : IdR w f a n c r M L (wr.alloc o) :=
  ⟨h.ids.kept (Below.heap_alloc _ _ _ h.ids.lt), h.here.alloc _, h.box.more _, h.bel.alloc h.bel.size _, h.far⟩
theorem IdR.add (h : IdR w f a n c r M L wr) (i : IdsIn wd M (L ++ [x])) (g : wr.grownBy wd (some M)) : IdR w f a n c r M (L ++ [x]) wd :=
  ⟨i, h.here.asideR h.ids g, by have := h.far; exact (g.block _ h.box.under (by simp; omega)).trans h.box, h.bel.grown g h.bel.size (by rintro j e; cases e; have := h.far; omega), h.far⟩
end

set_option maxHeartbeats 6400000 in
set_option maxRecDepth 100000 in
theorem implIdsDiffer (r : Rw) (a : Option Addr) (c : Nat) (w : World) (hB : r.big ≤ 1048576) (hok : r.all.all It.ok = true) (h : Hid (IzAt w a r.lists)) :
    Calls Try.prog 33 #[r.val a c] w fun e w' => e = .returned (.bool (decide (r.all.map It.id).Nodup)) ∧ Below w.heap.size w w' := by
  obtain ⟨hT, hS, hin⟩ := Rw.small hB
  have C := fun w h => implCountL r a c w hB h
  rw [← all_length] at C hS
  have Hids : Hid (∀ i k, i < r.lists.length → k < (izAt r.lists i).length → (Lit.int .i64 (itAt (izAt r.lists i) k).id).wf = true) := by
    intro i k hi hk
    have hm : itAt (izAt r.lists i) k ∈ r.all := by
      obtain ⟨t, ht⟩ := pre_all hi (k + 1)
      rw [ht, pre_step hk]
      simp
    have := List.all_eq_true.1 hok _ hm
    unfold It.ok at this
    simp only [Bool.and_eq_true, inB_true] at this
    exact WalkArith.wf_i64 (by omega)
  have Hpl : Hid (∀ i k, i < r.lists.length → (r.pre i k).length ≤ 1048576) := fun i k hi => Nat.le_trans (pre_len_le hi k) hS
  have Hin : Hid (∀ k, k < r.lists.length → (izAt r.lists k).length ≤ 1048576) := hin
  obtain ⟨R, hR⟩ : ∃ R, decide (r.all.map It.id).Nodup = R := ⟨_, rfl⟩
  rw [hR]
  have Fin : Hid (∀ m : Nat, (m = ((r.pre r.lists.length 0).map It.id).length ↔ ((r.pre r.lists.length 0).map It.id).Nodup) → decide ((m : Int) = (r.all.length : Int)) = R) := by
    intro m hm
    rw [pre_end, List.length_map] at hm
    rw [← hR, Bool.eq_iff_iff, decide_eq_true_iff, decide_eq_true_iff, ← hm]
    omega
  obtain ⟨len, hlen⟩ : ∃ n, r.lists.length = n := ⟨_, rfl⟩
  unfold Rw.val at C ⊢
  rw [hlen] at hT C Fin Hids Hpl Hin ⊢
  have Hlen : Hid (r.lists.length = len) := hlen
  generalize r.most = f at C ⊢
  generalize (r.all.length : Int) = cnt at C Fin
  have C' : Hid _ := C
  clear hlen hB hin hR C hok hS
  obtain ⟨W, hW⟩ : ∃ W, W = (w.alloc (.cells #[.int .i64 f, .slice a len c] 29)).alloc (.map #[] 0) := ⟨_, rfl⟩
  have X : Hid (IdR w f a len c r (w.heap.size + 1) ((r.pre 0 0).map It.id) W) := by
    rw [hW]
    refine ⟨?_, (h.out.alloc _).alloc _, (Boxed.new w _ _).more _, ((Below.refl _ _).alloc (Nat.le_refl _) _).alloc (by simp) _, by omega⟩
    rw [pre_zero]
    have := IdsIn.made (w.alloc (.cells #[.int .i64 f, .slice a len c] 29))
    simpa using this
  have HW : Hid (W = _) := hW
  clear hW h
  have hmm := @run_makeMap Try.prog
  go_enter Try.func33, Try.ntmps33
  go_wp2
  rw [← HW.out]
  have c1 : W.cell? ⟨w.heap.size, 1, none⟩ = some (.slice a len c) := X.out.box.cell 1 rfl
  go_wp2
  clear c1
  go_loopw [12] (fun i wr => ∃ k : Nat, k ≤ len ∧ i = .int .i64 k ∧ Hid (IdR w f a len c r (w.heap.size + 1) ((r.pre k 0).map It.id) wr)) (fun i _ => len - (intOf i).toNat)
  case atStart => exact ⟨0, Nat.zero_le _, rfl, X.out⟩
  case round =>
    obtain ⟨k, hk, rfl, HK⟩ := hrel
    clear X
    by_cases hlt : k < len
    · have hkl : k < r.lists.length := by rw [Hlen.out]; exact hlt
      have Hat : Hid (∀ wr L, IdR w f a len c r (w.heap.size + 1) L wr → ∃ b off ak ck, a = some ⟨b, off, none⟩ ∧ wr.cell? ⟨b, off + k, none⟩ = some (.slice ak (izAt r.lists k).length ck)) := fun wr L g => by
        obtain ⟨b, off, ak, ck, ha, _, hc, _⟩ := g.here k hkl
        exact ⟨b, off, ak, ck, ha, hc⟩
      obtain ⟨b, off, ak, ck, ha, hb, hc, hr, -⟩ := HK.out.here k hkl
      subst ha
      have hlt' : (k : Int) < (len : Int) := by omega
      have hn := Hin.out k hlt
      have Hid1 := Hids.out k
      have Hp1 := Hpl.out k
      have Hs : Hid (∀ q, q < (izAt r.lists k).length → (r.pre k (q + 1)).map It.id = (r.pre k q).map It.id ++ [(itAt (izAt r.lists k) q).id]) := fun q hq => by
        rw [pre_step hq, List.map_append]
        rfl
      have Hnx : Hid (r.pre (k + 1) 0 = r.pre k (izAt r.lists k).length) := pre_next hkl
      obtain ⟨n, hnl⟩ : ∃ n, (izAt r.lists k).length = n := ⟨_, rfl⟩
      rw [hnl] at hc hn Hs Hnx Hid1
      have Hnl : Hid ((izAt r.lists k).length = n) := hnl
      have HI : Hid _ := Hid1
      have HP : Hid _ := Hp1
      have HR : Hid (ItsAt wr ak (izAt r.lists k)) := hr
      clear hnl Hid1 Hp1 Hat hr
      obtain ⟨wk, hwk⟩ : ∃ wk, wk = wr := ⟨_, rfl⟩
      rw [← hwk] at HR
      have HK0 : Hid (IdR w f (some ⟨b, off, none⟩) len c r (w.heap.size + 1) ((r.pre k 0).map It.id) wr ∧ ItsAt wr ak (izAt r.lists k)) := ⟨HK.out, by rw [← hwk]; exact HR.out⟩
      clear HK HR hwk
      go_wp2
      clear hc hb
      go_loopw [18] (fun j wr => ∃ q : Nat, q ≤ n ∧ j = .int .i64 q ∧ Hid (IdR w f (some ⟨b, off, none⟩) len c r (w.heap.size + 1) ((r.pre k q).map It.id) wr ∧ ItsAt wr ak (izAt r.lists k))) (fun j _ => n - (intOf j).toNat)
      case atStart => exact ⟨0, Nat.zero_le _, rfl, HK0.out⟩
      case round =>
        obtain ⟨q, hq, rfl, HQ⟩ := hrel
        clear HK0
        by_cases hql : q < n
        · have hqn : q < (izAt r.lists k).length := by rw [Hnl.out]; exact hql
          obtain ⟨b2, off2, ha2, hb2, -⟩ := HQ.out.2 q hqn
          subst ha2
          obtain ⟨e0, e1, e2⟩ := HQ.out.2.cells hqn
          have hs := Hs.out q hql
          have wf := HI.out q hlt hql
          have hL := HP.out q hlt
          have hql' : (q : Int) < (n : Int) := by omega
          generalize itAt (izAt r.lists k) q = x at e0 e1 e2 hs wf
          obtain ⟨x0, x1, x2⟩ := x
          simp only [] at e0 e1 e2 hs wf
          rw [← List.length_map (f := It.id)] at hL
          have AD := fun W1 h => implAddR (w.heap.size + 1) ((r.pre k q).map It.id) x0 W1 hL wf h
          rw [← hs] at AD
          have AD' : Hid _ := AD
          have Hs2 : Hid _ := hs
          have H3 : Hid (IdR w f (some ⟨b, off, none⟩) len c r (w.heap.size + 1) ((r.pre k q).map It.id) (wr.alloc (.cells #[.int .i64 x0, .int .i64 x1, .int .i64 x2] 37)) ∧ ItsAt (wr.alloc (.cells #[.int .i64 x0, .int .i64 x1, .int .i64 x2] 37)) (some ⟨b2, off2, none⟩) (izAt r.lists k)) := ⟨HQ.out.1.alloc _, HQ.out.2.alloc _⟩
          clear AD hs hL wf
          go_wp2_with fail
          refine (AD'.out _ H3.out.1.ids).mono ?_
          rintro e5 w5 ⟨rfl, m5, g5⟩
          have H5 : Hid (IdR w f (some ⟨b, off, none⟩) len c r (w.heap.size + 1) ((r.pre k (q + 1)).map It.id) w5 ∧ ItsAt w5 (some ⟨b2, off2, none⟩) (izAt r.lists k)) := by
            rw [Hs2.out] at m5 ⊢
            exact ⟨H3.out.1.add m5 g5, H3.out.2.asideR H3.out.1.ids g5⟩
          clear m5 g5 H3 HQ e0 e1 e2
          go_wp2
          go_roundw
          case rel => exact ⟨q + 1, by omega, by go_num, H5⟩
          case measure => simp [intOf]; omega
        · obtain rfl : q = n := by omega
          go_wp2
          go_roundw
          case rel =>
            refine ⟨k + 1, by omega, by go_num, ?_⟩
            show IdR _ _ _ _ _ _ _ _ _
            rw [Hnx.out]
            exact HQ.out.1
          case measure => simp [intOf]; omega
    · obtain rfl : k = len := by omega
      obtain ⟨m, hm1, hm2, hrun⟩ := HK.out.ids.len
      have hf := Fin.out m hm2
      have FF : Hid _ := hf
      have e0 : wr.cell? ⟨w.heap.size, 0, none⟩ = some (.int .i64 f) := HK.out.box.cell 0 rfl
      have e1 : wr.cell? ⟨w.heap.size, 1, none⟩ = some (.slice a k c) := HK.out.box.cell 1 rfl
      clear hm1 hm2 hf
      go_wp2_with fail
      refine (C'.out _ HK.out.here).mono ?_
      rintro e w1 ⟨rfl, b1⟩
      have B : Hid (Below w.heap.size w w1) := HK.out.bel.trans (b1.mono HK.out.bel.size)
      clear b1 e0 e1
      go_wp2
      go_ret
      exact ⟨ret_bool FF.out, B.out⟩
end Go.Proofs.Ytdcekimldgjliaa
