/-
  The walk of the model's look for an id in rows. By the verifier.
-/
import Derived.Test.YtleokmnhhhhcjaaRwSpec
namespace Go.Proofs.Ytleokmnhhhhcjaa
open Go.RowKit

theorem has_hit {r : Rw} {i k : Nat} (hi : i < r.lists.length) (hk : k < (izAt r.lists i).length) : (itAt (izAt r.lists i) k).id ∈ r.all.map It.id := by
  obtain ⟨t, ht⟩ := pre_all hi (k + 1)
  rw [ht, pre_step hk]
  simp

set_option maxHeartbeats 3200000 in
set_option maxRecDepth 100000 in
theorem specHasR (r : Rw) (a : Option Addr) (c : Nat) (id : Int) (w : World) (hB : r.big ≤ 1048576) (h : Hid (IzAt w a r.lists)) :
    Calls Try.prog 34 #[r.val a c, .int .i64 id] w fun e w' => e = .returned (.bool (r.has id)) ∧ Below w.heap.size w w' := by
  obtain ⟨hT, -, hin⟩ := Rw.small hB
  have Hin : Hid (∀ k, k < r.lists.length → (izAt r.lists k).length ≤ 1048576) := hin
  obtain ⟨R, hR⟩ : ∃ R, r.has id = R := ⟨_, rfl⟩
  rw [hR]
  have HR : Hid (decide (id ∈ r.all.map It.id) = R) := hR
  obtain ⟨len, hlen⟩ : ∃ n, r.lists.length = n := ⟨_, rfl⟩
  unfold Rw.val
  rw [hlen] at hT ⊢
  have Hlen : Hid (r.lists.length = len) := hlen
  generalize hf : r.most = f
  clear hlen hB hin hR hf
  obtain ⟨W, hW⟩ : ∃ W, W = w.alloc (.cells #[.int .i64 f, .slice a len c] 26) := ⟨_, rfl⟩
  have X : Hid (IzAt W a r.lists ∧ Below w.heap.size w W ∧ Boxed W w.heap.size #[.int .i64 f, .slice a len c] 26) := by
    rw [hW]
    exact ⟨h.out.alloc _, (Below.refl _ _).alloc (Nat.le_refl _) _, Boxed.new _ _ _⟩
  have HW : Hid (W = _) := hW
  clear hW h
  go_enter Try.func34, Try.ntmps34
  go_wp2
  rw [← HW.out]
  have c1 : W.cell? ⟨w.heap.size, 1, none⟩ = some (.slice a len c) := X.out.2.2.cell 1 rfl
  go_loop [5, 6] (fun i _ => ∃ k : Nat, k ≤ len ∧ i = .int .i64 k ∧ Hid (id ∉ (r.pre k 0).map It.id)) (fun i _ => len - (intOf i).toNat)
  case atStart => exact ⟨0, Nat.zero_le _, rfl, by show id ∉ (r.pre 0 0).map It.id; rw [pre_zero]; simp⟩
  case round =>
    obtain ⟨k, hk, rfl, Hno⟩ := hrel
    by_cases hlt : k < len
    · have hkl : k < r.lists.length := by rw [Hlen.out]; exact hlt
      obtain ⟨b, off, ak, ck, ha, hb, hc, hrow, -⟩ := X.out.1 k hkl
      subst ha
      have hn := Hin.out k hkl
      have Hrow : Hid (ItsAt W ak (izAt r.lists k)) := hrow
      obtain ⟨n, hnl⟩ : ∃ n, (izAt r.lists k).length = n := ⟨_, rfl⟩
      rw [hnl] at hc hn
      have Hnl : Hid ((izAt r.lists k).length = n) := hnl
      clear hrow hnl
      go_wp2
      go_loop [6] (fun j => ∃ q : Nat, q ≤ n ∧ j = .int .i64 q ∧ Hid (id ∉ (r.pre k q).map It.id)) (fun j => n - (intOf j).toNat)
      case atStart => exact ⟨0, Nat.zero_le _, rfl, Hno.out⟩
      case round =>
        obtain ⟨q, hq, rfl, Hnq⟩ := hrel
        by_cases hql : q < n
        · have hqn : q < (izAt r.lists k).length := by rw [Hnl.out]; exact hql
          obtain ⟨b2, off2, ha2, -, -⟩ := Hrow.out q hqn
          subst ha2
          obtain ⟨e0, -, -⟩ := Hrow.out.cells hqn
          have hs := pre_step hqn
          have hh := has_hit hkl hqn
          generalize itAt (izAt r.lists k) q = x at e0 hs hh
          have Hs : Hid (r.pre k (q + 1) = r.pre k q ++ [x]) := hs
          have Hh : Hid (x.id ∈ r.all.map It.id) := hh
          clear hs hh
          obtain ⟨x0, x1, x2⟩ := x
          simp only [] at e0 Hs Hh
          by_cases hx : x0 = id
          · have er : R = true := by rw [← HR.out, ← hx]; exact decide_eq_true Hh.out
            subst er
            subst hx
            go_wp2
            go_ret
            exact ⟨rfl, X.out.2.1⟩
          · have hx' : ¬ x0 = id := hx
            go_wp2
            go_round
            case rel =>
              refine ⟨q + 1, by omega, by go_num, ?_⟩
              show id ∉ (r.pre k (q + 1)).map It.id
              rw [Hs.out, List.map_append]
              intro h
              rcases List.mem_append.1 h with h | h
              · exact Hnq.out h
              · simp at h
                exact hx h.symm
            case measure => simp [intOf]; omega
        · obtain rfl : q = n := by omega
          go_wp2
          go_round
          case rel =>
            refine ⟨k + 1, by omega, by go_num, ?_⟩
            show id ∉ (r.pre (k + 1) 0).map It.id
            rw [pre_next hkl, Hnl.out]
            exact Hnq.out
          case measure => simp [intOf]; omega
    · obtain rfl : k = len := by omega
      have er : R = false := by
        rw [← HR.out]
        have := Hno.out
        rw [← Hlen.out, pre_end] at this
        simp [this]
      subst er
      go_wp2
      go_ret
      exact ⟨rfl, X.out.2.1⟩
end Go.Proofs.Ytleokmnhhhhcjaa
