/-
  Facts of flows: who is served has begun first; of flows that always wait none gets ahead of another by more than a size of each. By the verifier.
-/
import Derived.Test.YtllmkolchgmjoaaFsBig
namespace Go.Proofs.Ytllmkolchgmjoaa
open Go.RowKit

theorem Fs.can_is {f : Fs} (hc : f.can = true) : f.ok = true ∧ ∃ b : Nat, f.chosen = b ∧ b < f.flows.length ∧ f.waits b = true ∧ f.endOf b ≤ 1125899906842624 ∧ f.served = f.serve b ∧ f.servedI = b ∧ f.servedN = szAt (fwAt f.flows b).sizes 0 ∧ ∀ i, i < f.flows.length → f.waits i = true → f.beg b ≤ f.beg i ∧ (f.beg i = f.beg b → b ≤ i) := by
  have h := hc
  unfold Fs.can at h
  simp only [Bool.and_eq_true, decide_eq_true_eq] at h
  obtain ⟨b, e, hb, hw, hm⟩ := Fs.chosen_is h.1 h.2.1
  have h3 := h.2.2
  rw [e, Int.toNat_natCast] at h3
  refine ⟨h.1, b, e, hb, hw, h3, ?_, ?_, ?_, hm⟩
  · unfold Fs.served; rw [if_pos h.1, if_pos hc, e, Int.toNat_natCast]
  · unfold Fs.servedI; rw [if_pos hc, e]
  · unfold Fs.servedN; rw [if_pos hc, e, Int.toNat_natCast]
theorem Fs.servedI_can {f : Fs} (h : 0 ≤ f.servedI) : f.can = true := by
  unfold Fs.servedI at h
  by_cases hc : f.can = true
  · exact hc
  · rw [if_neg hc] at h; omega
/-- Who is chosen begins first. -/
theorem Fs.chosen_first {f : Fs} {who : Int} (he : f.chosen = who) (h0 : 0 ≤ who) {i : Int} (hi : 0 ≤ f.begins i) : ¬ (f.begins i < f.begins who) ∧ ¬ (f.begins i = f.begins who ∧ i < who) := by
  have hk : f.ok = true := by
    by_cases hk : f.ok = true
    · exact hk
    · unfold Fs.chosen at he; rw [if_neg hk] at he; omega
  obtain ⟨b, e, hb, hw, hm⟩ := Fs.chosen_is hk (by rw [he]; exact h0)
  have e2 : who = (b : Int) := by rw [← he, e]
  subst e2
  have eb : f.begins (b : Int) = f.beg b := by
    unfold Fs.begins
    rw [Int.toNat_natCast, if_pos]
    rw [hk, hw, inB_true.2 (by omega)]
    rfl
  unfold Fs.begins at hi
  by_cases hc : (f.ok && (inB 0 ((f.flows.length : Int) - 1) i && f.waits i.toNat)) = true
  · have ei : f.begins i = f.beg i.toNat := by unfold Fs.begins; rw [if_pos hc]
    simp only [Bool.and_eq_true, inB_true] at hc
    have := hm i.toNat (by omega) hc.2.2
    rw [ei, eb]
    refine ⟨by omega, fun h => ?_⟩
    have h2 := this.2 h.1
    omega
  · rw [if_neg hc] at hi; omega
/-- What is served: time goes on, its first goes, its Finish goes up. -/
theorem Fs.served_goes {f : Fs} {b : Nat} (hc : f.can = true) (he : f.chosen = b) : f.served.ok = true ∧ f.now ≤ f.served.now ∧ (fwAt f.flows b).finish < (fwAt f.served.flows b).finish ∧ f.servedI = b ∧ f.servedN = szAt (fwAt f.flows b).sizes 0 ∧ b < f.flows.length ∧ 0 < (fwAt f.flows b).sizes.length ∧ f.served.flows.length = f.flows.length := by
  obtain ⟨hk, b', e, hb, hw, hend, hs, hI, hN, _⟩ := Fs.can_is hc
  have eb : b' = b := by rw [e] at he; omega
  subst eb
  have h1 := Fs.beg_in hk hb
  have h2 := Fs.cost_in (Fs.ok_at hk hb) (of_decide_eq_true hw)
  refine ⟨Fs.served_ok hk, ?_, ?_, hI, hN, hb, of_decide_eq_true hw, ?_⟩
  · rw [hs]; unfold Fs.serve; simp only; omega
  · rw [hs]; unfold Fs.serve; simp only; rw [fwAt_set hb]; simp only; unfold Fs.endOf; omega
  · rw [hs]; unfold Fs.serve; simp
/-- Who waits behind what is queued. -/
theorem Fs.queued_goes {f : Fs} {flow size : Int} (hk : f.ok = true) (hm : f.mayQ flow size = true) : (f.queued flow size).ok = true ∧ (fwAt (f.queued flow size).flows flow.toNat).sizes = (fwAt f.flows flow.toNat).sizes ++ [size] ∧ (f.queued flow size).now ≤ (f.queued flow size).begins flow ∧ (0 ≤ flow ∧ flow < (f.flows.length : Int)) ∧ (f.queued flow size).flows.length = f.flows.length := by
  have hm' := of_decide_eq_true hm
  have hi : flow.toNat < f.flows.length := by omega
  have hq : f.queued flow size = ⟨f.now, f.flows.set flow.toNat ((fwAt f.flows flow.toNat).more f.now size)⟩ := by unfold Fs.queued; rw [if_pos hk, if_pos hm]
  have hok := Fs.queued_ok hk hm
  have hsz : (fwAt (f.queued flow size).flows flow.toNat).sizes = (fwAt f.flows flow.toNat).sizes ++ [size] := by rw [hq]; simp only; rw [fwAt_set hi]; rfl
  have hln : (f.queued flow size).flows.length = f.flows.length := by rw [hq]; simp
  refine ⟨hok, hsz, ?_, hm'.1, hln⟩
  have hw : (f.queued flow size).waits flow.toNat = true := by unfold Fs.waits; rw [hsz]; simp
  have hb : (f.queued flow size).begins flow = (f.queued flow size).beg flow.toNat := by
    unfold Fs.begins
    rw [if_pos]
    rw [hok, hw, hln, inB_true.2 (by omega)]
    rfl
  rw [hb]
  unfold Fs.beg
  omega

/-- Flows that always wait: right, each with more than so many sizes of at most 200, no Finish above so much, Now no more than any Finish, and none ahead of another by more than its most. -/
structure Gy (f : Fs) (ws : List Int) (left top : Int) : Prop where
  ok : f.ok = true
  len : f.flows.length = ws.length
  wt : ∀ i, i < ws.length → (fwAt f.flows i).weight = szAt ws i
  sz : ∀ i, i < ws.length → left ≤ ((fwAt f.flows i).sizes.length : Int)
  up : ∀ i, i < ws.length → ∀ y ∈ (fwAt f.flows i).sizes, y ≤ 200
  now : ∀ i, i < ws.length → f.now ≤ (fwAt f.flows i).finish
  top : ∀ i, i < ws.length → (fwAt f.flows i).finish ≤ top
  near : ∀ a b, a < ws.length → b < ws.length → (fwAt f.flows a).finish ≤ (fwAt f.flows b).finish + 200 * (2520 / szAt ws a)
theorem div2520 {x : Int} (h : 1 ≤ x ∧ x ≤ 10) (s : Int) : s * 2520 / x = s * (2520 / x) ∧ Int.tdiv (200 * 2520) x = 200 * (2520 / x) ∧ 252 ≤ 2520 / x ∧ 2520 / x ≤ 2520 := by
  have : x = 1 ∨ x = 2 ∨ x = 3 ∨ x = 4 ∨ x = 5 ∨ x = 6 ∨ x = 7 ∨ x = 8 ∨ x = 9 ∨ x = 10 := by omega
  rcases this with rfl | rfl | rfl | rfl | rfl | rfl | rfl | rfl | rfl | rfl <;> refine ⟨by omega, by decide, by decide, by decide⟩
/-- The next one is served. -/
theorem Gy.step {f : Fs} {ws : List Int} {left top : Int} (h : Gy f ws left top) (hl : 1 ≤ left) (h0 : 0 < ws.length) (ht : top + 504000 ≤ 1125899906842624) (h00 : 0 ≤ top) :
    ∃ b : Nat, f.can = true ∧ f.chosen = b ∧ f.servedI = b ∧ b < ws.length ∧ f.servedN = szAt (fwAt f.flows b).sizes 0 ∧ (1 ≤ f.servedN ∧ f.servedN ≤ 200) ∧
      (∀ i, i < ws.length → (fwAt f.served.flows i).finish = (fwAt f.flows i).finish + if i = b then f.servedN * (2520 / szAt ws b) else 0) ∧ Gy f.served ws (left - 1) (top + 504000) := by
  have hwait : ∀ i, i < ws.length → f.waits i = true := fun i hi => decide_eq_true (by have := h.sz i hi; omega)
  have hbeg : ∀ i, i < ws.length → f.beg i = (fwAt f.flows i).finish := fun i hi => by have := h.now i hi; unfold Fs.beg; omega
  have hch : 0 ≤ f.chosen := by
    unfold Fs.chosen
    rw [if_pos h.ok]
    rcases f.best_is f.flows.length with ⟨_, q⟩ | ⟨b, e, _⟩
    · have := q 0 (by rw [h.len]; exact h0)
      rw [hwait 0 h0] at this
      cases this
    · omega
  obtain ⟨b, e, hb, hw, hm⟩ := Fs.chosen_is h.ok hch
  have hbw : b < ws.length := by rw [← h.len]; exact hb
  have hx := Fs.ok_at h.ok hb
  have hpos := of_decide_eq_true hw
  have hwt := (Fw.ok_iff.1 hx).1
  rw [h.wt b hbw] at hwt
  have hdv := (div2520 hwt 0).2.2
  have hs0 := Fs.cost_in hx hpos
  have hs2 := h.up b hbw _ (szAt_mem (j := 0) hpos)
  have hcost : (fwAt f.flows b).cost = szAt (fwAt f.flows b).sizes 0 * (2520 / szAt ws b) := by unfold Fw.cost; rw [h.wt b hbw]
  have hc200 : (fwAt f.flows b).cost ≤ 200 * (2520 / szAt ws b) := by rw [hcost]; exact Int.mul_le_mul_of_nonneg_right hs2 (by omega)
  have hend : f.endOf b = (fwAt f.flows b).finish + (fwAt f.flows b).cost := by unfold Fs.endOf; rw [hbeg b hbw]
  have hle : f.endOf b ≤ 1125899906842624 := by have := h.top b hbw; omega
  have hcan : f.can = true := by
    unfold Fs.can
    rw [h.ok, e, Int.toNat_natCast, decide_eq_true (show (0 : Int) ≤ (b : Int) by omega), decide_eq_true hle]
    rfl
  obtain ⟨_, b', e', _, _, _, hsv, hI, hN, _⟩ := Fs.can_is hcan
  have ebb : b' = b := by rw [e] at e'; omega
  subst ebb
  have hfl : f.served.flows = f.flows.set b' ⟨(fwAt f.flows b').weight, f.endOf b', (fwAt f.flows b').sizes.drop 1⟩ := by rw [hsv]; rfl
  have hnw : f.served.now = (fwAt f.flows b').finish := by rw [hsv]; unfold Fs.serve; simp only; exact hbeg b' hbw
  have hat : ∀ i, i < ws.length → fwAt f.served.flows i = if i = b' then ⟨(fwAt f.flows b').weight, f.endOf b', (fwAt f.flows b').sizes.drop 1⟩ else fwAt f.flows i := fun i hi => by
    rw [hfl]
    by_cases hib : i = b'
    · subst hib; rw [if_pos rfl, fwAt_set hb]
    · rw [if_neg hib, fwAt_other hib]
  have hleast : ∀ i, i < ws.length → (fwAt f.flows b').finish ≤ (fwAt f.flows i).finish := fun i hi => by
    have := (hm i (by rw [h.len]; exact hi) (hwait i hi)).1
    rw [hbeg i hi, hbeg b' hbw] at this
    exact this
  refine ⟨b', hcan, e, hI, hbw, hN, by rw [hN]; omega, fun i hi => ?_, ⟨Fs.served_ok h.ok, ?_, fun i hi => ?_, fun i hi => ?_, fun i hi y hy => ?_, fun i hi => ?_, fun i hi => ?_, fun x y hx' hy' => ?_⟩⟩
  · rw [hat i hi, hN]
    by_cases hib : i = b'
    · subst hib; rw [if_pos rfl, if_pos rfl]; simp only; rw [hend, hcost]
    · rw [if_neg hib, if_neg hib]; omega
  · rw [hfl, List.length_set]; exact h.len
  · rw [hat i hi]
    by_cases hib : i = b'
    · subst hib; rw [if_pos rfl]; exact h.wt i hi
    · rw [if_neg hib]; exact h.wt i hi
  · rw [hat i hi]
    have := h.sz i hi
    by_cases hib : i = b'
    · subst hib; rw [if_pos rfl]; simp only; rw [List.length_drop]; omega
    · rw [if_neg hib]; omega
  · rw [hat i hi] at hy
    by_cases hib : i = b'
    · subst hib; rw [if_pos rfl] at hy; exact h.up i hi y (List.mem_of_mem_drop hy)
    · rw [if_neg hib] at hy; exact h.up i hi y hy
  · rw [hat i hi, hnw]
    by_cases hib : i = b'
    · subst hib; rw [if_pos rfl]; simp only; rw [hend]; omega
    · rw [if_neg hib]; exact hleast i hi
  · rw [hat i hi]
    have t1 := h.top i hi
    by_cases hib : i = b'
    · subst hib; rw [if_pos rfl]; simp only; rw [hend]; omega
    · rw [if_neg hib]; omega
  · rw [hat x hx', hat y hy']
    have hnr := h.near x y hx' hy'
    by_cases hxb : x = b'
    · subst hxb
      rw [if_pos rfl]
      by_cases hyb : y = x
      · subst hyb
        rw [if_pos rfl]
        simp only
        omega
      · rw [if_neg hyb]
        simp only
        have := hleast y hy'
        rw [hend]
        omega
    · rw [if_neg hxb]
      by_cases hyb : y = b'
      · subst hyb
        rw [if_pos rfl]
        simp only
        rw [hend]
        omega
      · rw [if_neg hyb]
        exact hnr
end Go.Proofs.Ytllmkolchgmjoaa
