/-
  Plain mathematics for layer 6 (ents), as the landed code goes: a name's place in entries that rise; those ahead of it, the one that has it, those behind; what is put, cut, merged, found next, told by these. Lists alone; no condition but those that each theorem bears.
-/
import Derived.Test.YtelphegeeiocnaaW06Math
namespace Go.Proofs.Ytelphegeeiocnaa.M06
open Go.Proofs.Ytelphegeeiocnaa.M03

def low (L : List Ent) (s : List UInt8) : List Ent := L.filter (fun a => decide (lt a.1 s))
def mid (L : List Ent) (s : List UInt8) : List Ent := L.filter (fun a => decide (a.1 = s))
def high (L : List Ent) (s : List UInt8) : List Ent := L.filter (fun a => decide (lt s a.1))
/-- where a name stands: how many are ahead, and whether it is there -/
def place : List Ent → List UInt8 → Nat × Bool
  | [], _ => (0, false)
  | a :: r, s => if lt a.1 s then ((place r s).1 + 1, (place r s).2) else (0, decide (a.1 = s))
def wide (f : Bool) : Nat := if f = true then 1 else 0
theorem high_all : ∀ {L : List Ent} {s : List UInt8}, (∀ a ∈ L, lt s a.1) → low L s = [] ∧ mid L s = [] ∧ high L s = L := by
  intro L s h
  refine ⟨List.filter_eq_nil_iff.2 fun a ha => ?_, List.filter_eq_nil_iff.2 fun a ha => ?_, List.filter_eq_self.2 fun a ha => ?_⟩
  · simpa using lt_asymm (h a ha)
  · simpa using fun e : a.1 = s => lt_irrefl s (by have := h a ha; rwa [e] at this)
  · simpa using h a ha
theorem place_len : ∀ (L : List Ent) (s : List UInt8), (place L s).1 + wide (place L s).2 ≤ L.length
  | [], s => by simp [place, wide]
  | a :: r, s => by
    have ih := place_len r s
    unfold place
    by_cases h : lt a.1 s
    · rw [if_pos h]; simp only [List.length_cons]; omega
    · rw [if_neg h]; simp only [List.length_cons]; unfold wide; split <;> omega
theorem place_parts : ∀ {L : List Ent} (s : List UInt8), right L = true → low L s = L.take (place L s).1 ∧ mid L s = (L.take ((place L s).1 + wide (place L s).2)).drop (place L s).1 ∧ high L s = L.drop ((place L s).1 + wide (place L s).2)
  | [], s, _ => ⟨rfl, rfl, rfl⟩
  | a :: r, s, hr => by
    have hp := (right_iff _).1 hr
    rw [List.pairwise_cons] at hp
    have hr2 : right r = true := (right_iff _).2 hp.2
    obtain ⟨i1, i2, i3⟩ := place_parts s hr2
    unfold low at i1 ⊢
    unfold mid at i2 ⊢
    unfold high at i3 ⊢
    unfold place
    by_cases h : lt a.1 s
    · rw [if_pos h, List.filter_cons_of_pos (by simpa using h), List.filter_cons_of_neg (by simpa using fun e : a.1 = s => lt_irrefl s (by rwa [e] at h)), List.filter_cons_of_neg (by simpa using lt_asymm h), i1, i2, i3]
      refine ⟨rfl, ?_, ?_⟩
      · show _ = List.drop ((place r s).1 + 1) (List.take ((place r s).1 + 1 + wide (place r s).2) (a :: r))
        rw [show (place r s).1 + 1 + wide (place r s).2 = (place r s).1 + wide (place r s).2 + 1 by omega, List.take_succ_cons, List.drop_succ_cons]
      · show _ = List.drop ((place r s).1 + 1 + wide (place r s).2) (a :: r)
        rw [show (place r s).1 + 1 + wide (place r s).2 = (place r s).1 + wide (place r s).2 + 1 by omega, List.drop_succ_cons]
    · rw [if_neg h]
      by_cases e : a.1 = s
      · obtain ⟨q1, q2, q3⟩ := high_all (L := r) (s := s) (fun b hb => by rw [← e]; exact hp.1 b hb)
        unfold low at q1; unfold mid at q2; unfold high at q3
        rw [List.filter_cons_of_neg (by simpa using h), List.filter_cons_of_pos (by simpa using e), List.filter_cons_of_neg (by rw [e]; simpa using lt_irrefl s), q1, q2, q3]
        simp [e, wide]
      · have hs : lt s a.1 := by
          rcases lt_total a.1 s with q | q | q
          · exact absurd q h
          · exact absurd q e
          · exact q
        obtain ⟨q1, q2, q3⟩ := high_all (L := a :: r) (s := s) (fun b hb => by
          rcases List.mem_cons.1 hb with q | q
          · rw [q]; exact hs
          · exact lt_trans hs (hp.1 b q))
        unfold low at q1; unfold mid at q2; unfold high at q3
        rw [q1, q2, q3]
        simp [e, wide]
/-- a place, told by what is below and what isn't -/
theorem place_at : ∀ (L : List Ent) (s : List UInt8) (i : Nat), i ≤ L.length → (∀ k (h : k < L.length), k < i → lt (L[k]).1 s) → (∀ h : i < L.length, ¬ lt (L[i]).1 s) → place L s = (i, if h : i < L.length then decide ((L[i]).1 = s) else false)
  | [], s, i, hi, _, _ => by
    have : i = 0 := by simpa using hi
    subst this; simp [place]
  | a :: L, s, 0, _, _, h2 => by
    have := h2 (by simp)
    simp only [List.getElem_cons_zero] at this
    simp [place, this]
  | a :: L, s, i + 1, hi, h1, h2 => by
    have ha := h1 0 (by simp) (by omega)
    simp only [List.getElem_cons_zero] at ha
    have ih := place_at L s i (by simpa using hi) (fun k hk hki => by have := h1 (k + 1) (by simpa using hk) (by omega); simpa using this) (fun hk => by have := h2 (by simpa using hk); simpa using this)
    rw [place, if_pos ha, ih]
    simp
theorem rises_low {L : List Ent} (h : right L = true) {a b : Nat} {s : List UInt8} (hab : a ≤ b) (hb : b < L.length) (ha : a < L.length) (hs : lt (L[b]).1 s) : lt (L[a]).1 s := by
  rcases Nat.lt_or_ge a b with h1 | h1
  · exact lt_trans (List.pairwise_iff_getElem.1 ((right_iff _).1 h) a b ha hb h1) hs
  · obtain rfl : a = b := by omega
    exact hs
theorem rises_high {L : List Ent} (h : right L = true) {a b : Nat} {s : List UInt8} (hab : a ≤ b) (hb : b < L.length) (ha : a < L.length) (hs : ¬ lt (L[a]).1 s) : ¬ lt (L[b]).1 s := fun e => hs (rises_low h hab hb ha e)

theorem low_cut (L : List Ent) (s : List UInt8) : (cutL L s).filter (fun a => decide (lt a.1 s)) = low L s := by
  unfold cutL low
  rw [List.filter_filter]
  apply List.filter_congr
  intro a _
  by_cases h : lt a.1 s
  · have : ¬ a.1 = s := fun e => lt_irrefl s (by rwa [e] at h)
    simp [h, this]
  · simp [h]
theorem high_cut (L : List Ent) (s : List UInt8) : (cutL L s).filter (fun a => decide (lt s a.1)) = high L s := by
  unfold cutL high
  rw [List.filter_filter]
  apply List.filter_congr
  intro a _
  by_cases h : lt s a.1
  · have : ¬ a.1 = s := fun e => lt_irrefl s (by rwa [e] at h)
    simp [h, this]
  · simp [h]
theorem put_parts (L : List Ent) (e : Ent) : put L e = low (all L) e.1 ++ e :: high (all L) e.1 := by
  unfold put putL
  rw [low_cut, high_cut]
theorem low_all {L : List Ent} {s : List UInt8} (h : ∀ a ∈ L, lt a.1 s) : low L s = L ∧ high L s = [] := by
  refine ⟨List.filter_eq_self.2 fun a ha => ?_, List.filter_eq_nil_iff.2 fun a ha => ?_⟩
  · simpa using h a ha
  · simpa using lt_asymm (h a ha)
theorem cutL_parts : ∀ {L : List Ent} (s : List UInt8), right L = true → cutL L s = low L s ++ high L s
  | [], s, _ => rfl
  | a :: r, s, hr => by
    have hp := (right_iff _).1 hr
    rw [List.pairwise_cons] at hp
    have ih := cutL_parts s ((right_iff _).2 hp.2)
    unfold cutL low high at ih ⊢
    rcases lt_total a.1 s with h | h | h
    · have : ¬ a.1 = s := fun e => lt_irrefl s (by rwa [e] at h)
      rw [List.filter_cons_of_pos (by simpa using this), List.filter_cons_of_pos (by simpa using h), List.filter_cons_of_neg (by simpa using lt_asymm h), ih]; rfl
    · rw [List.filter_cons_of_neg (by simpa using h), List.filter_cons_of_neg (by rw [h]; simpa using lt_irrefl s), List.filter_cons_of_neg (by rw [h]; simpa using lt_irrefl s), ih]
    · have : ¬ a.1 = s := fun e => lt_irrefl s (by rwa [e] at h)
      obtain ⟨q1, q2, q3⟩ := high_all (L := r) (s := s) (fun b hb => lt_trans h (hp.1 b hb))
      unfold low at q1; unfold mid at q2; unfold high at q3
      rw [List.filter_cons_of_pos (by simpa using this), List.filter_cons_of_neg (by simpa using lt_asymm h), List.filter_cons_of_pos (by simpa using h), ih, q1, q3]; rfl
theorem cut_parts (L : List Ent) (s : List UInt8) : cut L s = low (all L) s ++ high (all L) s := cutL_parts s (right_all L)
def first : List Ent → Int × Bool
  | [] => (0, false)
  | a :: _ => (a.2, true)
def firstE : List Ent → Ent × Bool
  | [] => (([], 0), false)
  | a :: _ => (a, true)
theorem find_parts : ∀ (L : List Ent) (s : List UInt8), find L s = first (mid L s)
  | [], s => rfl
  | a :: r, s => by
    have ih := find_parts r s
    unfold mid at ih ⊢
    by_cases h : a.1 = s
    · rw [find, if_pos h, List.filter_cons_of_pos (by simpa using h)]; rfl
    · rw [find, if_neg h, List.filter_cons_of_neg (by simpa using h), ih]
theorem next_parts : ∀ (L : List Ent) (s : List UInt8), next L s = firstE (high L s)
  | [], s => rfl
  | a :: r, s => by
    have ih := next_parts r s
    unfold high at ih ⊢
    by_cases h : lt s a.1
    · rw [next, if_pos h, List.filter_cons_of_pos (by simpa using h)]; rfl
    · rw [next, if_neg h, List.filter_cons_of_neg (by simpa using h), ih]
theorem low_len (L : List Ent) (s : List UInt8) : (low L s).length ≤ L.length := List.length_filter_le _ _
theorem high_len (L : List Ent) (s : List UInt8) : (high L s).length ≤ L.length := List.length_filter_le _ _
theorem low_high_len : ∀ (L : List Ent) (s : List UInt8), (low L s).length + (high L s).length ≤ L.length
  | [], s => by simp [low, high]
  | a :: r, s => by
    have ih := low_high_len r s
    unfold low high at ih ⊢
    by_cases h : lt a.1 s
    · rw [List.filter_cons_of_pos (by simpa using h), List.filter_cons_of_neg (by simpa using lt_asymm h)]
      simp only [List.length_cons]; omega
    · rw [List.filter_cons_of_neg (by simpa using h)]
      have h1 : (List.filter (fun a => decide (lt s a.1)) (a :: r)).length ≤ (List.filter (fun a => decide (lt s a.1)) r).length + 1 := by
        rw [List.filter_cons]; split <;> simp
      simp only [List.length_cons]; omega
/-- one more is merged: what is ready lies ahead of it -/
theorem merge_step {out rs : List Ent} {e : Ent} (hr : right (out ++ rs) = true) (h : ∀ a ∈ out, lt a.1 e.1) : put (out ++ rs) e = (out ++ low rs e.1 ++ [e]) ++ high rs e.1 := by
  rw [put_parts, all_right hr]
  obtain ⟨q1, q2⟩ := low_all h
  unfold low at q1 ⊢; unfold high at q2 ⊢
  rw [List.filter_append, List.filter_append, q1, q2]
  simp
theorem right_high {out rs : List Ent} (hr : right (out ++ rs) = true) : right rs = true := (right_iff _).2 (List.pairwise_append.1 ((right_iff _).1 hr)).2.1
theorem low_below {L : List Ent} {s : List UInt8} {a : Ent} (h : a ∈ low L s) : lt a.1 s := by have := (List.mem_filter.1 h).2; simpa using this
end Go.Proofs.Ytelphegeeiocnaa.M06
