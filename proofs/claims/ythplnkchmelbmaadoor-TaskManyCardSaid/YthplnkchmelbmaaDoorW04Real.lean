/-
  Layer 4 (path), plain mathematics: how the landed program reckons Is, Join, Dir, Base and Under of texts of bytes, and that it comes to what the plain answers tell. No condition but those that each theorem bears.
-/
import Derived.Test.YthplnkchmelbmaaDoorW04Buf
import Derived.Test.YthplnkchmelbmaaDoorW04Use
namespace Go.Proofs.YthplnkchmelbmaaDoor.W04
open Go Go.RowKit Go.Proofs.YthplnkchmelbmaaDoor.M04
open Go.Proofs.YthplnkchmelbmaaDoor.M03 (check)
open Go.Proofs.YthplnkchmelbmaaDoor.Kit (mk_bytes mk_of ba_ext take_bytes drop_bytes cat_bytes)

theorem check_points : ¬ check [46, 46] = 0 := by decide
/-- Is -/
theorem isPath_real (l : Bytes) : isPath l = (decide (l.length ≤ 1024) && decide (clean l = l) && (parts l).all (fun p => decide (check p = 0))) := by
  unfold isPath
  cases h : (parts l).all (fun p => decide (check p = 0)) with
  | false => simp
  | true =>
    have hp : ∀ p ∈ parts l, p ≠ [46, 46] := by
      intro p hm e
      have := (List.all_eq_true.1 h) p hm
      rw [e] at this
      exact check_points (of_decide_eq_true this)
    have e : clean l = text (parts l) := by unfold clean; rw [cparts_plain hp]
    rw [e, Bool.and_true, Bool.and_true, Bool.and_comm]
    congr 1
    exact decide_eq_decide.2 ⟨fun h => h.symm, fun h => h.symm⟩
/-- Join -/
theorem prefix_slash (l : Bytes) : Lib.hasPrefix l [47] = decide (l.head? = some 47) := by
  unfold Lib.hasPrefix
  cases l with
  | nil => rfl
  | cons c r =>
    show ((47 : UInt8) == c && ([] : Bytes).isPrefixOf r) = _
    rw [List.isPrefixOf_nil_left, Bool.and_true]
    by_cases h : c = 47
    · subst h; simp
    · have h2 : ¬ (47 : UInt8) = c := fun e => h e.symm
      simp [h, h2]
theorem flat_nil : flat [] = [] := rfl
theorem text_flat {L : List Bytes} (h : L ≠ []) : text L = flat L := by unfold text; rw [if_neg h]; rfl
theorem flat_pos {L : List Bytes} (h : L ≠ []) : 0 < (flat L).length := by
  cases L with
  | nil => exact absurd rfl h
  | cons p q => unfold flat; rw [List.flatMap_cons]; simp
theorem last_more {o : List Bytes} {p : Bytes} (hp : (47 : UInt8) ∉ p) : lastSlash (flat (o ++ [p])) = ((flat o).length : Int) := by
  refine last_at ?_ ?_ ?_
  · rw [flat_more]; simp
  · rw [flat_more, List.getD_eq_getElem?_getD, List.getElem?_append_right (Nat.le_refl _)]; simp
  · rw [flat_more, List.drop_append, List.drop_of_length_le (Nat.le_succ _)]; simpa using hp
/-- Dir -/
theorem dir_real (l : Bytes) : (clean l).take (max 1 (lastSlash (clean l))).toNat = dirOf l := by
  have hp := fun p hm => (clean_parts_plain l p hm).1
  unfold dirOf
  rw [parts_clean] at hp ⊢
  show (text (cparts (parts l))).take (max 1 (lastSlash (text (cparts (parts l))))).toNat = _
  generalize cparts (parts l) = L at *
  rcases List.eq_nil_or_concat L with rfl | ⟨o, p, rfl⟩
  · rfl
  · rw [List.concat_eq_append] at *
    have h1 := (hp p (by simp)).1
    rw [text_flat (by simp), last_more h1, List.dropLast_concat]
    by_cases ho : o = []
    · subst ho
      rw [flat_more]
      rfl
    · have := flat_pos ho
      rw [text_flat ho, flat_more, show (max 1 ((flat o).length : Int)).toNat = (flat o).length by omega, List.take_left]
/-- Base -/
theorem base_real (l : Bytes) : (clean l).drop (lastSlash (clean l) + 1).toNat = base l := by
  have hp := fun p hm => (clean_parts_plain l p hm).1
  unfold base
  rw [parts_clean] at hp ⊢
  show (text (cparts (parts l))).drop (lastSlash (text (cparts (parts l))) + 1).toNat = _
  generalize cparts (parts l) = L at *
  rcases List.eq_nil_or_concat L with rfl | ⟨o, p, rfl⟩
  · rfl
  · rw [List.concat_eq_append] at *
    have h1 := (hp p (by simp)).1
    rw [text_flat (by simp), last_more h1, flat_more, show (((flat o).length : Int) + 1).toNat = (flat o).length + 1 by omega]
    rw [List.drop_append, List.drop_of_length_le (Nat.le_succ _)]
    simp
/-- Under -/
theorem parts_of_flat {L : List Bytes} (h : ∀ p ∈ L, Part p) : parts (flat L) = L := parts_flat L h
theorem suffix_root {D : List Bytes} (h : ∀ p ∈ D, Part p) : Lib.trimSuffix (text D) [47] = flat D := by
  unfold Lib.trimSuffix
  rcases List.eq_nil_or_concat D with rfl | ⟨o, p, rfl⟩
  · rfl
  · rw [List.concat_eq_append] at *
    have hp := h p (by simp)
    rw [text_flat (by simp), if_neg]
    intro hs
    have hs2 := List.isSuffixOf_iff_suffix.1 hs
    obtain ⟨t, ht⟩ := hs2
    rw [flat_more] at ht
    have e := congrArg List.getLast? ht
    obtain ⟨q, c, hq⟩ : ∃ q c, p = q ++ [c] := by
      rcases List.eq_nil_or_concat p with h0 | ⟨q, c, hq⟩
      · exact absurd h0 hp.2.1
      · exact ⟨q, c, by rw [hq, List.concat_eq_append]⟩
    have hc : (47 : UInt8) ≠ c := fun e => hp.1 (by rw [hq, ← e]; simp)
    have e3 : (47 :: (q ++ [c])).getLast? = some c := by rw [← List.cons_append, List.getLast?_append]; rfl
    rw [hq, List.getLast?_append, List.getLast?_append, e3] at e
    simp at e
    exact hc e
theorem slashed_flat : ∀ (L : List Bytes), L ≠ [] → flat L = 47 :: slashed L
  | [], h => absurd rfl h
  | [p], _ => by simp [flat, slashed]
  | p :: q :: r, _ => by
    have ih := slashed_flat (q :: r) (by simp)
    show 47 :: p ++ flat (q :: r) = _
    rw [ih]; rfl
theorem flat_append (A B : List Bytes) : flat (A ++ B) = flat A ++ flat B := List.flatMap_append
/-- what the program reckons, of clean texts -/
theorem under_real {s d : Bytes} (hs : clean s = s) (hd : clean d = d) :
    let t := Lib.trimSuffix d [47]
    let r := Lib.trimPrefix s t
    (Lib.hasPrefix s t = true ∧ (r = [] ∨ r.head? = some 47) → under s d = (Lib.trimPrefix r [47], true)) ∧
    (¬ (Lib.hasPrefix s t = true ∧ (r = [] ∨ r.head? = some 47)) → under s d = ([], false)) := by
  have hS : ∀ p ∈ parts s, Part p := parts_are s
  have hD : ∀ p ∈ parts d, Part p := parts_are d
  have es := text_parts hs
  have ed := text_parts hd
  intro t r
  have et : t = flat (parts d) := by
    show Lib.trimSuffix d [47] = _
    conv => lhs; rw [← ed]
    exact suffix_root hD
  have hu : isUnder s d = (parts d).isPrefixOf (parts s) := by simp [isUnder, hs, hd]
  -- of / itself
  by_cases e0 : parts s = []
  · have e1 : s = [47] := by rw [← es, e0]; rfl
    by_cases e2 : parts d = []
    · have et2 : t = [] := by rw [et, e2]; rfl
      have er : r = [47] := by show Lib.trimPrefix s t = _; rw [et2, e1]; rfl
      have h1 : Lib.hasPrefix s t = true := by rw [et2, e1]; rfl
      refine ⟨fun _ => ?_, fun h => absurd ⟨h1, Or.inr (by rw [er]; rfl)⟩ h⟩
      unfold under
      rw [hu, e0, e2, er]
      rfl
    · have h1 : ¬ Lib.hasPrefix s t = true := by
        rw [et, e1]
        intro h
        have h2 := (List.isPrefixOf_iff_prefix.1 h).length_le
        cases hc : parts d with
        | nil => exact e2 hc
        | cons p q =>
          rw [hc] at h2 hD
          have hp := hD p (by simp)
          have : 0 < p.length := List.length_pos_iff.2 hp.2.1
          have h3 : (flat (p :: q)).length = p.length + 1 + (flat q).length := by unfold flat; rw [List.flatMap_cons, List.length_append, List.length_cons]
          rw [h3, List.length_singleton] at h2
          omega
      refine ⟨fun h => absurd h.1 h1, fun _ => ?_⟩
      unfold under
      rw [hu, e0, if_neg]
      cases hc : parts d with
      | nil => exact absurd hc e2
      | cons p q => simp
  · have es2 : s = flat (parts s) := by conv => lhs; rw [← es, text_flat e0]
    by_cases hpre : (parts d).isPrefixOf (parts s) = true
    · obtain ⟨E, hE⟩ := List.isPrefixOf_iff_prefix.1 hpre
      have h1 : s = t ++ flat E := by rw [et, ← flat_append, hE]; exact es2
      have h2 : Lib.hasPrefix s t = true := List.isPrefixOf_iff_prefix.2 ⟨flat E, h1.symm⟩
      have er : r = flat E := by
        show Lib.trimPrefix s t = _
        unfold Lib.trimPrefix
        rw [if_pos h2]
        conv => lhs; rw [h1]
        exact List.drop_left
      have hE2 : (parts s).drop (parts d).length = E := by rw [← hE, List.drop_left]
      have hr : r = [] ∨ r.head? = some 47 := by
        rw [er]
        by_cases e : E = []
        · subst e; exact Or.inl rfl
        · right; rw [slashed_flat E e]; rfl
      refine ⟨fun _ => ?_, fun h => absurd ⟨h2, hr⟩ h⟩
      unfold under
      rw [hu, if_pos hpre, hE2, er]
      by_cases e : E = []
      · subst e; rfl
      · rw [slashed_flat E e]; rfl
    · refine ⟨fun h => ?_, fun _ => ?_⟩
      · exfalso
        obtain ⟨h1, h2⟩ := h
        obtain ⟨x, hx⟩ := List.isPrefixOf_iff_prefix.1 h1
        have er : r = x := by
          show Lib.trimPrefix s t = _
          unfold Lib.trimPrefix
          rw [if_pos h1]
          conv => lhs; rw [← hx]
          exact List.drop_left
        apply hpre
        rw [List.isPrefixOf_iff_prefix]
        rw [er] at h2
        rcases h2 with h2 | h2
        · rw [h2, List.append_nil, et] at hx
          have := congrArg parts hx
          rw [parts_of_flat hD] at this
          rw [← this]
          exact List.prefix_refl _
        · cases x with
          | nil => simp at h2
          | cons c y =>
            simp at h2
            subst h2
            have := congrArg parts hx
            rw [parts_slash, et, parts_of_flat hD] at this
            exact ⟨_, this⟩
      · unfold under
        rw [hu, if_neg hpre]
theorem clean_pos (l : Bytes) : 1 ≤ (clean l).length := by
  unfold clean
  by_cases h : cparts (parts l) = []
  · rw [h]; exact Nat.le_refl _
  · rw [text_flat h]; exact flat_pos h
theorem last_lt {l : Bytes} (h : 1 ≤ l.length) : -1 ≤ lastSlash l ∧ lastSlash l + 1 ≤ l.length := by unfold lastSlash; split <;> omega
end Go.Proofs.YthplnkchmelbmaaDoor.W04
