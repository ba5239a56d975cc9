/-
  Plain mathematics for layer 4 (path): a text's parts, clean paths, joined paths, what is above and below; lists of bytes alone. No condition but those that each theorem bears.
-/
import Derived.Test.YthplnkchmelbmaaDoorW03Math
namespace Go.Proofs.YthplnkchmelbmaaDoor.M04
open Go.Proofs.YthplnkchmelbmaaDoor.M03 (check)

abbrev Bytes := List UInt8
/-- a part that has ended: kept, unless it is empty or one point -/
def flush (now : Bytes) : List Bytes := if now = [] ∨ now = [46] then [] else [now]
def pgo : Bytes → Bytes → List Bytes
  | [], now => flush now
  | c :: r, now => if c = 47 then flush now ++ pgo r [] else pgo r (now ++ [c])
/-- a text's parts -/
def parts (l : Bytes) : List Bytes := pgo l []
/-- parts as a path -/
def text (L : List Bytes) : Bytes := if L = [] then [47] else L.flatMap (fun p => 47 :: p)
def cstep (out : List Bytes) (p : Bytes) : List Bytes := if p = [46, 46] then out.dropLast else out ++ [p]
def cparts (L : List Bytes) : List Bytes := L.foldl cstep []
def clean (l : Bytes) : Bytes := text (cparts (parts l))
def isPath (l : Bytes) : Bool := decide (l = text (parts l)) && decide (l.length ≤ 1024) && (parts l).all (fun p => decide (check p = 0))
def join (dir s : Bytes) : Bytes := if s.head? = some 47 then clean s else clean (dir ++ 47 :: s)
def dirOf (s : Bytes) : Bytes := text (parts (clean s)).dropLast
def base (s : Bytes) : Bytes := (parts (clean s)).getLastD []
/-- parts with slashes between -/
def slashed : List Bytes → Bytes
  | [] => []
  | [p] => p
  | p :: q :: r => p ++ 47 :: slashed (q :: r)
def isUnder (s dir : Bytes) : Bool := decide (clean s = s) && decide (clean dir = dir) && (parts dir).isPrefixOf (parts s)
def under (s dir : Bytes) : Bytes × Bool := if isUnder s dir = true then (slashed ((parts s).drop (parts dir).length), true) else ([], false)

/-- what parts are: no slash, not empty, not one point -/
def Part (p : Bytes) : Prop := (47 : UInt8) ∉ p ∧ p ≠ [] ∧ p ≠ [46]
theorem flush_parts {now : Bytes} (h : (47 : UInt8) ∉ now) : ∀ p ∈ flush now, Part p := by
  intro p hp
  unfold flush at hp
  split at hp
  · simp at hp
  · rename_i h2
    simp only [List.mem_singleton] at hp
    subst hp
    exact ⟨h, fun e => h2 (Or.inl e), fun e => h2 (Or.inr e)⟩
theorem pgo_parts : ∀ (l now : Bytes), (47 : UInt8) ∉ now → ∀ p ∈ pgo l now, Part p
  | [], now, h => flush_parts h
  | c :: r, now, h => by
    intro p hp
    unfold pgo at hp
    split at hp
    · rcases List.mem_append.1 hp with h1 | h1
      · exact flush_parts h p h1
      · exact pgo_parts r [] (by simp) p h1
    · rename_i hc
      exact pgo_parts r _ (by
        intro e
        rcases List.mem_append.1 e with e | e
        · exact h e
        · exact hc (List.mem_singleton.1 e).symm) p hp
theorem parts_are (l : Bytes) : ∀ p ∈ parts l, Part p := pgo_parts l [] (by simp)
theorem flush_part {p : Bytes} (h : Part p) : flush p = [p] := by
  unfold flush; rw [if_neg]; rintro (e | e); exact h.2.1 e; exact h.2.2 e
theorem pgo_run : ∀ (p r now : Bytes), (47 : UInt8) ∉ p → pgo (p ++ r) now = pgo r (now ++ p)
  | [], r, now, _ => by simp
  | c :: p, r, now, h => by
    simp only [List.mem_cons, not_or] at h
    show pgo (c :: (p ++ r)) now = _
    rw [pgo, if_neg (fun e => h.1 e.symm), pgo_run p r (now ++ [c]) h.2, List.append_assoc]
    rfl
theorem pgo_slash (l : Bytes) (r now : Bytes) : pgo (l ++ 47 :: r) now = pgo l now ++ parts r := by
  induction l generalizing now with
  | nil => simp [pgo, parts]
  | cons c l ih =>
    show pgo (c :: (l ++ 47 :: r)) now = _
    rw [pgo, pgo]
    split
    · rw [ih, List.append_assoc]
    · rw [ih]
theorem parts_slash (l r : Bytes) : parts (l ++ 47 :: r) = parts l ++ parts r := pgo_slash l r []
theorem parts_one {p : Bytes} (h : Part p) : parts p = [p] := by
  have := pgo_run p [] [] h.1
  rw [List.append_nil] at this
  unfold parts; rw [this]
  show flush ([] ++ p) = _
  rw [List.nil_append, flush_part h]
theorem parts_nil : parts [] = [] := rfl
theorem parts_flat : ∀ (L : List Bytes), (∀ p ∈ L, Part p) → parts (L.flatMap (fun p => 47 :: p)) = L
  | [], _ => rfl
  | p :: L, h => by
    have ih := parts_flat L (fun q hq => h q (by simp [hq]))
    have hp := h p (by simp)
    show parts (47 :: p ++ L.flatMap (fun p => 47 :: p)) = _
    cases L with
    | nil =>
      show parts ([] ++ 47 :: (p ++ [])) = _
      rw [parts_slash, List.append_nil, parts_one hp]; rfl
    | cons q L =>
      have e : (47 :: p ++ (q :: L).flatMap (fun p => 47 :: p) : Bytes) = [] ++ 47 :: (p ++ 47 :: (q ++ L.flatMap (fun p => 47 :: p))) := by simp
      have e2 : ((q :: L).flatMap (fun p => 47 :: p) : Bytes) = [] ++ 47 :: (q ++ L.flatMap (fun p => 47 :: p)) := by simp
      rw [e2, parts_slash] at ih
      rw [e, parts_slash, parts_slash, parts_one hp]
      simp only [parts_nil, List.nil_append] at ih ⊢
      rw [ih]; rfl
theorem parts_text {L : List Bytes} (h : ∀ p ∈ L, Part p) : parts (text L) = L := by
  unfold text
  split
  · rename_i e; subst e; rfl
  · exact parts_flat L h
theorem cstep_part {out : List Bytes} {p : Bytes} (h : ∀ q ∈ out, Part q ∧ q ≠ [46, 46]) (hp : Part p) : ∀ q ∈ cstep out p, Part q ∧ q ≠ [46, 46] := by
  intro q hq
  unfold cstep at hq
  split at hq
  · exact h q (List.dropLast_subset _ hq)
  · rename_i hne
    rcases List.mem_append.1 hq with h1 | h1
    · exact h q h1
    · simp only [List.mem_singleton] at h1; subst h1; exact ⟨hp, hne⟩
theorem fold_part : ∀ (L out : List Bytes), (∀ q ∈ out, Part q ∧ q ≠ [46, 46]) → (∀ p ∈ L, Part p) → ∀ q ∈ L.foldl cstep out, Part q ∧ q ≠ [46, 46]
  | [], _, h, _ => h
  | p :: L, out, h, hL => fold_part L (cstep out p) (cstep_part h (hL p (by simp))) (fun q hq => hL q (by simp [hq]))
theorem cparts_are {L : List Bytes} (h : ∀ p ∈ L, Part p) : ∀ q ∈ cparts L, Part q ∧ q ≠ [46, 46] := fold_part L [] (by simp) h
theorem fold_plain : ∀ (L out : List Bytes), (∀ p ∈ L, p ≠ [46, 46]) → L.foldl cstep out = out ++ L
  | [], out, _ => by simp
  | p :: L, out, h => by
    rw [List.foldl_cons, fold_plain L _ (fun q hq => h q (by simp [hq]))]
    unfold cstep
    rw [if_neg (h p (by simp)), List.append_assoc]; rfl
theorem parts_clean (l : Bytes) : parts (clean l) = cparts (parts l) := parts_text fun p hp => (cparts_are (parts_are l) p hp).1
theorem clean_parts_plain (l : Bytes) : ∀ p ∈ parts (clean l), Part p ∧ p ≠ [46, 46] := by rw [parts_clean]; exact cparts_are (parts_are l)
theorem cparts_plain {L : List Bytes} (h : ∀ p ∈ L, p ≠ [46, 46]) : cparts L = L := by unfold cparts; rw [fold_plain L [] h, List.nil_append]
theorem clean_clean (l : Bytes) : clean (clean l) = clean l := by
  show text (cparts (parts (clean l))) = clean l
  rw [cparts_plain (fun p hp => (clean_parts_plain l p hp).2), parts_clean]; rfl
theorem clean_text {L : List Bytes} (h : ∀ p ∈ L, Part p ∧ p ≠ [46, 46]) : clean (text L) = text L := by
  unfold clean; rw [parts_text (fun p hp => (h p hp).1), cparts_plain (fun p hp => (h p hp).2)]
theorem text_parts {l : Bytes} (h : clean l = l) : text (parts l) = l := by
  have : text (parts (clean l)) = clean l := by rw [parts_clean]; rfl
  rw [h] at this; exact this
theorem clean_inj {a b : Bytes} (ha : clean a = a) (hb : clean b = b) (h : parts a = parts b) : a = b := by rw [← text_parts ha, ← text_parts hb, h]
theorem cparts_append (A B : List Bytes) : cparts (A ++ B) = B.foldl cstep (cparts A) := by unfold cparts; rw [List.foldl_append]
theorem clean_slash (d s : Bytes) : clean (d ++ 47 :: s) = text ((parts s).foldl cstep (parts (clean d))) := by
  show text _ = _
  rw [parts_slash, cparts_append, parts_clean]
theorem head_part {p : Bytes} (h : Part p) : p.head? ≠ some 47 := by
  cases p with
  | nil => simp
  | cons c r =>
    intro e
    simp only [List.head?_cons, Option.some.injEq] at e
    exact h.1 (by simp [e])
theorem slashed_parts : ∀ (L : List Bytes), (∀ p ∈ L, Part p) → parts (slashed L) = L
  | [], _ => rfl
  | [p], h => parts_one (h p (by simp))
  | p :: q :: r, h => by
    have ih := slashed_parts (q :: r) (fun x hx => h x (by simp at hx ⊢; right; exact hx))
    show parts (p ++ 47 :: slashed (q :: r)) = _
    rw [parts_slash, ih, parts_one (h p (by simp))]; rfl
theorem slashed_head {L : List Bytes} (h : ∀ p ∈ L, Part p) : (slashed L).head? ≠ some 47 := by
  match L, h with
  | [], _ => simp [slashed]
  | [p], h => exact head_part (h p (by simp))
  | p :: q :: r, h =>
    have hp := h p (by simp)
    show (p ++ 47 :: slashed (q :: r)).head? ≠ some 47
    cases p with
    | nil => exact absurd rfl hp.2.1
    | cons c p => have := head_part hp; simpa using this
/-- from a clean directory on, a relative text of plain parts -/
theorem join_slashed {d : Bytes} {L : List Bytes} (hd : clean d = d) (h : ∀ p ∈ L, Part p ∧ p ≠ [46, 46]) : join d (slashed L) = text (parts d ++ L) := by
  unfold join
  rw [if_neg (slashed_head (fun p hp => (h p hp).1)), clean_slash, hd, slashed_parts L (fun p hp => (h p hp).1), fold_plain L _ (fun p hp => (h p hp).2)]
theorem isPrefix_drop {a b : List Bytes} (h : b.isPrefixOf a = true) : b ++ a.drop b.length = a := by
  obtain ⟨t, rfl⟩ := List.isPrefixOf_iff_prefix.1 h
  rw [List.drop_left]
/-- what is under a directory, joined to it -/
theorem join_under {s d : Bytes} (h : (under s d).2 = true) : join d (under s d).1 = s := by
  unfold under at *
  by_cases hu : isUnder s d = true
  · rw [if_pos hu]
    simp only [isUnder, Bool.and_eq_true, decide_eq_true_eq] at hu
    obtain ⟨⟨hs, hd⟩, hp⟩ := hu
    have hpl := clean_parts_plain s
    rw [hs] at hpl
    show join d (slashed _) = s
    rw [join_slashed hd (fun p hm => hpl p (List.mem_of_mem_drop hm)), isPrefix_drop hp, text_parts hs]
  · rw [if_neg hu] at h; simp at h
theorem within_self {c : Bytes} (h : clean c = c) : isUnder c c = true := by
  simp [isUnder, h]
theorem within_root {c : Bytes} (h : clean c = c) : isUnder c [47] = true := by
  have e1 : clean [47] = [47] := rfl
  have e2 : parts [47] = [] := rfl
  simp only [isUnder, h, e1, e2]
  cases parts c <;> rfl
theorem text_nil : text [] = [47] := rfl
theorem dirOf_clean (s : Bytes) : clean (dirOf s) = dirOf s := clean_text fun p hp => clean_parts_plain s p (List.dropLast_subset _ hp)
theorem parts_dirOf (s : Bytes) : parts (dirOf s) = (parts (clean s)).dropLast := parts_text fun p hp => (clean_parts_plain s p (List.dropLast_subset _ hp)).1
theorem within_dir {c : Bytes} (h : clean c = c) : isUnder c (dirOf c) = true := by
  simp only [isUnder, h, dirOf_clean, parts_dirOf, decide_true, Bool.true_and]
  exact List.isPrefixOf_iff_prefix.2 (List.dropLast_prefix _)
theorem join_base {c : Bytes} (h : clean c = c) (h2 : c ≠ [47]) : join (dirOf c) (base c) = c := by
  have hp := clean_parts_plain c
  have hne : parts c ≠ [] := by
    intro e
    exact h2 (by rw [← text_parts h, e, text_nil])
  unfold base
  rw [h] at hp ⊢
  have hl : (parts c).getLastD [] = (parts c).getLast hne := by
    rw [List.getLastD_eq_getLast?, List.getLast?_eq_some_getLast hne]; rfl
  rw [hl]
  have hm := hp _ (List.getLast_mem hne)
  have := join_slashed (d := dirOf c) (L := [(parts c).getLast hne]) (dirOf_clean c) (by
    intro p hp2
    simp only [List.mem_singleton] at hp2
    subst hp2; exact hm)
  show join (dirOf c) (slashed [_]) = c
  rw [this, parts_dirOf, h, List.dropLast_concat_getLast, text_parts h]

/-! lengths -/
theorem flush_len (now : Bytes) : (flush now).length ≤ 1 := by unfold flush; split <;> simp
theorem pgo_len : ∀ (l now : Bytes), (pgo l now).length ≤ l.length + 1
  | [], now => by have := flush_len now; simpa [pgo] using this
  | c :: r, now => by
    unfold pgo
    split
    · have := pgo_len r []; have := flush_len now
      simp only [List.length_append, List.length_cons]; omega
    · have := pgo_len r (now ++ [c]); simp only [List.length_cons]; omega
theorem parts_count (l : Bytes) : (parts l).length ≤ l.length + 1 := pgo_len l []
def total (L : List Bytes) : Nat := (L.map (fun p => p.length + 1)).foldr (· + ·) 0
theorem total_cons (p : Bytes) (L : List Bytes) : total (p :: L) = p.length + 1 + total L := rfl
theorem total_append (A B : List Bytes) : total (A ++ B) = total A + total B := by
  induction A with
  | nil => simp [total]
  | cons a A ih => rw [List.cons_append, total_cons, total_cons, ih]; omega
theorem total_flush (now : Bytes) : total (flush now) ≤ now.length + 1 := by unfold flush; split <;> simp [total]
theorem pgo_total : ∀ (l now : Bytes), total (pgo l now) ≤ l.length + now.length + 1
  | [], now => by have := total_flush now; simpa [pgo] using this
  | c :: r, now => by
    unfold pgo
    split
    · have := pgo_total r []; have := total_flush now
      rw [total_append]; simp only [List.length_nil, List.length_cons] at *; omega
    · have := pgo_total r (now ++ [c]); simp only [List.length_append, List.length_cons, List.length_nil] at *; omega
theorem parts_total (l : Bytes) : total (parts l) ≤ l.length + 1 := pgo_total l []
theorem flat_total (L : List Bytes) : (L.flatMap (fun p => 47 :: p)).length = total L := by
  induction L with
  | nil => rfl
  | cons p L ih => rw [List.flatMap_cons, List.length_append, ih, total_cons]; simp
theorem total_dropLast (L : List Bytes) : total L.dropLast ≤ total L := by
  induction L with
  | nil => simp
  | cons p L ih =>
    cases L with
    | nil => simp [total]
    | cons q L => rw [List.dropLast_cons_cons, total_cons, total_cons]; omega
theorem fold_total : ∀ (L out : List Bytes), total (L.foldl cstep out) ≤ total out + total L
  | [], out => by simp [total]
  | p :: L, out => by
    have h := fold_total L (cstep out p)
    have h2 : total (cstep out p) ≤ total out + (p.length + 1) := by
      unfold cstep
      split
      · have := total_dropLast out; omega
      · rw [total_append]; simp [total]
    rw [List.foldl_cons, total_cons]; omega
theorem text_len (L : List Bytes) : (text L).length ≤ total L + 1 := by
  unfold text
  split
  · simp
  · rw [flat_total]; omega
theorem clean_len (l : Bytes) : (clean l).length ≤ l.length + 2 := by
  have h1 := text_len (cparts (parts l))
  have h2 := fold_total (parts l) []
  have h3 := parts_total l
  unfold clean
  simp only [cparts] at *
  have : total [] = 0 := rfl
  omega
end Go.Proofs.YthplnkchmelbmaaDoor.M04
