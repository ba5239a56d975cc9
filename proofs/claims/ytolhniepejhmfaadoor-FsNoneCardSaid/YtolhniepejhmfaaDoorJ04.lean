/-
  Texts joined, in build order, each with its own comment and its own conditions: W04Math, W08Math, W07Whole, W08Real.
-/
import Derived.Test.YtolhniepejhmfaaDoorJ01
import Derived.Test.YtolhniepejhmfaaDoorJ02
/-
  Plain mathematics for layer 4 (path): a text's parts, clean paths, joined paths, what is above and below; lists of bytes alone. No condition but those that each theorem bears.
-/
namespace Go.Proofs.YtolhniepejhmfaaDoor.M04
open Go.Proofs.YtolhniepejhmfaaDoor.M03 (check)

abbrev Bytes := List UInt8
/-- a part that has ended: kept, unless it is empty or one point -/
def flush (now : Bytes) : List Bytes := if now = [] ∨ now = [46] then [] else [now]
def pgo : Bytes → Bytes → List Bytes
  | [], now => flush now
  | c :: r, now => if c = 47 then flush now ++ pgo r [] else pgo r (now ++ [c])
/-- a text's parts -/
def parts (l : Bytes) : List Bytes := pgo l []
/-- parts as a path -/
def text (L : List Bytes) : Bytes := if L = [] then [47] else L.flatMap (fun p => 47 :: p)
def cstep (out : List Bytes) (p : Bytes) : List Bytes := if p = [46, 46] then out.dropLast else out ++ [p]
def cparts (L : List Bytes) : List Bytes := L.foldl cstep []
def clean (l : Bytes) : Bytes := text (cparts (parts l))
def isPath (l : Bytes) : Bool := decide (l = text (parts l)) && decide (l.length ≤ 1024) && (parts l).all (fun p => decide (check p = 0))
def join (dir s : Bytes) : Bytes := if s.head? = some 47 then clean s else clean (dir ++ 47 :: s)
def dirOf (s : Bytes) : Bytes := text (parts (clean s)).dropLast
def base (s : Bytes) : Bytes := (parts (clean s)).getLastD []
/-- parts with slashes between -/
def slashed : List Bytes → Bytes
  | [] => []
  | [p] => p
  | p :: q :: r => p ++ 47 :: slashed (q :: r)
def isUnder (s dir : Bytes) : Bool := decide (clean s = s) && decide (clean dir = dir) && (parts dir).isPrefixOf (parts s)
def under (s dir : Bytes) : Bytes × Bool := if isUnder s dir = true then (slashed ((parts s).drop (parts dir).length), true) else ([], false)

/-- what parts are: no slash, not empty, not one point -/
def Part (p : Bytes) : Prop := (47 : UInt8) ∉ p ∧ p ≠ [] ∧ p ≠ [46]
theorem flush_parts {now : Bytes} (h : (47 : UInt8) ∉ now) : ∀ p ∈ flush now, Part p := by
  intro p hp
  unfold flush at hp
  split at hp
  · simp at hp
  · rename_i h2
    simp only [List.mem_singleton] at hp
    subst hp
    exact ⟨h, fun e => h2 (Or.inl e), fun e => h2 (Or.inr e)⟩
theorem pgo_parts : ∀ (l now : Bytes), (47 : UInt8) ∉ now → ∀ p ∈ pgo l now, Part p
  | [], now, h => flush_parts h
  | c :: r, now, h => by
    intro p hp
    unfold pgo at hp
    split at hp
    · rcases List.mem_append.1 hp with h1 | h1
      · exact flush_parts h p h1
      · exact pgo_parts r [] (by simp) p h1
    · rename_i hc
      exact pgo_parts r _ (by
        intro e
        rcases List.mem_append.1 e with e | e
        · exact h e
        · exact hc (List.mem_singleton.1 e).symm) p hp
theorem parts_are (l : Bytes) : ∀ p ∈ parts l, Part p := pgo_parts l [] (by simp)
theorem flush_part {p : Bytes} (h : Part p) : flush p = [p] := by
  unfold flush; rw [if_neg]; rintro (e | e); exact h.2.1 e; exact h.2.2 e
theorem pgo_run : ∀ (p r now : Bytes), (47 : UInt8) ∉ p → pgo (p ++ r) now = pgo r (now ++ p)
  | [], r, now, _ => by simp
  | c :: p, r, now, h => by
    simp only [List.mem_cons, not_or] at h
    show pgo (c :: (p ++ r)) now = _
    rw [pgo, if_neg (fun e => h.1 e.symm), pgo_run p r (now ++ [c]) h.2, List.append_assoc]
    rfl
theorem pgo_slash (l : Bytes) (r now : Bytes) : pgo (l ++ 47 :: r) now = pgo l now ++ parts r := by
  induction l generalizing now with
  | nil => simp [pgo, parts]
  | cons c l ih =>
    show pgo (c :: (l ++ 47 :: r)) now = _
    rw [pgo, pgo]
    split
    · rw [ih, List.append_assoc]
    · rw [ih]
theorem parts_slash (l r : Bytes) : parts (l ++ 47 :: r) = parts l ++ parts r := pgo_slash l r []
theorem parts_one {p : Bytes} (h : Part p) : parts p = [p] := by
  have := pgo_run p [] [] h.1
  rw [List.append_nil] at this
  unfold parts; rw [this]
  show flush ([] ++ p) = _
  rw [List.nil_append, flush_part h]
theorem parts_nil : parts [] = [] := rfl
theorem parts_flat : ∀ (L : List Bytes), (∀ p ∈ L, Part p) → parts (L.flatMap (fun p => 47 :: p)) = L
  | [], _ => rfl
  | p :: L, h => by
    have ih := parts_flat L (fun q hq => h q (by simp [hq]))
    have hp := h p (by simp)
    show parts (47 :: p ++ L.flatMap (fun p => 47 :: p)) = _
    cases L with
    | nil =>
      show parts ([] ++ 47 :: (p ++ [])) = _
      rw [parts_slash, List.append_nil, parts_one hp]; rfl
    | cons q L =>
      have e : (47 :: p ++ (q :: L).flatMap (fun p => 47 :: p) : Bytes) = [] ++ 47 :: (p ++ 47 :: (q ++ L.flatMap (fun p => 47 :: p))) := by simp
      have e2 : ((q :: L).flatMap (fun p => 47 :: p) : Bytes) = [] ++ 47 :: (q ++ L.flatMap (fun p => 47 :: p)) := by simp
      rw [e2, parts_slash] at ih
      rw [e, parts_slash, parts_slash, parts_one hp]
      simp only [parts_nil, List.nil_append] at ih ⊢
      rw [ih]; rfl
theorem parts_text {L : List Bytes} (h : ∀ p ∈ L, Part p) : parts (text L) = L := by
  unfold text
  split
  · rename_i e; subst e; rfl
  · exact parts_flat L h
theorem cstep_part {out : List Bytes} {p : Bytes} (h : ∀ q ∈ out, Part q ∧ q ≠ [46, 46]) (hp : Part p) : ∀ q ∈ cstep out p, Part q ∧ q ≠ [46, 46] := by
  intro q hq
  unfold cstep at hq
  split at hq
  · exact h q (List.dropLast_subset _ hq)
  · rename_i hne
    rcases List.mem_append.1 hq with h1 | h1
    · exact h q h1
    · simp only [List.mem_singleton] at h1; subst h1; exact ⟨hp, hne⟩
theorem fold_part : ∀ (L out : List Bytes), (∀ q ∈ out, Part q ∧ q ≠ [46, 46]) → (∀ p ∈ L, Part p) → ∀ q ∈ L.foldl cstep out, Part q ∧ q ≠ [46, 46]
  | [], _, h, _ => h
  | p :: L, out, h, hL => fold_part L (cstep out p) (cstep_part h (hL p (by simp))) (fun q hq => hL q (by simp [hq]))
theorem cparts_are {L : List Bytes} (h : ∀ p ∈ L, Part p) : ∀ q ∈ cparts L, Part q ∧ q ≠ [46, 46] := fold_part L [] (by simp) h
theorem fold_plain : ∀ (L out : List Bytes), (∀ p ∈ L, p ≠ [46, 46]) → L.foldl cstep out = out ++ L
  | [], out, _ => by simp
  | p :: L, out, h => by
    rw [List.foldl_cons, fold_plain L _ (fun q hq => h q (by simp [hq]))]
    unfold cstep
    rw [if_neg (h p (by simp)), List.append_assoc]; rfl
theorem parts_clean (l : Bytes) : parts (clean l) = cparts (parts l) := parts_text fun p hp => (cparts_are (parts_are l) p hp).1
theorem clean_parts_plain (l : Bytes) : ∀ p ∈ parts (clean l), Part p ∧ p ≠ [46, 46] := by rw [parts_clean]; exact cparts_are (parts_are l)
theorem cparts_plain {L : List Bytes} (h : ∀ p ∈ L, p ≠ [46, 46]) : cparts L = L := by unfold cparts; rw [fold_plain L [] h, List.nil_append]
theorem clean_clean (l : Bytes) : clean (clean l) = clean l := by
  show text (cparts (parts (clean l))) = clean l
  rw [cparts_plain (fun p hp => (clean_parts_plain l p hp).2), parts_clean]; rfl
theorem clean_text {L : List Bytes} (h : ∀ p ∈ L, Part p ∧ p ≠ [46, 46]) : clean (text L) = text L := by
  unfold clean; rw [parts_text (fun p hp => (h p hp).1), cparts_plain (fun p hp => (h p hp).2)]
theorem text_parts {l : Bytes} (h : clean l = l) : text (parts l) = l := by
  have : text (parts (clean l)) = clean l := by rw [parts_clean]; rfl
  rw [h] at this; exact this
theorem clean_inj {a b : Bytes} (ha : clean a = a) (hb : clean b = b) (h : parts a = parts b) : a = b := by rw [← text_parts ha, ← text_parts hb, h]
theorem cparts_append (A B : List Bytes) : cparts (A ++ B) = B.foldl cstep (cparts A) := by unfold cparts; rw [List.foldl_append]
theorem clean_slash (d s : Bytes) : clean (d ++ 47 :: s) = text ((parts s).foldl cstep (parts (clean d))) := by
  show text _ = _
  rw [parts_slash, cparts_append, parts_clean]
theorem head_part {p : Bytes} (h : Part p) : p.head? ≠ some 47 := by
  cases p with
  | nil => simp
  | cons c r =>
    intro e
    simp only [List.head?_cons, Option.some.injEq] at e
    exact h.1 (by simp [e])
theorem slashed_parts : ∀ (L : List Bytes), (∀ p ∈ L, Part p) → parts (slashed L) = L
  | [], _ => rfl
  | [p], h => parts_one (h p (by simp))
  | p :: q :: r, h => by
    have ih := slashed_parts (q :: r) (fun x hx => h x (by simp at hx ⊢; right; exact hx))
    show parts (p ++ 47 :: slashed (q :: r)) = _
    rw [parts_slash, ih, parts_one (h p (by simp))]; rfl
theorem slashed_head {L : List Bytes} (h : ∀ p ∈ L, Part p) : (slashed L).head? ≠ some 47 := by
  match L, h with
  | [], _ => simp [slashed]
  | [p], h => exact head_part (h p (by simp))
  | p :: q :: r, h =>
    have hp := h p (by simp)
    show (p ++ 47 :: slashed (q :: r)).head? ≠ some 47
    cases p with
    | nil => exact absurd rfl hp.2.1
    | cons c p => have := head_part hp; simpa using this
/-- from a clean directory on, a relative text of plain parts -/
theorem join_slashed {d : Bytes} {L : List Bytes} (hd : clean d = d) (h : ∀ p ∈ L, Part p ∧ p ≠ [46, 46]) : join d (slashed L) = text (parts d ++ L) := by
  unfold join
  rw [if_neg (slashed_head (fun p hp => (h p hp).1)), clean_slash, hd, slashed_parts L (fun p hp => (h p hp).1), fold_plain L _ (fun p hp => (h p hp).2)]
theorem isPrefix_drop {a b : List Bytes} (h : b.isPrefixOf a = true) : b ++ a.drop b.length = a := by
  obtain ⟨t, rfl⟩ := List.isPrefixOf_iff_prefix.1 h
  rw [List.drop_left]
/-- what is under a directory, joined to it -/
theorem join_under {s d : Bytes} (h : (under s d).2 = true) : join d (under s d).1 = s := by
  unfold under at *
  by_cases hu : isUnder s d = true
  · rw [if_pos hu]
    simp only [isUnder, Bool.and_eq_true, decide_eq_true_eq] at hu
    obtain ⟨⟨hs, hd⟩, hp⟩ := hu
    have hpl := clean_parts_plain s
    rw [hs] at hpl
    show join d (slashed _) = s
    rw [join_slashed hd (fun p hm => hpl p (List.mem_of_mem_drop hm)), isPrefix_drop hp, text_parts hs]
  · rw [if_neg hu] at h; simp at h
theorem within_self {c : Bytes} (h : clean c = c) : isUnder c c = true := by
  simp [isUnder, h]
theorem within_root {c : Bytes} (h : clean c = c) : isUnder c [47] = true := by
  have e1 : clean [47] = [47] := rfl
  have e2 : parts [47] = [] := rfl
  simp only [isUnder, h, e1, e2]
  cases parts c <;> rfl
theorem text_nil : text [] = [47] := rfl
theorem dirOf_clean (s : Bytes) : clean (dirOf s) = dirOf s := clean_text fun p hp => clean_parts_plain s p (List.dropLast_subset _ hp)
theorem parts_dirOf (s : Bytes) : parts (dirOf s) = (parts (clean s)).dropLast := parts_text fun p hp => (clean_parts_plain s p (List.dropLast_subset _ hp)).1
theorem within_dir {c : Bytes} (h : clean c = c) : isUnder c (dirOf c) = true := by
  simp only [isUnder, h, dirOf_clean, parts_dirOf, decide_true, Bool.true_and]
  exact List.isPrefixOf_iff_prefix.2 (List.dropLast_prefix _)
theorem join_base {c : Bytes} (h : clean c = c) (h2 : c ≠ [47]) : join (dirOf c) (base c) = c := by
  have hp := clean_parts_plain c
  have hne : parts c ≠ [] := by
    intro e
    exact h2 (by rw [← text_parts h, e, text_nil])
  unfold base
  rw [h] at hp ⊢
  have hl : (parts c).getLastD [] = (parts c).getLast hne := by
    rw [List.getLastD_eq_getLast?, List.getLast?_eq_some_getLast hne]; rfl
  rw [hl]
  have hm := hp _ (List.getLast_mem hne)
  have := join_slashed (d := dirOf c) (L := [(parts c).getLast hne]) (dirOf_clean c) (by
    intro p hp2
    simp only [List.mem_singleton] at hp2
    subst hp2; exact hm)
  show join (dirOf c) (slashed [_]) = c
  rw [this, parts_dirOf, h, List.dropLast_concat_getLast, text_parts h]

/-! lengths -/
theorem flush_len (now : Bytes) : (flush now).length ≤ 1 := by unfold flush; split <;> simp
theorem pgo_len : ∀ (l now : Bytes), (pgo l now).length ≤ l.length + 1
  | [], now => by have := flush_len now; simpa [pgo] using this
  | c :: r, now => by
    unfold pgo
    split
    · have := pgo_len r []; have := flush_len now
      simp only [List.length_append, List.length_cons]; omega
    · have := pgo_len r (now ++ [c]); simp only [List.length_cons]; omega
theorem parts_count (l : Bytes) : (parts l).length ≤ l.length + 1 := pgo_len l []
def total (L : List Bytes) : Nat := (L.map (fun p => p.length + 1)).foldr (· + ·) 0
theorem total_cons (p : Bytes) (L : List Bytes) : total (p :: L) = p.length + 1 + total L := rfl
theorem total_append (A B : List Bytes) : total (A ++ B) = total A + total B := by
  induction A with
  | nil => simp [total]
  | cons a A ih => rw [List.cons_append, total_cons, total_cons, ih]; omega
theorem total_flush (now : Bytes) : total (flush now) ≤ now.length + 1 := by unfold flush; split <;> simp [total]
theorem pgo_total : ∀ (l now : Bytes), total (pgo l now) ≤ l.length + now.length + 1
  | [], now => by have := total_flush now; simpa [pgo] using this
  | c :: r, now => by
    unfold pgo
    split
    · have := pgo_total r []; have := total_flush now
      rw [total_append]; simp only [List.length_nil, List.length_cons] at *; omega
    · have := pgo_total r (now ++ [c]); simp only [List.length_append, List.length_cons, List.length_nil] at *; omega
theorem parts_total (l : Bytes) : total (parts l) ≤ l.length + 1 := pgo_total l []
theorem flat_total (L : List Bytes) : (L.flatMap (fun p => 47 :: p)).length = total L := by
  induction L with
  | nil => rfl
  | cons p L ih => rw [List.flatMap_cons, List.length_append, ih, total_cons]; simp
theorem total_dropLast (L : List Bytes) : total L.dropLast ≤ total L := by
  induction L with
  | nil => simp
  | cons p L ih =>
    cases L with
    | nil => simp [total]
    | cons q L => rw [List.dropLast_cons_cons, total_cons, total_cons]; omega
theorem fold_total : ∀ (L out : List Bytes), total (L.foldl cstep out) ≤ total out + total L
  | [], out => by simp [total]
  | p :: L, out => by
    have h := fold_total L (cstep out p)
    have h2 : total (cstep out p) ≤ total out + (p.length + 1) := by
      unfold cstep
      split
      · have := total_dropLast out; omega
      · rw [total_append]; simp [total]
    rw [List.foldl_cons, total_cons]; omega
theorem text_len (L : List Bytes) : (text L).length ≤ total L + 1 := by
  unfold text
  split
  · simp
  · rw [flat_total]; omega
theorem clean_len (l : Bytes) : (clean l).length ≤ l.length + 2 := by
  have h1 := text_len (cparts (parts l))
  have h2 := fold_total (parts l) []
  have h3 := parts_total l
  unfold clean
  simp only [cparts] at *
  have : total [] = 0 := rfl
  omega
end Go.Proofs.YtolhniepejhmfaaDoor.M04
/-
  Plain mathematics for layer 8 (seek), the plain answers: where parts lead from a node on, links being followed; lists alone. No condition but those that each theorem bears.
-/
namespace Go.Proofs.YtolhniepejhmfaaDoor.M08
open Go.Proofs.YtolhniepejhmfaaDoor.M07 hiding Bytes
open Go.Proofs.YtolhniepejhmfaaDoor.M04
open Go.Proofs.YtolhniepejhmfaaDoor.M03 (check)

/-- a tree's nodes have few bytes, and a link has some -/
def Fit (t : Tr) : Prop := ∀ a ∈ t.L, a.data.length ≤ 65536 ∧ (a.kind = 3 → a.data ≠ []) ∧ 1 ≤ a.kind ∧ a.kind ≤ 3
/-- from which node a link's text is gone -/
def base (at_ : Int) (x : Bytes) : Int := if x.head? = some 47 then 1 else at_
/-- where parts lead from a node on; how many links were followed; an error's number -/
def goTo (t : Tr) (at_ : Int) (l : List Bytes) (last : Bool) (hops : Nat) : Int × Nat × Int :=
  match l with
  | [] => (at_, hops, 0)
  | p :: r =>
    if (nodeAt t.L at_).kind ≠ 1 then (0, hops, 7)
    else if p = [46, 46] then goTo t (nodeAt t.L at_).up r last hops
    else if check p ≠ 0 then (0, hops, check p)
    else if inDir t.L at_ p = 0 then (0, hops, 5)
    else if (nodeAt t.L (inDir t.L at_ p)).kind ≠ 3 ∨ (r = [] ∧ last = false) then goTo t (inDir t.L at_ p) r last hops
    else if _h : 40 ≤ hops then (0, hops, 10)
    else goTo t (base at_ (nodeAt t.L (inDir t.L at_ p)).data) (parts (nodeAt t.L (inDir t.L at_ p)).data ++ r) last (hops + 1)
termination_by (40 - hops, l.length)
section
variable {t : Tr} {at_ : Int} {p : Bytes} {r : List Bytes} {last : Bool} {hops : Nat}
theorem go_nil : goTo t at_ [] last hops = (at_, hops, 0) := by rw [goTo]
theorem go_no (h : (nodeAt t.L at_).kind ≠ 1) : goTo t at_ (p :: r) last hops = (0, hops, 7) := by rw [goTo, if_pos h]
theorem go_up (h : (nodeAt t.L at_).kind = 1) (hp : p = [46, 46]) : goTo t at_ (p :: r) last hops = goTo t (nodeAt t.L at_).up r last hops := by rw [goTo, if_neg (by simpa using h), if_pos hp]
theorem go_bad (h : (nodeAt t.L at_).kind = 1) (hp : ¬ p = [46, 46]) (hc : check p ≠ 0) : goTo t at_ (p :: r) last hops = (0, hops, check p) := by rw [goTo, if_neg (by simpa using h), if_neg hp, if_pos hc]
theorem go_none (h : (nodeAt t.L at_).kind = 1) (hp : ¬ p = [46, 46]) (hc : check p = 0) (hn : inDir t.L at_ p = 0) : goTo t at_ (p :: r) last hops = (0, hops, 5) := by rw [goTo, if_neg (by simpa using h), if_neg hp, if_neg (by simpa using hc), if_pos hn]
theorem go_on (h : (nodeAt t.L at_).kind = 1) (hp : ¬ p = [46, 46]) (hc : check p = 0) (hn : ¬ inDir t.L at_ p = 0) (hk : (nodeAt t.L (inDir t.L at_ p)).kind ≠ 3 ∨ (r = [] ∧ last = false)) : goTo t at_ (p :: r) last hops = goTo t (inDir t.L at_ p) r last hops := by rw [goTo, if_neg (by simpa using h), if_neg hp, if_neg (by simpa using hc), if_neg hn, if_pos hk]
theorem go_loop (h : (nodeAt t.L at_).kind = 1) (hp : ¬ p = [46, 46]) (hc : check p = 0) (hn : ¬ inDir t.L at_ p = 0) (hk : ¬ ((nodeAt t.L (inDir t.L at_ p)).kind ≠ 3 ∨ (r = [] ∧ last = false))) (hh : 40 ≤ hops) : goTo t at_ (p :: r) last hops = (0, hops, 10) := by rw [goTo, if_neg (by simpa using h), if_neg hp, if_neg (by simpa using hc), if_neg hn, if_neg hk, dif_pos hh]
theorem go_link (h : (nodeAt t.L at_).kind = 1) (hp : ¬ p = [46, 46]) (hc : check p = 0) (hn : ¬ inDir t.L at_ p = 0) (hk : ¬ ((nodeAt t.L (inDir t.L at_ p)).kind ≠ 3 ∨ (r = [] ∧ last = false))) (hh : ¬ 40 ≤ hops) : goTo t at_ (p :: r) last hops = goTo t (base at_ (nodeAt t.L (inDir t.L at_ p)).data) (parts (nodeAt t.L (inDir t.L at_ p)).data ++ r) last (hops + 1) := by rw [goTo, if_neg (by simpa using h), if_neg hp, if_neg (by simpa using hc), if_neg hn, if_neg hk, dif_neg hh]
end
theorem pgo_len : ∀ (l now : Bytes), (pgo l now).length ≤ l.length + 1
  | [], now => by unfold pgo flush; split <;> simp
  | c :: l, now => by
    unfold pgo
    split
    · have := pgo_len l []
      have h1 : (flush now).length ≤ 1 := by unfold flush; split <;> simp
      rw [List.length_append, List.length_cons]; omega
    · have := pgo_len l (now ++ [c])
      rw [List.length_cons]; omega
theorem parts_len (l : Bytes) : (parts l).length ≤ l.length + 1 := pgo_len l []
/-- what Find answers -/
def find (t : Tr) (p : Bytes) (last : Bool) : Int × Int :=
  if p = [] then (0, 5) else if 1024 < p.length then (0, 11) else ((goTo t 1 (parts p) last 0).1, (goTo t 1 (parts p) last 0).2.2)
/-- what Spot answers -/
def spot (t : Tr) (p : Bytes) : Int × Bytes × Int :=
  if p = [] then (0, [], 5) else if 1024 < p.length then (0, [], 11)
  else if parts p = [] ∨ (parts p).getLastD [] = [46, 46] then (0, [], 6)
  else
    let g := goTo t 1 (parts p).dropLast true 0
    let e := if g.2.2 ≠ 0 then g.2.2 else if (nodeAt t.L g.1).kind ≠ 1 then 7 else check ((parts p).getLastD [])
    if e ≠ 0 then (0, [], e) else (g.1, (parts p).getLastD [], 0)
/-- a put keeps a tree fit -/
theorem fit_new : Fit M07.new := by intro a ha; rw [List.mem_singleton.1 ha]; exact ⟨by decide, by decide, by decide, by decide⟩
theorem fit_put {t : Tr} (h : Fit t) (d : Int) (s : Bytes) (k : Int) (x : Bytes) : Fit (M07.put t d s k x).1 := by
  unfold M07.put
  split
  · exact h
  · rename_i he
    have he0 : putErr t d s k x = 0 := by simpa using he
    intro a ha
    rcases List.mem_append.1 ha with h1 | h1
    · exact h a h1
    · rw [List.mem_singleton.1 h1]
      have hm : mayErr k x = 0 := by
        unfold putErr at he0
        split at he0
        · rename_i q; exact absurd he0 q
        · split at he0
          · rename_i q; exact absurd he0 q
          · split at he0
            · cases he0
            · split at he0
              · rename_i q; exact absurd he0 q
              · rename_i q; simpa using q
      unfold mayErr at hm
      split at hm
      · cases hm
      · rename_i q0
        split at hm
        · cases hm
        · rename_i q
          split at hm
          · cases hm
          · rename_i q2
            refine ⟨by show x.length ≤ _; omega, fun hk hx => q (Or.inr ⟨hk, hx⟩), by show 1 ≤ k; omega, by show k ≤ 3; omega⟩
end Go.Proofs.YtolhniepejhmfaaDoor.M08
/-
  Plain mathematics for layer 7 (tree): what a directory's entries are in a right tree; going from Root through the directories, each node is come to once. Lists alone. No condition but those that each theorem bears.
-/
namespace Go.Proofs.YtolhniepejhmfaaDoor.M07
open Go.Proofs.YtolhniepejhmfaaDoor.M03 (lt lt_trans lt_asymm)
open Go.Proofs.YtolhniepejhmfaaDoor.M06 (Ent)

theorem mem_put_iff {L : List Ent} {e x : Ent} (h : M06.right L = true) : x ∈ M06.put L e ↔ x = e ∨ (x ∈ L ∧ x.1 ≠ e.1) := by
  unfold M06.put M06.putL M06.cutL
  rw [M06.all_right h]
  simp only [List.mem_append, List.mem_filter, List.mem_cons, decide_eq_true_eq]
  constructor
  · rintro (⟨⟨h1, h2⟩, _⟩ | h1 | ⟨⟨h1, h2⟩, _⟩)
    · exact Or.inr ⟨h1, h2⟩
    · exact Or.inl h1
    · exact Or.inr ⟨h1, h2⟩
  · rintro (h1 | ⟨h1, h2⟩)
    · exact Or.inr (Or.inl h1)
    · rcases M03.lt_total x.1 e.1 with h3 | h3 | h3
      · exact Or.inl ⟨⟨h1, h2⟩, h3⟩
      · exact absurd h3 h2
      · exact Or.inr (Or.inr ⟨⟨h1, h2⟩, h3⟩)
theorem mem_fold : ∀ (l out : List Ent), M06.right out = true → l.Pairwise (fun a b => a.1 ≠ b.1) → (∀ a ∈ out, ∀ b ∈ l, a.1 ≠ b.1) → ∀ x, x ∈ l.foldl M06.put out ↔ x ∈ out ∨ x ∈ l
  | [], out, _, _, _, x => by simp
  | e :: l, out, hr, hp, hd, x => by
    rw [List.pairwise_cons] at hp
    rw [List.foldl_cons, mem_fold l (M06.put out e) (M06.right_put out e) hp.2 (fun a ha b hb => by
      rcases (mem_put_iff hr).1 ha with h1 | ⟨h1, _⟩
      · rw [h1]; exact hp.1 b hb
      · exact hd a h1 b (List.mem_cons_of_mem _ hb)) x, mem_put_iff hr, List.mem_cons]
    constructor
    · rintro ((h1 | ⟨h1, _⟩) | h1)
      · exact Or.inr (Or.inl h1)
      · exact Or.inl h1
      · exact Or.inr (Or.inr h1)
    · rintro (h1 | h1 | h1)
      · exact Or.inl (Or.inr ⟨h1, hd x h1 e List.mem_cons_self⟩)
      · exact Or.inl (Or.inl h1)
      · exact Or.inr h1
/-- a directory's entries are its nodes' -/
theorem mem_list {t : Tr} (h : Right t) {d : Int} {e : Ent} : e ∈ listDir t.L d ↔ ∃ a ∈ t.L, a.up = d ∧ a.num ≠ 1 ∧ entOf a = e := by
  unfold listDir
  have hp : ((t.L.filter (stands d)).map entOf).Pairwise (fun a b => a.1 ≠ b.1) := by
    rw [List.pairwise_map]
    refine List.Pairwise.imp_of_mem ?_ (h.rise.filter (stands d))
    intro a b ha hb hab he
    obtain ⟨ha1, ha2⟩ := List.mem_filter.1 ha
    obtain ⟨hb1, hb2⟩ := List.mem_filter.1 hb
    simp only [stands, Bool.and_eq_true, decide_eq_true_eq] at ha2 hb2
    have := h.once a ha1 b hb1 ha2.2 hb2.2 (by rw [ha2.1, hb2.1]) he
    rw [this] at hab
    omega
  rw [mem_fold _ [] rfl hp (fun a ha => by simp at ha)]
  simp only [List.not_mem_nil, false_or, List.mem_map, List.mem_filter, stands, Bool.and_eq_true, decide_eq_true_eq]
  constructor
  · rintro ⟨a, ⟨h1, h2, h3⟩, h4⟩; exact ⟨a, h1, h2, h3, h4⟩
  · rintro ⟨a, h1, h2, h3, h4⟩; exact ⟨a, ⟨h1, h2, h3⟩, h4⟩
theorem list_rises (L : List Nd) (d : Int) : (listDir L d).Pairwise (fun a b => lt a.1 b.1) := (M06.right_iff _).1 (M06.right_fold _ _ rfl)
/-- the numbers in a directory -/
def kids (t : Tr) (d : Int) : List Int := (listDir t.L d).map (·.2)
theorem mem_kids {t : Tr} (h : Right t) {d c : Int} : c ∈ kids t d ↔ ∃ a ∈ t.L, a.up = d ∧ a.num ≠ 1 ∧ a.num = c := by
  unfold kids
  rw [List.mem_map]
  constructor
  · rintro ⟨e, he, rfl⟩
    obtain ⟨a, h1, h2, h3, rfl⟩ := (mem_list h).1 he
    exact ⟨a, h1, h2, h3, rfl⟩
  · rintro ⟨a, h1, h2, h3, rfl⟩
    exact ⟨entOf a, (mem_list h).2 ⟨a, h1, h2, h3, rfl⟩, rfl⟩
theorem kids_nodup {t : Tr} (h : Right t) (d : Int) : (kids t d).Nodup := by
  unfold kids List.Nodup
  rw [List.pairwise_map]
  refine List.Pairwise.imp_of_mem ?_ (list_rises t.L d)
  intro a b ha hb hab he
  obtain ⟨x, x1, _, _, rfl⟩ := (mem_list h).1 ha
  obtain ⟨y, y1, _, _, rfl⟩ := (mem_list h).1 hb
  have : x = y := by rw [← h.at_ x1, ← h.at_ y1]; exact congrArg _ he
  rw [this] at hab
  exact lt_asymm hab hab

/-- what is held while one goes from Root through the directories: met are come to, the first i of them are gone through -/
structure Met (t : Tr) (met : List Int) (i : Nat) : Prop where
  once : met.Nodup
  root : (1 : Int) ∈ met
  are : ∀ n ∈ met, ∃ a ∈ t.L, a.num = n
  done : ∀ n ∈ met.take i, ∀ c ∈ kids t n, c ∈ met
  by_ : ∀ a ∈ t.L, a.num ∈ met → a.num ≠ 1 → a.up ∈ met.take i
theorem met_start {t : Tr} (h : Right t) : Met t [1] 0 where
  once := by simp
  root := by simp
  are := by
    intro n hn
    obtain ⟨r, hr⟩ := h.root
    rw [List.mem_singleton.1 hn]
    exact ⟨⟨1, 1, [], 1, []⟩, by rw [hr]; exact List.mem_cons_self, rfl⟩
  done := by simp
  by_ := fun a _ ha h1 => absurd (List.mem_singleton.1 ha) h1
theorem met_next {t : Tr} (h : Right t) {met : List Int} {i : Nat} (m : Met t met i) (hi : i < met.length) : Met t (met ++ kids t met[i]) (i + 1) := by
  have htake : (met ++ kids t met[i]).take (i + 1) = met.take i ++ [met[i]] := by
    rw [List.take_append_of_le_length (by omega), List.take_succ_eq_append_getElem hi]
  constructor
  · rw [List.nodup_append]
    refine ⟨m.once, kids_nodup h _, fun a ha b hb e => ?_⟩
    subst e
    obtain ⟨x, x1, x2, x3, x4⟩ := (mem_kids h).1 hb
    have h1 := m.by_ x x1 (by rw [x4]; exact ha) x3
    rw [x2] at h1
    obtain ⟨j, hj, e⟩ := List.mem_iff_getElem.1 h1
    rw [List.length_take] at hj
    rw [List.getElem_take] at e
    have hji : j < i := by omega
    exact (List.pairwise_iff_getElem.1 m.once) j i (by omega) hi hji e
  · exact List.mem_append_left _ m.root
  · intro n hn
    rcases List.mem_append.1 hn with h1 | h1
    · exact m.are n h1
    · obtain ⟨x, x1, _, _, x4⟩ := (mem_kids h).1 h1
      exact ⟨x, x1, x4⟩
  · intro n hn c hc
    rw [htake] at hn
    rcases List.mem_append.1 hn with h1 | h1
    · exact List.mem_append_left _ (m.done n h1 c hc)
    · rw [List.mem_singleton.1 h1] at hc
      exact List.mem_append_right _ hc
  · intro a ha hm h1
    rw [htake]
    rcases List.mem_append.1 hm with h2 | h2
    · exact List.mem_append_left _ (m.by_ a ha h2 h1)
    · obtain ⟨x, x1, x2, _, x4⟩ := (mem_kids h).1 h2
      have : x = a := by rw [← h.at_ x1, ← h.at_ ha, x4]
      rw [← this, x2]
      exact List.mem_append_right _ (by simp)
theorem met_all {t : Tr} (h : Right t) {met : List Int} (m : Met t met met.length) : ∀ (k : Nat) {a : Nd}, a ∈ t.L → upN t.L k a.num = 1 → a.num ∈ met
  | 0, a, _, hk => by have e : a.num = 1 := hk; rw [e]; exact m.root
  | k + 1, a, ha, hk => by
    by_cases h1 : a.num = 1
    · rw [h1]; exact m.root
    · obtain ⟨b, hb, eb, _⟩ := h.up_mem ha
      have hk2 : upN t.L k (upOf t.L a.num) = 1 := hk
      rw [h.upOf_ ha, ← eb] at hk2
      have ih := met_all h m k hb hk2
      exact m.done b.num (by rw [List.take_length]; exact ih) a.num ((mem_kids h).2 ⟨a, ha, eb.symm, h1, rfl⟩)
theorem nodup_len : ∀ (a b : List Int), a.Nodup → a ⊆ b → a.length ≤ b.length
  | [], _, _, _ => Nat.zero_le _
  | x :: a, b, hn, hs => by
    rw [List.nodup_cons] at hn
    obtain ⟨s, u, rfl⟩ := List.append_of_mem (hs List.mem_cons_self)
    have h1 := nodup_len a (s ++ u) hn.2 (fun y hy => by
      have := hs (List.mem_cons_of_mem _ hy)
      rcases List.mem_append.1 this with h | h
      · exact List.mem_append_left _ h
      · rcases List.mem_cons.1 h with h | h
        · rw [h] at hy; exact absurd hy hn.1
        · exact List.mem_append_right _ h)
    simp only [List.length_append, List.length_cons] at h1 ⊢
    omega
theorem nums_nodup {t : Tr} (h : Right t) : (t.L.map (·.num)).Nodup := by
  unfold List.Nodup
  rw [List.pairwise_map]
  exact h.rise.imp fun {_ _} hab => by omega
theorem met_len {t : Tr} (_h : Right t) {met : List Int} {i : Nat} (m : Met t met i) : met.length ≤ t.L.length := by
  have h1 : met ⊆ t.L.map (·.num) := fun n hn => by
    obtain ⟨a, ha, e⟩ := m.are n hn
    exact List.mem_map.2 ⟨a, ha, e⟩
  have := nodup_len _ _ m.once h1
  rwa [List.length_map] at this
/-- at the end all have been come to -/
theorem met_end {t : Tr} (h : Right t) {met : List Int} (m : Met t met met.length) : met.length = t.L.length := by
  refine Nat.le_antisymm (met_len h m) ?_
  have h1 : t.L.map (·.num) ⊆ met := fun n hn => by
    obtain ⟨a, ha, rfl⟩ := List.mem_map.1 hn
    obtain ⟨k, hk⟩ := h.low a ha
    exact met_all h m k ha hk
  have := nodup_len _ _ (nums_nodup h) h1
  rwa [List.length_map] at this
end Go.Proofs.YtolhniepejhmfaaDoor.M07
/-
  Plain mathematics for layer 8 (seek): the names by which one comes from Root to a node; where they lead; paths that lead by directories alone. Lists alone. No condition but those that each theorem bears.
-/
namespace Go.Proofs.YtolhniepejhmfaaDoor.M08
open Go.Proofs.YtolhniepejhmfaaDoor.M07 hiding Bytes
open Go.Proofs.YtolhniepejhmfaaDoor.M04
open Go.Proofs.YtolhniepejhmfaaDoor.M03 (check)

/-- each node but Root bears a name that may be -/
def Named (t : Tr) : Prop := ∀ a ∈ t.L, a.num ≠ 1 → check a.name = 0
theorem named_new : Named M07.new := by intro a ha h1; rw [List.mem_singleton.1 ha] at h1; exact absurd rfl h1
theorem put_checked {t : Tr} {d k : Int} {s x : Bytes} (he : putErr t d s k x = 0) : check s = 0 := by
  unfold putErr at he
  split at he
  · rename_i q; exact absurd he q
  · split at he
    · rename_i q; exact absurd he q
    · rename_i q; simpa using q
theorem named_put {t : Tr} (h : Named t) (d : Int) (s : Bytes) (k : Int) (x : Bytes) : Named (M07.put t d s k x).1 := by
  unfold M07.put
  split
  · exact h
  · rename_i he
    have he0 : putErr t d s k x = 0 := by simpa using he
    intro a ha h1
    rcases List.mem_append.1 ha with h2 | h2
    · exact h a h2 h1
    · rw [List.mem_singleton.1 h2]; exact put_checked he0

/-! names from Root down -/
def namesOf (L : List Nd) : Nat → Int → List Bytes
  | 0, _ => []
  | k + 1, n => if n = 1 then [] else namesOf L k (upOf L n) ++ [(nodeAt L n).name]
noncomputable def names (t : Tr) (n : Int) : List Bytes := namesOf t.L (height t.L n) n
theorem height_spec {L : List Nd} {n : Int} (h : ∃ k, upN L k n = 1) : upN L (height L n) n = 1 ∧ ∀ i, upN L i n = 1 → height L n ≤ i := by
  unfold height
  rw [dif_pos h]
  exact Classical.choose_spec (least h)
theorem height_next {L : List Nd} {n : Int} (h : ∃ k, upN L k n = 1) (h1 : n ≠ 1) : height L n = height L (upOf L n) + 1 := by
  obtain ⟨h2, h3⟩ := height_up h h1
  have a := (height_spec h2).1
  have b := (height_spec h).2 (height L (upOf L n) + 1) a
  omega
theorem height_root (L : List Nd) : height L 1 = 0 := by
  have := (height_spec (L := L) (n := 1) ⟨0, rfl⟩).2 0 rfl
  omega
theorem names_root (t : Tr) : names t 1 = [] := by unfold names; rw [height_root]; rfl
theorem names_next {t : Tr} (h : Right t) {n : Int} (hk : (nodeAt t.L n).kind ≠ 0) (h1 : n ≠ 1) : names t n = names t (nodeAt t.L n).up ++ [(nodeAt t.L n).name] := by
  unfold names
  rw [height_next (h.reach hk) h1]
  show (if n = 1 then [] else _) = _
  rw [if_neg h1]
  rfl
theorem names_checked {t : Tr} (h : Right t) (hN : Named t) : ∀ (k : Nat) {n : Int}, (nodeAt t.L n).kind ≠ 0 → height t.L n = k → ∀ p ∈ names t n, check p = 0
  | k, n, hk, he => by
    by_cases h1 : n = 1
    · subst h1; rw [names_root]; intro p hp; cases hp
    · rw [names_next h hk h1]
      have hm := at_some hk
      have hu := h.up _ hm.1
      have hn := height_next (h.reach hk) h1
      intro p hp
      rcases List.mem_append.1 hp with h2 | h2
      · cases k with
        | zero => omega
        | succ k => exact names_checked h hN k (by rw [hu]; decide) (by have e : height t.L (upOf t.L n) = height t.L (nodeAt t.L n).up := rfl; omega) p h2
      · rw [List.mem_singleton.1 h2]
        exact hN _ hm.1 (by rw [hm.2]; exact h1)
/-- the path of the names -/
noncomputable def real (t : Tr) (n : Int) : Bytes × Bool := if (nodeAt t.L n).kind = 0 then ([], false) else (text (names t n), true)
theorem points_not : check [46, 46] ≠ 0 := by decide
theorem check_part {p : Bytes} (h : check p = 0) : Part p := by
  unfold M03.check at h
  split at h
  · cases h
  · rename_i h0
    split at h
    · cases h
    · split at h
      · cases h
      · rename_i hb
        split at h
        · cases h
        · rename_i hp
          refine ⟨fun e => ?_, fun e => h0 (by rw [e]; rfl), fun e => hp (Or.inl e)⟩
          exact hb (List.any_eq_true.2 ⟨47, e, by decide⟩)
theorem zero_none {t : Tr} (h : Right t) : (nodeAt t.L 0).kind = 0 := by
  rw [at_none]
  · rfl
  · intro a ha e; have := (h.ends a ha).1; omega
theorem in_of {t : Tr} (h : Right t) {n : Int} (hk : (nodeAt t.L n).kind ≠ 0) (h1 : n ≠ 1) : inDir t.L (nodeAt t.L n).up (nodeAt t.L n).name = n := by
  have hm := at_some hk
  have hne : inDir t.L (nodeAt t.L n).up (nodeAt t.L n).name ≠ 0 := fun e => in_not (fun a ha => (h.ends a ha).1) e _ hm.1 (by rw [hm.2]; exact h1) ⟨rfl, rfl⟩
  obtain ⟨a, ha, e1, e2, e3, e4⟩ := in_found hne
  have := h.once a ha _ hm.1 e4 (by rw [hm.2]; exact h1) e2 e3
  rw [← e1, this, hm.2]
theorem not_points {p : Bytes} (h : check p = 0) : ¬ p = [46, 46] := fun e => points_not (e ▸ h)
theorem go_names {t : Tr} (h : Right t) (hN : Named t) (last : Bool) (hops : Nat) : ∀ (k : Nat) {d : Int} (rest : List Bytes), (nodeAt t.L d).kind = 1 → height t.L d = k → goTo t 1 (names t d ++ rest) last hops = goTo t d rest last hops
  | k, d, rest, hk, he => by
    by_cases h1 : d = 1
    · subst h1; rw [names_root]; rfl
    · have hk0 : (nodeAt t.L d).kind ≠ 0 := by rw [hk]; decide
      have hm := at_some hk0
      have hu := h.up _ hm.1
      have hn := height_next (h.reach hk0) h1
      have hc := hN _ hm.1 (by rw [hm.2]; exact h1)
      rw [names_next h hk0 h1, List.append_assoc]
      cases k with
      | zero => omega
      | succ k =>
        rw [go_names h hN last hops k _ hu (by have e : height t.L (upOf t.L d) = height t.L (nodeAt t.L d).up := rfl; omega)]
        have e := in_of h hk0 h1
        have := go_on (t := t) (at_ := (nodeAt t.L d).up) (p := (nodeAt t.L d).name) (r := rest) (last := last) (hops := hops) hu (not_points hc) hc (by rw [e]; intro e0; rw [e0] at hk0; exact hk0 (zero_none h)) (Or.inl (by rw [e, hk]; decide))
        rw [e] at this
        exact this
theorem go_to_names {t : Tr} (h : Right t) (hN : Named t) {n : Int} (hk : (nodeAt t.L n).kind ≠ 0) : goTo t 1 (names t n) false 0 = (n, 0, 0) := by
  by_cases h1 : n = 1
  · subst h1; rw [names_root, go_nil]
  · have hm := at_some hk
    have hu := h.up _ hm.1
    have hc := hN _ hm.1 (by rw [hm.2]; exact h1)
    have e := in_of h hk h1
    rw [names_next h hk h1, go_names h hN false 0 _ _ hu rfl, go_on hu (not_points hc) hc (by rw [e]; intro e0; rw [e0] at hk; exact hk (zero_none h)) (Or.inr ⟨rfl, rfl⟩), e, go_nil]
theorem names_parts {t : Tr} (h : Right t) (hN : Named t) {n : Int} (hk : (nodeAt t.L n).kind ≠ 0) : parts (text (names t n)) = names t n := parts_text fun p hp => check_part (names_checked h hN _ hk rfl p hp)
theorem text_ne (L : List Bytes) : text L ≠ [] := by
  unfold text
  split
  · simp
  · rename_i h
    cases L with
    | nil => exact absurd rfl h
    | cons p r => simp
theorem real_found {t : Tr} (h : Right t) (hN : Named t) {n : Int} (hk : (nodeAt t.L n).kind ≠ 0) (hl : (text (names t n)).length ≤ 1024) : find t (text (names t n)) false = (n, 0) ∧ isPath (text (names t n)) = true := by
  constructor
  · unfold find
    rw [if_neg (text_ne _), if_neg (by omega), names_parts h hN hk, go_to_names h hN hk]
  · unfold isPath
    rw [names_parts h hN hk]
    simp only [decide_true, Bool.true_and, Bool.and_eq_true, decide_eq_true_eq, List.all_eq_true]
    exact ⟨hl, names_checked h hN _ hk rfl⟩
/-! by directories alone -/
def dirs (t : Tr) : Int → List Bytes → Bool
  | _, [] => true
  | a, p :: r => if (nodeAt t.L (inDir t.L a p)).kind ≠ 1 then false else dirs t (inDir t.L a p) r
def dirAt (t : Tr) : Int → List Bytes → Int
  | a, [] => a
  | a, p :: r => dirAt t (inDir t.L a p) r
def straight (t : Tr) (p : Bytes) : Bool := isPath p && dirs t 1 (parts p)
theorem dirs_go {t : Tr} : ∀ (l : List Bytes) (a : Int) (hops : Nat), (nodeAt t.L a).kind = 1 → dirs t a l = true → (∀ p ∈ l, check p = 0) → Right t → goTo t a l true hops = (dirAt t a l, hops, 0)
  | [], a, hops, _, _, _, _ => go_nil
  | p :: r, a, hops, ha, hd, hc, h => by
    unfold dirs at hd
    split at hd
    · cases hd
    · rename_i hk
      have hk : (nodeAt t.L (inDir t.L a p)).kind = 1 := by simpa using hk
      have hcp := hc p List.mem_cons_self
      rw [go_on ha (not_points hcp) hcp (fun e => by rw [e, zero_none h] at hk; cases hk) (Or.inl (by rw [hk]; decide))]
      exact dirs_go r _ hops hk hd (fun q hq => hc q (List.mem_cons_of_mem _ hq)) h
theorem dirs_names {t : Tr} (h : Right t) : ∀ (l : List Bytes) (a : Int), (nodeAt t.L a).kind = 1 → dirs t a l = true → names t (dirAt t a l) = names t a ++ l ∧ (nodeAt t.L (dirAt t a l)).kind = 1
  | [], a, ha, _ => ⟨by rw [List.append_nil]; rfl, ha⟩
  | p :: r, a, ha, hd => by
    unfold dirs at hd
    split at hd
    · cases hd
    · rename_i hk
      have hk : (nodeAt t.L (inDir t.L a p)).kind = 1 := by simpa using hk
      have hne : inDir t.L a p ≠ 0 := fun e => by rw [e, zero_none h] at hk; cases hk
      obtain ⟨b, hb, e1, e2, e3, e4⟩ := in_found hne
      obtain ⟨i1, i2⟩ := dirs_names h r _ hk hd
      refine ⟨?_, i2⟩
      show names t (dirAt t (inDir t.L a p) r) = _
      rw [i1, names_next h (by rw [hk]; decide) (by rw [← e1]; exact e4), ← e1, h.at_ hb, e2, e3, List.append_assoc]; rfl
theorem straight_found {t : Tr} (h : Right t) {p : Bytes} (hs : straight t p = true) : find t p true = (dirAt t 1 (parts p), 0) ∧ real t (dirAt t 1 (parts p)) = (p, true) := by
  unfold straight at hs
  simp only [Bool.and_eq_true] at hs
  obtain ⟨h1, h2⟩ := hs
  unfold isPath at h1
  simp only [Bool.and_eq_true, decide_eq_true_eq, List.all_eq_true] at h1
  obtain ⟨⟨e, hl⟩, hc⟩ := h1
  have hr : (nodeAt t.L 1).kind = 1 := by rw [h.at_root]
  obtain ⟨n1, n2⟩ := dirs_names h _ 1 hr h2
  constructor
  · unfold find
    rw [if_neg (by rw [e]; exact text_ne _), if_neg (by omega), dirs_go _ 1 0 hr h2 hc h]
  · unfold real
    rw [if_neg (by rw [n2]; decide), n1, names_root, List.nil_append, ← e]
/-! how long such a path is -/
theorem names_len {t : Tr} (h : Right t) : ∀ (k : Nat) {n : Int}, (nodeAt t.L n).kind ≠ 0 → height t.L n = k → (names t n).length = k
  | k, n, hk, he => by
    by_cases h1 : n = 1
    · subst h1; rw [height_root] at he; rw [names_root, ← he]; rfl
    · have hm := at_some hk
      have hu := h.up _ hm.1
      have hn := height_next (h.reach hk) h1
      have e : height t.L (upOf t.L n) = height t.L (nodeAt t.L n).up := rfl
      rw [names_next h hk h1, List.length_append]
      cases k with
      | zero => omega
      | succ k => rw [names_len h k (by rw [hu]; decide) (by omega)]; rfl
theorem climb {t : Tr} (h : Right t) : ∀ (i : Nat) {n : Int}, (nodeAt t.L n).kind ≠ 0 → i ≤ height t.L n → height t.L (upN t.L i n) = height t.L n - i ∧ (nodeAt t.L (upN t.L i n)).kind ≠ 0
  | 0, n, hk, _ => ⟨rfl, hk⟩
  | i + 1, n, hk, hi => by
    by_cases h1 : n = 1
    · subst h1; rw [height_root] at hi; omega
    · have hm := at_some hk
      have hu := h.up _ hm.1
      have hn := height_next (h.reach hk) h1
      have hk2 : (nodeAt t.L (upOf t.L n)).kind ≠ 0 := by show (nodeAt t.L (nodeAt t.L n).up).kind ≠ 0; rw [hu]; decide
      have := climb h i (n := upOf t.L n) hk2 (by omega)
      show height t.L (upN t.L i (upOf t.L n)) = _ ∧ (nodeAt t.L (upN t.L i (upOf t.L n))).kind ≠ 0
      exact ⟨by rw [this.1]; omega, this.2⟩
theorem height_le {t : Tr} (h : Right t) {n : Int} (hk : (nodeAt t.L n).kind ≠ 0) : height t.L n ≤ t.L.length := by
  have h1 := nodup_len ((List.range (height t.L n)).map (fun i => upN t.L i n)) (t.L.map (·.num)) (by
    rw [List.Nodup, List.pairwise_map]
    refine List.Pairwise.imp_of_mem ?_ (List.pairwise_lt_range)
    intro a b ha hb hab e
    have ha := List.mem_range.1 ha
    have hb := List.mem_range.1 hb
    have c1 := (climb h a hk (by omega)).1
    have c2 := (climb h b hk (by omega)).1
    rw [e] at c1
    omega) (fun x hx => by
    obtain ⟨i, hi, rfl⟩ := List.mem_map.1 hx
    have hi := List.mem_range.1 hi
    have := at_some (climb h i hk (by omega)).2
    exact List.mem_map.2 ⟨_, this.1, this.2⟩)
  simp only [List.length_map, List.length_range] at h1
  exact h1
def flatN (L : List Bytes) : Bytes := L.flatMap (fun p => 47 :: p)
theorem flatN_len : ∀ (L : List Bytes), (∀ p ∈ L, check p = 0) → (flatN L).length ≤ 65 * L.length
  | [], _ => by simp [flatN]
  | p :: r, h => by
    have := flatN_len r fun q hq => h q (List.mem_cons_of_mem _ hq)
    have hp := h p List.mem_cons_self
    have h64 : p.length ≤ 64 := by
      unfold M03.check at hp
      split at hp
      · cases hp
      · split at hp
        · cases hp
        · omega
    show (47 :: p ++ flatN r).length ≤ _
    rw [List.length_append, List.length_cons, List.length_cons]
    omega
theorem names_bound {t : Tr} (h : Right t) (hN : Named t) {n : Int} (hk : (nodeAt t.L n).kind ≠ 0) : (flatN (names t n)).length ≤ 65 * t.L.length := by
  have h1 := flatN_len (names t n) (names_checked h hN _ hk rfl)
  have h2 := names_len h _ hk rfl
  have h3 := height_le h hk
  omega
theorem flatN_next {t : Tr} (h : Right t) {n : Int} (hk : (nodeAt t.L n).kind ≠ 0) (h1 : n ≠ 1) : flatN (names t n) = flatN (names t (nodeAt t.L n).up) ++ 47 :: (nodeAt t.L n).name := by
  rw [names_next h hk h1]
  unfold flatN
  rw [List.flatMap_append]; simp
theorem text_flatN {L : List Bytes} (h : flatN L ≠ []) : text L = flatN L := by
  unfold text
  rw [if_neg (fun e => h (by rw [e]; rfl))]; rfl
theorem text_flat0 {L : List Bytes} (h : flatN L = []) : text L = [47] := by
  cases L with
  | nil => rfl
  | cons p r => exact absurd h (by simp [flatN])
end Go.Proofs.YtolhniepejhmfaaDoor.M08
