/-
  Texts joined, in build order, each with its own comment and its own conditions: W04Math, W08Math, W07Whole, W08Real, W12Math.
-/
import Derived.Test.YtpihldcchjoinaaGreatDoorJ01
/-
  Plain mathematics for layer 4 (path): a text's parts, clean paths, joined paths, what is above and below; lists of bytes alone. No condition but those that each theorem bears.
-/
namespace Go.Proofs.YtpihldcchjoinaaGreatDoor.M04
open Go.Proofs.YtpihldcchjoinaaGreatDoor.M03 (check)

abbrev Bytes := List UInt8
/-- a part that has ended: kept, unless it is empty or one point -/
def flush (now : Bytes) : List Bytes := if now = [] ∨ now = [46] then [] else [now]
def pgo : Bytes → Bytes → List Bytes
  | [], now => flush now
  | c :: r, now => if c = 47 then flush now ++ pgo r [] else pgo r (now ++ [c])
/-- a text's parts -/
def parts (l : Bytes) : List Bytes := pgo l []
/-- parts as a path -/
def text (L : List Bytes) : Bytes := if L = [] then [47] else L.flatMap (fun p => 47 :: p)
def cstep (out : List Bytes) (p : Bytes) : List Bytes := if p = [46, 46] then out.dropLast else out ++ [p]
def cparts (L : List Bytes) : List Bytes := L.foldl cstep []
def clean (l : Bytes) : Bytes := text (cparts (parts l))
def isPath (l : Bytes) : Bool := decide (l = text (parts l)) && decide (l.length ≤ 1024) && (parts l).all (fun p => decide (check p = 0))
def join (dir s : Bytes) : Bytes := if s.head? = some 47 then clean s else clean (dir ++ 47 :: s)
def base (s : Bytes) : Bytes := (parts (clean s)).getLastD []
/-- parts with slashes between -/
def slashed : List Bytes → Bytes
  | [] => []
  | [p] => p
  | p :: q :: r => p ++ 47 :: slashed (q :: r)
def isUnder (s dir : Bytes) : Bool := decide (clean s = s) && decide (clean dir = dir) && (parts dir).isPrefixOf (parts s)
def under (s dir : Bytes) : Bytes × Bool := if isUnder s dir = true then (slashed ((parts s).drop (parts dir).length), true) else ([], false)

/-- what parts are: no slash, not empty, not one point -/
def Part (p : Bytes) : Prop := (47 : UInt8) ∉ p ∧ p ≠ [] ∧ p ≠ [46]
theorem flush_parts {now : Bytes} (h : (47 : UInt8) ∉ now) : ∀ p ∈ flush now, Part p := by
  intro p hp
  unfold flush at hp
  split at hp
  · simp at hp
  · rename_i h2
    simp only [List.mem_singleton] at hp
    subst hp
    exact ⟨h, fun e => h2 (Or.inl e), fun e => h2 (Or.inr e)⟩
theorem pgo_parts : ∀ (l now : Bytes), (47 : UInt8) ∉ now → ∀ p ∈ pgo l now, Part p
  | [], now, h => flush_parts h
  | c :: r, now, h => by
    intro p hp
    unfold pgo at hp
    split at hp
    · rcases List.mem_append.1 hp with h1 | h1
      · exact flush_parts h p h1
      · exact pgo_parts r [] (by simp) p h1
    · rename_i hc
      exact pgo_parts r _ (by
        intro e
        rcases List.mem_append.1 e with e | e
        · exact h e
        · exact hc (List.mem_singleton.1 e).symm) p hp
theorem parts_are (l : Bytes) : ∀ p ∈ parts l, Part p := pgo_parts l [] (by simp)
theorem flush_part {p : Bytes} (h : Part p) : flush p = [p] := by
  unfold flush; rw [if_neg]; rintro (e | e); exact h.2.1 e; exact h.2.2 e
theorem pgo_run : ∀ (p r now : Bytes), (47 : UInt8) ∉ p → pgo (p ++ r) now = pgo r (now ++ p)
  | [], r, now, _ => by simp
  | c :: p, r, now, h => by
    simp only [List.mem_cons, not_or] at h
    show pgo (c :: (p ++ r)) now = _
    rw [pgo, if_neg (fun e => h.1 e.symm), pgo_run p r (now ++ [c]) h.2, List.append_assoc]
    rfl
theorem pgo_slash (l : Bytes) (r now : Bytes) : pgo (l ++ 47 :: r) now = pgo l now ++ parts r := by
  induction l generalizing now with
  | nil => simp [pgo, parts]
  | cons c l ih =>
    show pgo (c :: (l ++ 47 :: r)) now = _
    rw [pgo, pgo]
    split
    · rw [ih, List.append_assoc]
    · rw [ih]
theorem parts_slash (l r : Bytes) : parts (l ++ 47 :: r) = parts l ++ parts r := pgo_slash l r []
theorem parts_one {p : Bytes} (h : Part p) : parts p = [p] := by
  have := pgo_run p [] [] h.1
  rw [List.append_nil] at this
  unfold parts; rw [this]
  show flush ([] ++ p) = _
  rw [List.nil_append, flush_part h]
theorem parts_nil : parts [] = [] := rfl
theorem parts_flat : ∀ (L : List Bytes), (∀ p ∈ L, Part p) → parts (L.flatMap (fun p => 47 :: p)) = L
  | [], _ => rfl
  | p :: L, h => by
    have ih := parts_flat L (fun q hq => h q (by simp [hq]))
    have hp := h p (by simp)
    show parts (47 :: p ++ L.flatMap (fun p => 47 :: p)) = _
    cases L with
    | nil =>
      show parts ([] ++ 47 :: (p ++ [])) = _
      rw [parts_slash, List.append_nil, parts_one hp]; rfl
    | cons q L =>
      have e : (47 :: p ++ (q :: L).flatMap (fun p => 47 :: p) : Bytes) = [] ++ 47 :: (p ++ 47 :: (q ++ L.flatMap (fun p => 47 :: p))) := by simp
      have e2 : ((q :: L).flatMap (fun p => 47 :: p) : Bytes) = [] ++ 47 :: (q ++ L.flatMap (fun p => 47 :: p)) := by simp
      rw [e2, parts_slash] at ih
      rw [e, parts_slash, parts_slash, parts_one hp]
      simp only [parts_nil, List.nil_append] at ih ⊢
      rw [ih]; rfl
theorem parts_text {L : List Bytes} (h : ∀ p ∈ L, Part p) : parts (text L) = L := by
  unfold text
  split
  · rename_i e; subst e; rfl
  · exact parts_flat L h
theorem cstep_part {out : List Bytes} {p : Bytes} (h : ∀ q ∈ out, Part q ∧ q ≠ [46, 46]) (hp : Part p) : ∀ q ∈ cstep out p, Part q ∧ q ≠ [46, 46] := by
  intro q hq
  unfold cstep at hq
  split at hq
  · exact h q (List.dropLast_subset _ hq)
  · rename_i hne
    rcases List.mem_append.1 hq with h1 | h1
    · exact h q h1
    · simp only [List.mem_singleton] at h1; subst h1; exact ⟨hp, hne⟩
theorem fold_part : ∀ (L out : List Bytes), (∀ q ∈ out, Part q ∧ q ≠ [46, 46]) → (∀ p ∈ L, Part p) → ∀ q ∈ L.foldl cstep out, Part q ∧ q ≠ [46, 46]
  | [], _, h, _ => h
  | p :: L, out, h, hL => fold_part L (cstep out p) (cstep_part h (hL p (by simp))) (fun q hq => hL q (by simp [hq]))
theorem cparts_are {L : List Bytes} (h : ∀ p ∈ L, Part p) : ∀ q ∈ cparts L, Part q ∧ q ≠ [46, 46] := fold_part L [] (by simp) h
theorem fold_plain : ∀ (L out : List Bytes), (∀ p ∈ L, p ≠ [46, 46]) → L.foldl cstep out = out ++ L
  | [], out, _ => by simp
  | p :: L, out, h => by
    rw [List.foldl_cons, fold_plain L _ (fun q hq => h q (by simp [hq]))]
    unfold cstep
    rw [if_neg (h p (by simp)), List.append_assoc]; rfl
theorem parts_clean (l : Bytes) : parts (clean l) = cparts (parts l) := parts_text fun p hp => (cparts_are (parts_are l) p hp).1
theorem cparts_plain {L : List Bytes} (h : ∀ p ∈ L, p ≠ [46, 46]) : cparts L = L := by unfold cparts; rw [fold_plain L [] h, List.nil_append]
theorem cparts_append (A B : List Bytes) : cparts (A ++ B) = B.foldl cstep (cparts A) := by unfold cparts; rw [List.foldl_append]
theorem clean_slash (d s : Bytes) : clean (d ++ 47 :: s) = text ((parts s).foldl cstep (parts (clean d))) := by
  show text _ = _
  rw [parts_slash, cparts_append, parts_clean]
theorem head_part {p : Bytes} (h : Part p) : p.head? ≠ some 47 := by
  cases p with
  | nil => simp
  | cons c r =>
    intro e
    simp only [List.head?_cons, Option.some.injEq] at e
    exact h.1 (by simp [e])
theorem slashed_parts : ∀ (L : List Bytes), (∀ p ∈ L, Part p) → parts (slashed L) = L
  | [], _ => rfl
  | [p], h => parts_one (h p (by simp))
  | p :: q :: r, h => by
    have ih := slashed_parts (q :: r) (fun x hx => h x (by simp at hx ⊢; right; exact hx))
    show parts (p ++ 47 :: slashed (q :: r)) = _
    rw [parts_slash, ih, parts_one (h p (by simp))]; rfl
theorem slashed_head {L : List Bytes} (h : ∀ p ∈ L, Part p) : (slashed L).head? ≠ some 47 := by
  match L, h with
  | [], _ => simp [slashed]
  | [p], h => exact head_part (h p (by simp))
  | p :: q :: r, h =>
    have hp := h p (by simp)
    show (p ++ 47 :: slashed (q :: r)).head? ≠ some 47
    cases p with
    | nil => exact absurd rfl hp.2.1
    | cons c p => have := head_part hp; simpa using this
/-- from a clean directory on, a relative text of plain parts -/
theorem join_slashed {d : Bytes} {L : List Bytes} (hd : clean d = d) (h : ∀ p ∈ L, Part p ∧ p ≠ [46, 46]) : join d (slashed L) = text (parts d ++ L) := by
  unfold join
  rw [if_neg (slashed_head (fun p hp => (h p hp).1)), clean_slash, hd, slashed_parts L (fun p hp => (h p hp).1), fold_plain L _ (fun p hp => (h p hp).2)]
/-! lengths -/
theorem flush_len (now : Bytes) : (flush now).length ≤ 1 := by unfold flush; split <;> simp
theorem pgo_len : ∀ (l now : Bytes), (pgo l now).length ≤ l.length + 1
  | [], now => by have := flush_len now; simpa [pgo] using this
  | c :: r, now => by
    unfold pgo
    split
    · have := pgo_len r []; have := flush_len now
      simp only [List.length_append, List.length_cons]; omega
    · have := pgo_len r (now ++ [c]); simp only [List.length_cons]; omega
theorem parts_count (l : Bytes) : (parts l).length ≤ l.length + 1 := pgo_len l []
def total (L : List Bytes) : Nat := (L.map (fun p => p.length + 1)).foldr (· + ·) 0
theorem total_cons (p : Bytes) (L : List Bytes) : total (p :: L) = p.length + 1 + total L := rfl
theorem total_append (A B : List Bytes) : total (A ++ B) = total A + total B := by
  induction A with
  | nil => simp [total]
  | cons a A ih => rw [List.cons_append, total_cons, total_cons, ih]; omega
theorem total_flush (now : Bytes) : total (flush now) ≤ now.length + 1 := by unfold flush; split <;> simp [total]
theorem pgo_total : ∀ (l now : Bytes), total (pgo l now) ≤ l.length + now.length + 1
  | [], now => by have := total_flush now; simpa [pgo] using this
  | c :: r, now => by
    unfold pgo
    split
    · have := pgo_total r []; have := total_flush now
      rw [total_append]; simp only [List.length_nil, List.length_cons] at *; omega
    · have := pgo_total r (now ++ [c]); simp only [List.length_append, List.length_cons, List.length_nil] at *; omega
theorem parts_total (l : Bytes) : total (parts l) ≤ l.length + 1 := pgo_total l []
theorem flat_total (L : List Bytes) : (L.flatMap (fun p => 47 :: p)).length = total L := by
  induction L with
  | nil => rfl
  | cons p L ih => rw [List.flatMap_cons, List.length_append, ih, total_cons]; simp
theorem total_dropLast (L : List Bytes) : total L.dropLast ≤ total L := by
  induction L with
  | nil => simp
  | cons p L ih =>
    cases L with
    | nil => simp [total]
    | cons q L => rw [List.dropLast_cons_cons, total_cons, total_cons]; omega
theorem fold_total : ∀ (L out : List Bytes), total (L.foldl cstep out) ≤ total out + total L
  | [], out => by simp [total]
  | p :: L, out => by
    have h := fold_total L (cstep out p)
    have h2 : total (cstep out p) ≤ total out + (p.length + 1) := by
      unfold cstep
      split
      · have := total_dropLast out; omega
      · rw [total_append]; simp [total]
    rw [List.foldl_cons, total_cons]; omega
end Go.Proofs.YtpihldcchjoinaaGreatDoor.M04
/-
  Plain mathematics for layer 8 (seek), the plain answers: where parts lead from a node on, links being followed; lists alone. No condition but those that each theorem bears.
-/
namespace Go.Proofs.YtpihldcchjoinaaGreatDoor.M08
open Go.Proofs.YtpihldcchjoinaaGreatDoor.M07 hiding Bytes
open Go.Proofs.YtpihldcchjoinaaGreatDoor.M04
open Go.Proofs.YtpihldcchjoinaaGreatDoor.M03 (check)

/-- a tree's nodes have few bytes, and a link has some -/
def Fit (t : Tr) : Prop := ∀ a ∈ t.L, a.data.length ≤ 65536 ∧ (a.kind = 3 → a.data ≠ []) ∧ 1 ≤ a.kind ∧ a.kind ≤ 3
/-- from which node a link's text is gone -/
def base (at_ : Int) (x : Bytes) : Int := if x.head? = some 47 then 1 else at_
/-- where parts lead from a node on; how many links were followed; an error's number -/
def goTo (t : Tr) (at_ : Int) (l : List Bytes) (last : Bool) (hops : Nat) : Int × Nat × Int :=
  match l with
  | [] => (at_, hops, 0)
  | p :: r =>
    if (nodeAt t.L at_).kind ≠ 1 then (0, hops, 7)
    else if p = [46, 46] then goTo t (nodeAt t.L at_).up r last hops
    else if check p ≠ 0 then (0, hops, check p)
    else if inDir t.L at_ p = 0 then (0, hops, 5)
    else if (nodeAt t.L (inDir t.L at_ p)).kind ≠ 3 ∨ (r = [] ∧ last = false) then goTo t (inDir t.L at_ p) r last hops
    else if _h : 40 ≤ hops then (0, hops, 10)
    else goTo t (base at_ (nodeAt t.L (inDir t.L at_ p)).data) (parts (nodeAt t.L (inDir t.L at_ p)).data ++ r) last (hops + 1)
termination_by (40 - hops, l.length)
section
variable {t : Tr} {at_ : Int} {p : Bytes} {r : List Bytes} {last : Bool} {hops : Nat}
theorem go_nil : goTo t at_ [] last hops = (at_, hops, 0) := by rw [goTo]
theorem go_no (h : (nodeAt t.L at_).kind ≠ 1) : goTo t at_ (p :: r) last hops = (0, hops, 7) := by rw [goTo, if_pos h]
theorem go_up (h : (nodeAt t.L at_).kind = 1) (hp : p = [46, 46]) : goTo t at_ (p :: r) last hops = goTo t (nodeAt t.L at_).up r last hops := by rw [goTo, if_neg (by simpa using h), if_pos hp]
theorem go_bad (h : (nodeAt t.L at_).kind = 1) (hp : ¬ p = [46, 46]) (hc : check p ≠ 0) : goTo t at_ (p :: r) last hops = (0, hops, check p) := by rw [goTo, if_neg (by simpa using h), if_neg hp, if_pos hc]
theorem go_none (h : (nodeAt t.L at_).kind = 1) (hp : ¬ p = [46, 46]) (hc : check p = 0) (hn : inDir t.L at_ p = 0) : goTo t at_ (p :: r) last hops = (0, hops, 5) := by rw [goTo, if_neg (by simpa using h), if_neg hp, if_neg (by simpa using hc), if_pos hn]
theorem go_on (h : (nodeAt t.L at_).kind = 1) (hp : ¬ p = [46, 46]) (hc : check p = 0) (hn : ¬ inDir t.L at_ p = 0) (hk : (nodeAt t.L (inDir t.L at_ p)).kind ≠ 3 ∨ (r = [] ∧ last = false)) : goTo t at_ (p :: r) last hops = goTo t (inDir t.L at_ p) r last hops := by rw [goTo, if_neg (by simpa using h), if_neg hp, if_neg (by simpa using hc), if_neg hn, if_pos hk]
theorem go_loop (h : (nodeAt t.L at_).kind = 1) (hp : ¬ p = [46, 46]) (hc : check p = 0) (hn : ¬ inDir t.L at_ p = 0) (hk : ¬ ((nodeAt t.L (inDir t.L at_ p)).kind ≠ 3 ∨ (r = [] ∧ last = false))) (hh : 40 ≤ hops) : goTo t at_ (p :: r) last hops = (0, hops, 10) := by rw [goTo, if_neg (by simpa using h), if_neg hp, if_neg (by simpa using hc), if_neg hn, if_neg hk, dif_pos hh]
theorem go_link (h : (nodeAt t.L at_).kind = 1) (hp : ¬ p = [46, 46]) (hc : check p = 0) (hn : ¬ inDir t.L at_ p = 0) (hk : ¬ ((nodeAt t.L (inDir t.L at_ p)).kind ≠ 3 ∨ (r = [] ∧ last = false))) (hh : ¬ 40 ≤ hops) : goTo t at_ (p :: r) last hops = goTo t (base at_ (nodeAt t.L (inDir t.L at_ p)).data) (parts (nodeAt t.L (inDir t.L at_ p)).data ++ r) last (hops + 1) := by rw [goTo, if_neg (by simpa using h), if_neg hp, if_neg (by simpa using hc), if_neg hn, if_neg hk, dif_neg hh]
end
theorem pgo_len : ∀ (l now : Bytes), (pgo l now).length ≤ l.length + 1
  | [], now => by unfold pgo flush; split <;> simp
  | c :: l, now => by
    unfold pgo
    split
    · have := pgo_len l []
      have h1 : (flush now).length ≤ 1 := by unfold flush; split <;> simp
      rw [List.length_append, List.length_cons]; omega
    · have := pgo_len l (now ++ [c])
      rw [List.length_cons]; omega
theorem parts_len (l : Bytes) : (parts l).length ≤ l.length + 1 := pgo_len l []
/-- what Find answers -/
def find (t : Tr) (p : Bytes) (last : Bool) : Int × Int :=
  if p = [] then (0, 5) else if 1024 < p.length then (0, 11) else ((goTo t 1 (parts p) last 0).1, (goTo t 1 (parts p) last 0).2.2)
/-- what Spot answers -/
def spot (t : Tr) (p : Bytes) : Int × Bytes × Int :=
  if p = [] then (0, [], 5) else if 1024 < p.length then (0, [], 11)
  else if parts p = [] ∨ (parts p).getLastD [] = [46, 46] then (0, [], 6)
  else
    let g := goTo t 1 (parts p).dropLast true 0
    let e := if g.2.2 ≠ 0 then g.2.2 else if (nodeAt t.L g.1).kind ≠ 1 then 7 else check ((parts p).getLastD [])
    if e ≠ 0 then (0, [], e) else (g.1, (parts p).getLastD [], 0)
/-- a put keeps a tree fit -/
theorem fit_new : Fit M07.new := by intro a ha; rw [List.mem_singleton.1 ha]; exact ⟨by decide, by decide, by decide, by decide⟩
theorem fit_put {t : Tr} (h : Fit t) (d : Int) (s : Bytes) (k : Int) (x : Bytes) : Fit (M07.put t d s k x).1 := by
  unfold M07.put
  split
  · exact h
  · rename_i he
    have he0 : putErr t d s k x = 0 := by simpa using he
    intro a ha
    rcases List.mem_append.1 ha with h1 | h1
    · exact h a h1
    · rw [List.mem_singleton.1 h1]
      have hm : mayErr k x = 0 := by
        unfold putErr at he0
        split at he0
        · rename_i q; exact absurd he0 q
        · split at he0
          · rename_i q; exact absurd he0 q
          · split at he0
            · cases he0
            · split at he0
              · rename_i q; exact absurd he0 q
              · rename_i q; simpa using q
      unfold mayErr at hm
      split at hm
      · cases hm
      · rename_i q0
        split at hm
        · cases hm
        · rename_i q
          split at hm
          · cases hm
          · rename_i q2
            refine ⟨by show x.length ≤ _; omega, fun hk hx => q (Or.inr ⟨hk, hx⟩), by show 1 ≤ k; omega, by show k ≤ 3; omega⟩
end Go.Proofs.YtpihldcchjoinaaGreatDoor.M08
/-
  Plain mathematics for layer 7 (tree): what a directory's entries are in a right tree; going from Root through the directories, each node is come to once. Lists alone. No condition but those that each theorem bears.
-/
namespace Go.Proofs.YtpihldcchjoinaaGreatDoor.M07
open Go.Proofs.YtpihldcchjoinaaGreatDoor.M03 (lt lt_trans lt_asymm)
open Go.Proofs.YtpihldcchjoinaaGreatDoor.M06 (Ent)

theorem mem_put_iff {L : List Ent} {e x : Ent} (h : M06.right L = true) : x ∈ M06.put L e ↔ x = e ∨ (x ∈ L ∧ x.1 ≠ e.1) := by
  unfold M06.put M06.putL M06.cutL
  rw [M06.all_right h]
  simp only [List.mem_append, List.mem_filter, List.mem_cons, decide_eq_true_eq]
  constructor
  · rintro (⟨⟨h1, h2⟩, _⟩ | h1 | ⟨⟨h1, h2⟩, _⟩)
    · exact Or.inr ⟨h1, h2⟩
    · exact Or.inl h1
    · exact Or.inr ⟨h1, h2⟩
  · rintro (h1 | ⟨h1, h2⟩)
    · exact Or.inr (Or.inl h1)
    · rcases M03.lt_total x.1 e.1 with h3 | h3 | h3
      · exact Or.inl ⟨⟨h1, h2⟩, h3⟩
      · exact absurd h3 h2
      · exact Or.inr (Or.inr ⟨⟨h1, h2⟩, h3⟩)
theorem mem_fold : ∀ (l out : List Ent), M06.right out = true → l.Pairwise (fun a b => a.1 ≠ b.1) → (∀ a ∈ out, ∀ b ∈ l, a.1 ≠ b.1) → ∀ x, x ∈ l.foldl M06.put out ↔ x ∈ out ∨ x ∈ l
  | [], out, _, _, _, x => by simp
  | e :: l, out, hr, hp, hd, x => by
    rw [List.pairwise_cons] at hp
    rw [List.foldl_cons, mem_fold l (M06.put out e) (M06.right_put out e) hp.2 (fun a ha b hb => by
      rcases (mem_put_iff hr).1 ha with h1 | ⟨h1, _⟩
      · rw [h1]; exact hp.1 b hb
      · exact hd a h1 b (List.mem_cons_of_mem _ hb)) x, mem_put_iff hr, List.mem_cons]
    constructor
    · rintro ((h1 | ⟨h1, _⟩) | h1)
      · exact Or.inr (Or.inl h1)
      · exact Or.inl h1
      · exact Or.inr (Or.inr h1)
    · rintro (h1 | h1 | h1)
      · exact Or.inl (Or.inr ⟨h1, hd x h1 e List.mem_cons_self⟩)
      · exact Or.inl (Or.inl h1)
      · exact Or.inr h1
/-- a directory's entries are its nodes' -/
theorem mem_list {t : Tr} (h : Right t) {d : Int} {e : Ent} : e ∈ listDir t.L d ↔ ∃ a ∈ t.L, a.up = d ∧ a.num ≠ 1 ∧ entOf a = e := by
  unfold listDir
  have hp : ((t.L.filter (stands d)).map entOf).Pairwise (fun a b => a.1 ≠ b.1) := by
    rw [List.pairwise_map]
    refine List.Pairwise.imp_of_mem ?_ (h.rise.filter (stands d))
    intro a b ha hb hab he
    obtain ⟨ha1, ha2⟩ := List.mem_filter.1 ha
    obtain ⟨hb1, hb2⟩ := List.mem_filter.1 hb
    simp only [stands, Bool.and_eq_true, decide_eq_true_eq] at ha2 hb2
    have := h.once a ha1 b hb1 ha2.2 hb2.2 (by rw [ha2.1, hb2.1]) he
    rw [this] at hab
    omega
  rw [mem_fold _ [] rfl hp (fun a ha => by simp at ha)]
  simp only [List.not_mem_nil, false_or, List.mem_map, List.mem_filter, stands, Bool.and_eq_true, decide_eq_true_eq]
  constructor
  · rintro ⟨a, ⟨h1, h2, h3⟩, h4⟩; exact ⟨a, h1, h2, h3, h4⟩
  · rintro ⟨a, h1, h2, h3, h4⟩; exact ⟨a, ⟨h1, h2, h3⟩, h4⟩
theorem list_rises (L : List Nd) (d : Int) : (listDir L d).Pairwise (fun a b => lt a.1 b.1) := (M06.right_iff _).1 (M06.right_fold _ _ rfl)
/-- the numbers in a directory -/
def kids (t : Tr) (d : Int) : List Int := (listDir t.L d).map (·.2)
/-- what is held while one goes from Root through the directories: met are come to, the first i of them are gone through -/
structure Met (t : Tr) (met : List Int) (i : Nat) : Prop where
  once : met.Nodup
  root : (1 : Int) ∈ met
  are : ∀ n ∈ met, ∃ a ∈ t.L, a.num = n
  done : ∀ n ∈ met.take i, ∀ c ∈ kids t n, c ∈ met
  by_ : ∀ a ∈ t.L, a.num ∈ met → a.num ≠ 1 → a.up ∈ met.take i
theorem nodup_len : ∀ (a b : List Int), a.Nodup → a ⊆ b → a.length ≤ b.length
  | [], _, _, _ => Nat.zero_le _
  | x :: a, b, hn, hs => by
    rw [List.nodup_cons] at hn
    obtain ⟨s, u, rfl⟩ := List.append_of_mem (hs List.mem_cons_self)
    have h1 := nodup_len a (s ++ u) hn.2 (fun y hy => by
      have := hs (List.mem_cons_of_mem _ hy)
      rcases List.mem_append.1 this with h | h
      · exact List.mem_append_left _ h
      · rcases List.mem_cons.1 h with h | h
        · rw [h] at hy; exact absurd hy hn.1
        · exact List.mem_append_right _ h)
    simp only [List.length_append, List.length_cons] at h1 ⊢
    omega
end Go.Proofs.YtpihldcchjoinaaGreatDoor.M07
/-
  Plain mathematics for layer 8 (seek): the names by which one comes from Root to a node; where they lead; paths that lead by directories alone. Lists alone. No condition but those that each theorem bears.
-/
namespace Go.Proofs.YtpihldcchjoinaaGreatDoor.M08
open Go.Proofs.YtpihldcchjoinaaGreatDoor.M07 hiding Bytes
open Go.Proofs.YtpihldcchjoinaaGreatDoor.M04
open Go.Proofs.YtpihldcchjoinaaGreatDoor.M03 (check)

/-- each node but Root bears a name that may be -/
def Named (t : Tr) : Prop := ∀ a ∈ t.L, a.num ≠ 1 → check a.name = 0
theorem named_new : Named M07.new := by intro a ha h1; rw [List.mem_singleton.1 ha] at h1; exact absurd rfl h1
theorem put_checked {t : Tr} {d k : Int} {s x : Bytes} (he : putErr t d s k x = 0) : check s = 0 := by
  unfold putErr at he
  split at he
  · rename_i q; exact absurd he q
  · split at he
    · rename_i q; exact absurd he q
    · rename_i q; simpa using q
theorem named_put {t : Tr} (h : Named t) (d : Int) (s : Bytes) (k : Int) (x : Bytes) : Named (M07.put t d s k x).1 := by
  unfold M07.put
  split
  · exact h
  · rename_i he
    have he0 : putErr t d s k x = 0 := by simpa using he
    intro a ha h1
    rcases List.mem_append.1 ha with h2 | h2
    · exact h a h2 h1
    · rw [List.mem_singleton.1 h2]; exact put_checked he0

/-! names from Root down -/
def namesOf (L : List Nd) : Nat → Int → List Bytes
  | 0, _ => []
  | k + 1, n => if n = 1 then [] else namesOf L k (upOf L n) ++ [(nodeAt L n).name]
noncomputable def names (t : Tr) (n : Int) : List Bytes := namesOf t.L (height t.L n) n
theorem height_spec {L : List Nd} {n : Int} (h : ∃ k, upN L k n = 1) : upN L (height L n) n = 1 ∧ ∀ i, upN L i n = 1 → height L n ≤ i := by
  unfold height
  rw [dif_pos h]
  exact Classical.choose_spec (least h)
theorem height_next {L : List Nd} {n : Int} (h : ∃ k, upN L k n = 1) (h1 : n ≠ 1) : height L n = height L (upOf L n) + 1 := by
  obtain ⟨h2, h3⟩ := height_up h h1
  have a := (height_spec h2).1
  have b := (height_spec h).2 (height L (upOf L n) + 1) a
  omega
theorem height_root (L : List Nd) : height L 1 = 0 := by
  have := (height_spec (L := L) (n := 1) ⟨0, rfl⟩).2 0 rfl
  omega
theorem names_root (t : Tr) : names t 1 = [] := by unfold names; rw [height_root]; rfl
theorem names_next {t : Tr} (h : Right t) {n : Int} (hk : (nodeAt t.L n).kind ≠ 0) (h1 : n ≠ 1) : names t n = names t (nodeAt t.L n).up ++ [(nodeAt t.L n).name] := by
  unfold names
  rw [height_next (h.reach hk) h1]
  show (if n = 1 then [] else _) = _
  rw [if_neg h1]
  rfl
theorem names_checked {t : Tr} (h : Right t) (hN : Named t) : ∀ (k : Nat) {n : Int}, (nodeAt t.L n).kind ≠ 0 → height t.L n = k → ∀ p ∈ names t n, check p = 0
  | k, n, hk, he => by
    by_cases h1 : n = 1
    · subst h1; rw [names_root]; intro p hp; cases hp
    · rw [names_next h hk h1]
      have hm := at_some hk
      have hu := h.up _ hm.1
      have hn := height_next (h.reach hk) h1
      intro p hp
      rcases List.mem_append.1 hp with h2 | h2
      · cases k with
        | zero => omega
        | succ k => exact names_checked h hN k (by rw [hu]; decide) (by have e : height t.L (upOf t.L n) = height t.L (nodeAt t.L n).up := rfl; omega) p h2
      · rw [List.mem_singleton.1 h2]
        exact hN _ hm.1 (by rw [hm.2]; exact h1)
/-- the path of the names -/
noncomputable def real (t : Tr) (n : Int) : Bytes × Bool := if (nodeAt t.L n).kind = 0 then ([], false) else (text (names t n), true)
theorem points_not : check [46, 46] ≠ 0 := by decide
theorem check_part {p : Bytes} (h : check p = 0) : Part p := by
  unfold M03.check at h
  split at h
  · cases h
  · rename_i h0
    split at h
    · cases h
    · split at h
      · cases h
      · rename_i hb
        split at h
        · cases h
        · rename_i hp
          refine ⟨fun e => ?_, fun e => h0 (by rw [e]; rfl), fun e => hp (Or.inl e)⟩
          exact hb (List.any_eq_true.2 ⟨47, e, by decide⟩)
theorem zero_none {t : Tr} (h : Right t) : (nodeAt t.L 0).kind = 0 := by
  rw [at_none]
  · rfl
  · intro a ha e; have := (h.ends a ha).1; omega
theorem in_of {t : Tr} (h : Right t) {n : Int} (hk : (nodeAt t.L n).kind ≠ 0) (h1 : n ≠ 1) : inDir t.L (nodeAt t.L n).up (nodeAt t.L n).name = n := by
  have hm := at_some hk
  have hne : inDir t.L (nodeAt t.L n).up (nodeAt t.L n).name ≠ 0 := fun e => in_not (fun a ha => (h.ends a ha).1) e _ hm.1 (by rw [hm.2]; exact h1) ⟨rfl, rfl⟩
  obtain ⟨a, ha, e1, e2, e3, e4⟩ := in_found hne
  have := h.once a ha _ hm.1 e4 (by rw [hm.2]; exact h1) e2 e3
  rw [← e1, this, hm.2]
theorem not_points {p : Bytes} (h : check p = 0) : ¬ p = [46, 46] := fun e => points_not (e ▸ h)
theorem go_names {t : Tr} (h : Right t) (hN : Named t) (last : Bool) (hops : Nat) : ∀ (k : Nat) {d : Int} (rest : List Bytes), (nodeAt t.L d).kind = 1 → height t.L d = k → goTo t 1 (names t d ++ rest) last hops = goTo t d rest last hops
  | k, d, rest, hk, he => by
    by_cases h1 : d = 1
    · subst h1; rw [names_root]; rfl
    · have hk0 : (nodeAt t.L d).kind ≠ 0 := by rw [hk]; decide
      have hm := at_some hk0
      have hu := h.up _ hm.1
      have hn := height_next (h.reach hk0) h1
      have hc := hN _ hm.1 (by rw [hm.2]; exact h1)
      rw [names_next h hk0 h1, List.append_assoc]
      cases k with
      | zero => omega
      | succ k =>
        rw [go_names h hN last hops k _ hu (by have e : height t.L (upOf t.L d) = height t.L (nodeAt t.L d).up := rfl; omega)]
        have e := in_of h hk0 h1
        have := go_on (t := t) (at_ := (nodeAt t.L d).up) (p := (nodeAt t.L d).name) (r := rest) (last := last) (hops := hops) hu (not_points hc) hc (by rw [e]; intro e0; rw [e0] at hk0; exact hk0 (zero_none h)) (Or.inl (by rw [e, hk]; decide))
        rw [e] at this
        exact this
theorem go_to_names {t : Tr} (h : Right t) (hN : Named t) {n : Int} (hk : (nodeAt t.L n).kind ≠ 0) : goTo t 1 (names t n) false 0 = (n, 0, 0) := by
  by_cases h1 : n = 1
  · subst h1; rw [names_root, go_nil]
  · have hm := at_some hk
    have hu := h.up _ hm.1
    have hc := hN _ hm.1 (by rw [hm.2]; exact h1)
    have e := in_of h hk h1
    rw [names_next h hk h1, go_names h hN false 0 _ _ hu rfl, go_on hu (not_points hc) hc (by rw [e]; intro e0; rw [e0] at hk; exact hk (zero_none h)) (Or.inr ⟨rfl, rfl⟩), e, go_nil]
theorem names_parts {t : Tr} (h : Right t) (hN : Named t) {n : Int} (hk : (nodeAt t.L n).kind ≠ 0) : parts (text (names t n)) = names t n := parts_text fun p hp => check_part (names_checked h hN _ hk rfl p hp)
theorem text_ne (L : List Bytes) : text L ≠ [] := by
  unfold text
  split
  · simp
  · rename_i h
    cases L with
    | nil => exact absurd rfl h
    | cons p r => simp
/-! by directories alone -/
/-! how long such a path is -/
theorem names_len {t : Tr} (h : Right t) : ∀ (k : Nat) {n : Int}, (nodeAt t.L n).kind ≠ 0 → height t.L n = k → (names t n).length = k
  | k, n, hk, he => by
    by_cases h1 : n = 1
    · subst h1; rw [height_root] at he; rw [names_root, ← he]; rfl
    · have hm := at_some hk
      have hu := h.up _ hm.1
      have hn := height_next (h.reach hk) h1
      have e : height t.L (upOf t.L n) = height t.L (nodeAt t.L n).up := rfl
      rw [names_next h hk h1, List.length_append]
      cases k with
      | zero => omega
      | succ k => rw [names_len h k (by rw [hu]; decide) (by omega)]; rfl
theorem climb {t : Tr} (h : Right t) : ∀ (i : Nat) {n : Int}, (nodeAt t.L n).kind ≠ 0 → i ≤ height t.L n → height t.L (upN t.L i n) = height t.L n - i ∧ (nodeAt t.L (upN t.L i n)).kind ≠ 0
  | 0, n, hk, _ => ⟨rfl, hk⟩
  | i + 1, n, hk, hi => by
    by_cases h1 : n = 1
    · subst h1; rw [height_root] at hi; omega
    · have hm := at_some hk
      have hu := h.up _ hm.1
      have hn := height_next (h.reach hk) h1
      have hk2 : (nodeAt t.L (upOf t.L n)).kind ≠ 0 := by show (nodeAt t.L (nodeAt t.L n).up).kind ≠ 0; rw [hu]; decide
      have := climb h i (n := upOf t.L n) hk2 (by omega)
      show height t.L (upN t.L i (upOf t.L n)) = _ ∧ (nodeAt t.L (upN t.L i (upOf t.L n))).kind ≠ 0
      exact ⟨by rw [this.1]; omega, this.2⟩
theorem height_le {t : Tr} (h : Right t) {n : Int} (hk : (nodeAt t.L n).kind ≠ 0) : height t.L n ≤ t.L.length := by
  have h1 := nodup_len ((List.range (height t.L n)).map (fun i => upN t.L i n)) (t.L.map (·.num)) (by
    rw [List.Nodup, List.pairwise_map]
    refine List.Pairwise.imp_of_mem ?_ (List.pairwise_lt_range)
    intro a b ha hb hab e
    have ha := List.mem_range.1 ha
    have hb := List.mem_range.1 hb
    have c1 := (climb h a hk (by omega)).1
    have c2 := (climb h b hk (by omega)).1
    rw [e] at c1
    omega) (fun x hx => by
    obtain ⟨i, hi, rfl⟩ := List.mem_map.1 hx
    have hi := List.mem_range.1 hi
    have := at_some (climb h i hk (by omega)).2
    exact List.mem_map.2 ⟨_, this.1, this.2⟩)
  simp only [List.length_map, List.length_range] at h1
  exact h1
def flatN (L : List Bytes) : Bytes := L.flatMap (fun p => 47 :: p)
theorem flatN_len : ∀ (L : List Bytes), (∀ p ∈ L, check p = 0) → (flatN L).length ≤ 65 * L.length
  | [], _ => by simp [flatN]
  | p :: r, h => by
    have := flatN_len r fun q hq => h q (List.mem_cons_of_mem _ hq)
    have hp := h p List.mem_cons_self
    have h64 : p.length ≤ 64 := by
      unfold M03.check at hp
      split at hp
      · cases hp
      · split at hp
        · cases hp
        · omega
    show (47 :: p ++ flatN r).length ≤ _
    rw [List.length_append, List.length_cons, List.length_cons]
    omega
theorem names_bound {t : Tr} (h : Right t) (hN : Named t) {n : Int} (hk : (nodeAt t.L n).kind ≠ 0) : (flatN (names t n)).length ≤ 65 * t.L.length := by
  have h1 := flatN_len (names t n) (names_checked h hN _ hk rfl)
  have h2 := names_len h _ hk rfl
  have h3 := height_le h hk
  omega
theorem flatN_next {t : Tr} (h : Right t) {n : Int} (hk : (nodeAt t.L n).kind ≠ 0) (h1 : n ≠ 1) : flatN (names t n) = flatN (names t (nodeAt t.L n).up) ++ 47 :: (nodeAt t.L n).name := by
  rw [names_next h hk h1]
  unfold flatN
  rw [List.flatMap_append]; simp
theorem text_flatN {L : List Bytes} (h : flatN L ≠ []) : text L = flatN L := by
  unfold text
  rw [if_neg (fun e => h (by rw [e]; rfl))]; rfl
theorem text_flat0 {L : List Bytes} (h : flatN L = []) : text L = [47] := by
  cases L with
  | nil => rfl
  | cons p r => exact absurd h (by simp [flatN])
end Go.Proofs.YtpihldcchjoinaaGreatDoor.M08
/-
  Plain mathematics for layer 12 (dump): rows; an order of paths part by part; rows one by one in their places; what stands below a node, told from the node down and told node by node, is the same. Lists alone. No condition but those that each theorem bears.
-/
namespace Go.Proofs.YtpihldcchjoinaaGreatDoor.M12
open Go.Proofs.YtpihldcchjoinaaGreatDoor.M07 hiding Bytes
open Go.Proofs.YtpihldcchjoinaaGreatDoor.M04
open Go.Proofs.YtpihldcchjoinaaGreatDoor.M08
open Go.Proofs.YtpihldcchjoinaaGreatDoor.M03 (check lt lt_trans lt_asymm lt_total)

structure Rw where
  path : Bytes
  kind : Int
  data : Bytes
deriving DecidableEq

/-! an order of lists of names -/
def lessP : List Bytes → List Bytes → Bool
  | [], [] => false
  | [], _ :: _ => true
  | _ :: _, [] => false
  | a :: r, b :: s => if a = b then lessP r s else decide (lt a b)
def less (p q : Bytes) : Bool := lessP (parts p) (parts q)
theorem lt_irrefl (a : Bytes) : ¬ lt a a := fun h => lt_asymm h h
theorem lessP_self : ∀ a : List Bytes, lessP a a = false
  | [] => rfl
  | a :: r => by rw [lessP, if_pos rfl]; exact lessP_self r
theorem lessP_trans : ∀ {a b c : List Bytes}, lessP a b = true → lessP b c = true → lessP a c = true
  | [], [], _, h, _ => by cases h
  | [], _ :: _, [], _, h => by cases h
  | [], _ :: _, _ :: _, _, _ => rfl
  | _ :: _, [], _, h, _ => by cases h
  | _ :: _, _ :: _, [], _, h => by cases h
  | a :: r, b :: s, c :: u, h, k => by
    rw [lessP] at h k ⊢
    by_cases e : a = b
    · subst e
      rw [if_pos rfl] at h
      by_cases e2 : a = c
      · rw [if_pos e2] at k ⊢; exact lessP_trans h k
      · rw [if_neg e2] at k ⊢; exact k
    · rw [if_neg e] at h
      have h1 : lt a b := by simpa using h
      by_cases e2 : b = c
      · subst e2; rw [if_neg e]; exact h
      · rw [if_neg e2] at k
        have h2 : lt b c := by simpa using k
        have h3 := lt_trans h1 h2
        rw [if_neg (fun e3 => by subst e3; exact lt_irrefl _ h3)]
        simpa using h3
theorem lessP_total : ∀ {a b : List Bytes}, a ≠ b → lessP a b = false → lessP b a = true
  | [], [], h, _ => absurd rfl h
  | [], _ :: _, _, h => by cases h
  | _ :: _, [], _, _ => rfl
  | a :: r, b :: s, h, k => by
    rw [lessP] at k ⊢
    by_cases e : a = b
    · subst e
      rw [if_pos rfl] at k
      rw [if_pos rfl]
      exact lessP_total (fun e => h (by rw [e])) k
    · rw [if_neg e] at k
      rw [if_neg (fun e2 => e e2.symm)]
      rcases lt_total a b with h1 | h1 | h1
      · exact absurd h1 (by simpa using k)
      · exact absurd h1 e
      · simpa using h1
theorem lessP_head {P : List Bytes} {a b : Bytes} {s u : List Bytes} (h : lt a b) : lessP (P ++ a :: s) (P ++ b :: u) = true := by
  induction P with
  | nil =>
    show lessP (a :: s) (b :: u) = true
    rw [lessP, if_neg (fun e => by subst e; exact lt_irrefl _ h)]; simpa using h
  | cons q P ih => show (if q = q then _ else _) = true; rw [if_pos rfl]; exact ih
theorem lessP_more {P : List Bytes} {s : List Bytes} (h : s ≠ []) : lessP P (P ++ s) = true := by
  induction P with
  | nil =>
    cases s with
    | nil => exact absurd rfl h
    | cons a s => rfl
  | cons q P ih => show (if q = q then _ else _) = true; rw [if_pos rfl]; exact ih

/-! lists that rise -/
theorem rise_ext {α : Type} {R : α → α → Prop} (irr : ∀ a, ¬ R a a) (tr : ∀ {a b c}, R a b → R b c → R a c) : ∀ {l m : List α}, l.Pairwise R → m.Pairwise R → (∀ x, x ∈ l ↔ x ∈ m) → l = m
  | [], [], _, _, _ => rfl
  | [], b :: m, _, _, h => absurd ((h b).2 List.mem_cons_self) (by simp)
  | a :: l, [], _, _, h => absurd ((h a).1 List.mem_cons_self) (by simp)
  | a :: l, b :: m, hl, hm, h => by
    rw [List.pairwise_cons] at hl hm
    have e : a = b := by
      rcases List.mem_cons.1 ((h a).1 List.mem_cons_self) with e | e
      · exact e
      · rcases List.mem_cons.1 ((h b).2 List.mem_cons_self) with e2 | e2
        · exact e2.symm
        · exact absurd (tr (hl.1 b e2) (hm.1 a e)) (irr a)
    subst e
    rw [rise_ext irr tr hl.2 hm.2 (fun x => by
      constructor
      · intro hx
        rcases List.mem_cons.1 ((h x).1 (List.mem_cons_of_mem _ hx)) with e | e
        · subst e; exact absurd (hl.1 x hx) (irr x)
        · exact e
      · intro hx
        rcases List.mem_cons.1 ((h x).2 (List.mem_cons_of_mem _ hx)) with e | e
        · subst e; exact absurd (hm.1 x hx) (irr x)
        · exact e)]
def ahead (a b : Rw) : Prop := less a.path b.path = true
theorem ahead_irr (a : Rw) : ¬ ahead a a := by unfold ahead less; rw [lessP_self]; simp
theorem ahead_trans {a b c : Rw} (h : ahead a b) (k : ahead b c) : ahead a c := lessP_trans h k

/-! rows one by one in their places -/
/-- where a row goes, the first k being looked at from behind -/
def seat (out : List Rw) (x : Rw) : Nat → Nat
  | 0 => 0
  | k + 1 => match out[k]? with
    | some y => if less x.path y.path = true then seat out x k else k + 1
    | none => k + 1
def ins (out : List Rw) (x : Rw) : List Rw := out.take (seat out x out.length) ++ x :: out.drop (seat out x out.length)
def sortR (l : List Rw) : List Rw := l.foldl ins []
theorem seat_go {out : List Rw} {x : Rw} {k : Nat} (hk : k < out.length) (h : less x.path (out[k]).path = true) : seat out x (k + 1) = seat out x k := by
  rw [seat, List.getElem?_eq_getElem hk]; simp only; rw [if_pos h]
theorem seat_stop {out : List Rw} {x : Rw} {k : Nat} (hk : k < out.length) (h : less x.path (out[k]).path = false) : seat out x (k + 1) = k + 1 := by
  rw [seat, List.getElem?_eq_getElem hk]; simp only; rw [if_neg (by rw [h]; simp)]
theorem seat_spec (out : List Rw) (x : Rw) : ∀ k, k ≤ out.length → seat out x k ≤ k ∧ (∀ j (hj : j < out.length), seat out x k ≤ j → j < k → less x.path (out[j]).path = true) ∧ (∀ j (hj : j < out.length), j + 1 = seat out x k → less x.path (out[j]).path = false)
  | 0, _ => ⟨Nat.le_refl _, fun j _ _ h => absurd h (by omega), fun j _ h => by rw [seat] at h; omega⟩
  | k + 1, hk => by
    have hk' : k < out.length := by omega
    cases h : less x.path (out[k]).path with
    | true =>
      rw [seat_go hk' h]
      obtain ⟨h1, h2, h3⟩ := seat_spec out x k (by omega)
      refine ⟨by omega, fun j hj hs hjk => ?_, h3⟩
      rcases Nat.lt_or_ge j k with hlt | hge
      · exact h2 j hj hs hlt
      · have : j = k := by omega
        subst this; exact h
    | false =>
      rw [seat_stop hk' h]
      refine ⟨Nat.le_refl _, fun j _ _ _ => by omega, fun j hj e => ?_⟩
      have : j = k := by omega
      subst this; exact h
theorem seat_le (out : List Rw) (x : Rw) : seat out x out.length ≤ out.length := (seat_spec out x _ (Nat.le_refl _)).1
theorem mem_ins {out : List Rw} {x y : Rw} : y ∈ ins out x ↔ y = x ∨ y ∈ out := by
  unfold ins
  rw [List.mem_append, List.mem_cons]
  conv => rhs; rw [← List.take_append_drop (seat out x out.length) out, List.mem_append]
  constructor
  · rintro (h | h | h)
    · exact Or.inr (Or.inl h)
    · exact Or.inl h
    · exact Or.inr (Or.inr h)
  · rintro (h | h | h)
    · exact Or.inr (Or.inl h)
    · exact Or.inl h
    · exact Or.inr (Or.inr h)
theorem ins_len (out : List Rw) (x : Rw) : (ins out x).length = out.length + 1 := by
  unfold ins
  have := seat_le out x
  simp only [List.length_append, List.length_take, List.length_cons, List.length_drop]; omega
theorem ins_rise {out : List Rw} {x : Rw} (h : out.Pairwise ahead) (hd : ∀ y ∈ out, parts y.path ≠ parts x.path) : (ins out x).Pairwise ahead := by
  unfold ins
  obtain ⟨h1, h2, h3⟩ := seat_spec out x out.length (Nat.le_refl _)
  generalize seat out x out.length = s at *
  have hbe : ∀ y ∈ out.drop s, ahead x y := fun y hy => by
    obtain ⟨j, hj, rfl⟩ := List.mem_iff_getElem.1 hy
    rw [List.length_drop] at hj
    rw [List.getElem_drop]
    exact h2 (s + j) (by omega) (by omega) (by omega)
  have hfr : ∀ y ∈ out.take s, ahead y x := fun y hy => by
    obtain ⟨j, hj, rfl⟩ := List.mem_iff_getElem.1 hy
    rw [List.length_take] at hj
    rw [List.getElem_take]
    have hl := h3 (s - 1) (by omega) (by omega)
    have hlast : ahead (out[s - 1]'(by omega)) x := lessP_total (fun e => hd _ (List.getElem_mem _) e.symm) hl
    rcases Nat.lt_or_ge j (s - 1) with hlt | hge
    · exact ahead_trans ((List.pairwise_iff_getElem.1 h) j (s - 1) (by omega) (by omega) hlt) hlast
    · have : j = s - 1 := by omega
      subst this; exact hlast
  have hw := h
  rw [← List.take_append_drop s out, List.pairwise_append] at hw
  rw [List.pairwise_append, List.pairwise_cons]
  refine ⟨hw.1, ⟨hbe, hw.2.1⟩, fun a ha b hb => ?_⟩
  rcases List.mem_cons.1 hb with e | e
  · subst e; exact hfr a ha
  · exact hw.2.2 a ha b e
theorem fold_rise : ∀ (l out : List Rw), out.Pairwise ahead → l.Pairwise (fun a b => parts a.path ≠ parts b.path) → (∀ a ∈ out, ∀ b ∈ l, parts a.path ≠ parts b.path) → (l.foldl ins out).Pairwise ahead
  | [], _, h, _, _ => h
  | x :: l, out, h, hp, hd => by
    rw [List.pairwise_cons] at hp
    refine fold_rise l (ins out x) (ins_rise h (fun y hy => hd y hy x List.mem_cons_self)) hp.2 (fun a ha b hb => ?_)
    rcases mem_ins.1 ha with e | e
    · subst e; exact hp.1 b hb
    · exact hd a e b (List.mem_cons_of_mem _ hb)
theorem mem_foldR : ∀ (l out : List Rw) (x : Rw), x ∈ l.foldl ins out ↔ x ∈ out ∨ x ∈ l
  | [], out, x => by simp
  | y :: l, out, x => by
    rw [List.foldl_cons, mem_foldR l, mem_ins, List.mem_cons]
    constructor
    · rintro ((h | h) | h)
      · exact Or.inr (Or.inl h)
      · exact Or.inl h
      · exact Or.inr (Or.inr h)
    · rintro (h | h | h)
      · exact Or.inl (Or.inr h)
      · exact Or.inl (Or.inl h)
      · exact Or.inr h
theorem fold_lenR : ∀ (l out : List Rw), (l.foldl ins out).length = out.length + l.length
  | [], out => by simp
  | x :: l, out => by rw [List.foldl_cons, fold_lenR l, ins_len, List.length_cons]; omega
theorem sort_rise {l : List Rw} (h : l.Pairwise (fun a b => parts a.path ≠ parts b.path)) : (sortR l).Pairwise ahead := fold_rise l [] List.Pairwise.nil h (fun a ha => by simp at ha)
theorem mem_sort {l : List Rw} {x : Rw} : x ∈ sortR l ↔ x ∈ l := by unfold sortR; rw [mem_foldR]; simp

/-! what stands below a node -/
/-- does one come from n upwards to d, ahead of Root or there? -/
def Under (t : Tr) (n d : Int) : Prop := ∃ j, upN t.L (j + 1) n = d ∧ ∀ i, i ≤ j → upN t.L i n ≠ 1
open Classical in
noncomputable def isUnd (t : Tr) (n d : Int) : Bool := decide (Under t n d)
theorem und_root (t : Tr) (d : Int) : isUnd t 1 d = false := by
  unfold isUnd
  simp only [decide_eq_false_iff_not]
  rintro ⟨j, -, h⟩
  exact h 0 (Nat.zero_le _) rfl
theorem und_here {t : Tr} {n d : Int} (h1 : n ≠ 1) (h : (nodeAt t.L n).up = d) : isUnd t n d = true := by
  unfold isUnd
  simp only [decide_eq_true_eq]
  refine ⟨0, h, fun i hi => ?_⟩
  have : i = 0 := by omega
  subst this; exact h1
theorem und_up {t : Tr} {n d : Int} (h1 : n ≠ 1) (h : (nodeAt t.L n).up ≠ d) : isUnd t n d = isUnd t (nodeAt t.L n).up d := by
  unfold isUnd
  have : Under t n d ↔ Under t (nodeAt t.L n).up d := by
    constructor
    · rintro ⟨j, e, ha⟩
      cases j with
      | zero => exact absurd e h
      | succ j => exact ⟨j, e, fun i hi => ha (i + 1) (by omega)⟩
    · rintro ⟨j, e, ha⟩
      refine ⟨j + 1, e, fun i hi => ?_⟩
      cases i with
      | zero => exact h1
      | succ i => exact ha i (by omega)
  exact decide_eq_decide.2 this
/-- a node's row -/
noncomputable def nodeRow (t : Tr) (a : Nd) : Rw := ⟨text (names t a.num), a.kind, a.data⟩
/-- told node by node -/
noncomputable def nodesBelow (t : Tr) (d : Int) : List Nd := t.L.filter (fun a => decide (a.num ≠ 1) && isUnd t a.num d)
noncomputable def rowsBelow (t : Tr) (d : Int) : List Rw := sortR ((nodesBelow t d).map (nodeRow t))
/-- told from the node down: the path of the node is p -/
def down (t : Tr) : Nat → Int → Bytes → List Rw
  | 0, _, _ => []
  | k + 1, d, p => (listDir t.L d).flatMap (fun e => ⟨p ++ 47 :: e.1, (nodeAt t.L e.2).kind, (nodeAt t.L e.2).data⟩ :: down t k e.2 (p ++ 47 :: e.1))
theorem names_inj {t : Tr} (h : Right t) (hN : Named t) {n m : Int} (hn : (nodeAt t.L n).kind ≠ 0) (hm : (nodeAt t.L m).kind ≠ 0) (e : names t n = names t m) : n = m := by
  have h1 := go_to_names h hN hn
  have h2 := go_to_names h hN hm
  rw [e, h2] at h1
  exact (congrArg Prod.fst h1).symm
/-- a node in a directory's list -/
structure Kid (t : Tr) (d : Int) (e : M06.Ent) (a : Nd) : Prop where
  mem : a ∈ t.L
  up : a.up = d
  not1 : a.num ≠ 1
  name : e.1 = a.name
  num : e.2 = a.num
  at_ : nodeAt t.L a.num = a
  kind : (nodeAt t.L a.num).kind ≠ 0
theorem kid_of {t : Tr} (h : Right t) {d : Int} {e : M06.Ent} (he : e ∈ listDir t.L d) : ∃ a, Kid t d e a := by
  obtain ⟨a, h1, h2, h3, rfl⟩ := (mem_list h).1 he
  exact ⟨a, h1, h2, h3, rfl, rfl, h.at_ h1, by rw [h.at_ h1]; exact h.kind a h1⟩
theorem Kid.names_ {t : Tr} (h : Right t) {d : Int} {e : M06.Ent} {a : Nd} (k : Kid t d e a) : names t a.num = names t d ++ [a.name] := by
  rw [names_next h k.kind k.not1, k.at_, k.up]
theorem Kid.flat_ {t : Tr} (h : Right t) {d : Int} {e : M06.Ent} {a : Nd} (k : Kid t d e a) : flatN (names t a.num) = flatN (names t d) ++ 47 :: a.name := by
  rw [flatN_next h k.kind k.not1, k.at_, k.up]
theorem Kid.text_ {t : Tr} (h : Right t) {d : Int} {e : M06.Ent} {a : Nd} (k : Kid t d e a) : text (names t a.num) = flatN (names t d) ++ 47 :: a.name := by
  rw [← k.flat_ h]
  exact text_flatN (by rw [k.flat_ h]; simp)
theorem Kid.height_ {t : Tr} (h : Right t) {d : Int} {e : M06.Ent} {a : Nd} (k : Kid t d e a) : height t.L a.num = height t.L d + 1 := by
  rw [height_next (h.reach k.kind) k.not1]
  have : upOf t.L a.num = d := by unfold upOf; rw [k.at_, k.up]
  rw [this]
/-- whoever is told of stands below, by a longer path -/
theorem down_sound {t : Tr} (h : Right t) : ∀ (k : Nat) (d : Int) (r : Rw), r ∈ down t k d (flatN (names t d)) → ∃ a ∈ t.L, a.num ≠ 1 ∧ Under t a.num d ∧ r = nodeRow t a ∧ ∃ s, s ≠ [] ∧ names t a.num = names t d ++ s
  | 0, _, _, hr => by simp [down] at hr
  | k + 1, d, r, hr => by
    rw [down, List.mem_flatMap] at hr
    obtain ⟨e, he, hr⟩ := hr
    obtain ⟨a, ha⟩ := kid_of h he
    have hu0 : upN t.L 1 a.num = d := by show upOf t.L a.num = d; unfold upOf; rw [ha.at_, ha.up]
    rcases List.mem_cons.1 hr with hr | hr
    · refine ⟨a, ha.mem, ha.not1, ⟨0, hu0, fun i hi => by have : i = 0 := by omega
                                                          subst this; exact ha.not1⟩, ?_, [a.name], by simp, ha.names_ h⟩
      rw [hr, ha.name, ha.num, ha.at_]
      unfold nodeRow
      rw [ha.text_ h]
    · rw [ha.name, ha.num, ← ha.flat_ h] at hr
      obtain ⟨b, hb, hb1, ⟨j, hj, hj2⟩, hb3, s, hs, hb4⟩ := down_sound h k a.num r hr
      refine ⟨b, hb, hb1, ⟨j + 1, ?_, fun i hi => ?_⟩, hb3, a.name :: s, by simp, ?_⟩
      · have up_more : ∀ (m : Nat) (n : Int), upN t.L (m + 1) n = upOf t.L (upN t.L m n) := by
          intro m
          induction m with
          | zero => intro n; rfl
          | succ m ih => intro n; show upN t.L (m + 1) (upOf t.L n) = _; rw [ih]; rfl
        rw [up_more, hj]; exact hu0
      · rcases Nat.lt_or_ge j i with hlt | hge
        · have : i = j + 1 := by omega
          subst this; rw [hj]; exact ha.not1
        · exact hj2 i hge
      · rw [hb4, ha.names_ h, List.append_assoc]; rfl
/-- and whoever stands below is told of -/
theorem up_last {t : Tr} : ∀ (m : Nat) (n : Int), upN t.L (m + 1) n = upOf t.L (upN t.L m n)
  | 0, _ => rfl
  | m + 1, n => by show upN t.L (m + 1) (upOf t.L n) = _; rw [up_last m]; rfl
theorem down_whole {t : Tr} (h : Right t) {a : Nd} (ha : a ∈ t.L) : ∀ (j k : Nat) (d : Int), j < k → upN t.L (j + 1) a.num = d → (∀ i, i ≤ j → upN t.L i a.num ≠ 1) → nodeRow t a ∈ down t k d (flatN (names t d))
  | _, 0, _, hk, _, _ => absurd hk (by omega)
  | 0, k + 1, d, _, hj, hn => by
    have h1 : a.num ≠ 1 := hn 0 (Nat.le_refl _)
    have hu : a.up = d := by have : upOf t.L a.num = d := hj; unfold upOf at this; rw [h.at_ ha] at this; exact this
    rw [down, List.mem_flatMap]
    have kd : Kid t d (a.name, a.num) a := ⟨ha, hu, h1, rfl, rfl, h.at_ ha, by rw [h.at_ ha]; exact h.kind a ha⟩
    refine ⟨(a.name, a.num), (mem_list h).2 ⟨a, ha, hu, h1, rfl⟩, List.mem_cons.2 (Or.inl ?_)⟩
    unfold nodeRow
    rw [kd.text_ h, h.at_ ha]
  | j + 1, k + 1, d, hk, hj, hn => by
    obtain ⟨c, hc⟩ : ∃ c, upN t.L (j + 1) a.num = c := ⟨_, rfl⟩
    have hc1 : c ≠ 1 := by rw [← hc]; exact hn (j + 1) (Nat.le_refl _)
    have hcd : upOf t.L c = d := by rw [← hc, ← up_last]; exact hj
    have ih := down_whole h ha j k c (by omega) hc (fun i hi => hn i (by omega))
    have hck : (nodeAt t.L c).kind ≠ 0 := by
      have hlow := h.low a ha
      have hk0 : (nodeAt t.L a.num).kind ≠ 0 := by rw [h.at_ ha]; exact h.kind a ha
      have hle : j + 1 ≤ height t.L a.num := by
        rcases Nat.lt_or_ge (height t.L a.num) (j + 1) with hlt | hge
        · exact absurd (height_spec hlow).1 (hn _ (by omega))
        · exact hge
      have := (climb h (j + 1) hk0 hle).2
      rw [hc] at this; exact this
    have hm := at_some hck
    have hu : (nodeAt t.L c).up = d := hcd
    have kd : Kid t d ((nodeAt t.L c).name, c) (nodeAt t.L c) := ⟨hm.1, hu, by rw [hm.2]; exact hc1, rfl, hm.2.symm, by rw [hm.2], by rw [hm.2]; exact hck⟩
    rw [down, List.mem_flatMap]
    refine ⟨((nodeAt t.L c).name, c), (mem_list h).2 ⟨_, hm.1, hu, by rw [hm.2]; exact hc1, by unfold entOf; rw [hm.2]⟩, List.mem_cons.2 (Or.inr ?_)⟩
    have := kd.flat_ h
    rw [hm.2] at this
    simp only
    rw [← this]; exact ih
/-- rows told from a node down rise -/
theorem row_parts {t : Tr} (h : Right t) (hN : Named t) {a : Nd} (ha : a ∈ t.L) : parts (nodeRow t a).path = names t a.num := names_parts h hN (by rw [h.at_ ha]; exact h.kind a ha)
theorem down_rise {t : Tr} (h : Right t) (hN : Named t) : ∀ (k : Nat) (d : Int), (down t k d (flatN (names t d))).Pairwise ahead
  | 0, _ => List.Pairwise.nil
  | k + 1, d => by
    have hin : ∀ e ∈ listDir t.L d, ∀ r, r ∈ (⟨flatN (names t d) ++ 47 :: e.1, (nodeAt t.L e.2).kind, (nodeAt t.L e.2).data⟩ :: down t k e.2 (flatN (names t d) ++ 47 :: e.1) : List Rw) → ∃ s, parts r.path = names t d ++ e.1 :: s := by
      intro e he r hr
      obtain ⟨a, ha⟩ := kid_of h he
      rcases List.mem_cons.1 hr with hr | hr
      · refine ⟨[], ?_⟩
        rw [hr]
        show parts (flatN (names t d) ++ 47 :: e.1) = _
        rw [ha.name, ← ha.text_ h]
        exact (row_parts h hN ha.mem).trans (ha.names_ h)
      · rw [ha.name, ha.num, ← ha.flat_ h] at hr
        obtain ⟨b, hb, -, -, hb3, s, -, hb4⟩ := down_sound h k a.num r hr
        refine ⟨s, ?_⟩
        rw [hb3, row_parts h hN hb, hb4, ha.names_ h, ha.name, List.append_assoc]; rfl
    rw [down, List.pairwise_flatMap]
    refine ⟨fun e he => ?_, ?_⟩
    · obtain ⟨a, ha⟩ := kid_of h he
      rw [List.pairwise_cons]
      constructor
      · intro r hr
        show lessP _ _ = true
        have e1 : parts (flatN (names t d) ++ 47 :: e.1) = names t a.num := by rw [ha.name, ← ha.text_ h]; exact row_parts h hN ha.mem
        rw [ha.name, ha.num, ← ha.flat_ h] at hr
        obtain ⟨b, hb, -, -, hb3, s, hs, hb4⟩ := down_sound h k a.num r hr
        have e2 : parts r.path = names t a.num ++ s := by rw [hb3, row_parts h hN hb, hb4]
        show lessP (parts (flatN (names t d) ++ 47 :: e.1)) (parts r.path) = true
        rw [e1, e2]; exact lessP_more hs
      · rw [ha.name, ha.num, ← ha.flat_ h]; exact down_rise h hN k a.num
    · refine List.Pairwise.imp_of_mem ?_ (list_rises t.L d)
      intro e f he hf hlt r hr s hs
      obtain ⟨s1, e1⟩ := hin e he r hr
      obtain ⟨s2, e2⟩ := hin f hf s hs
      show lessP _ _ = true
      rw [e1, e2]; exact lessP_head hlt
/-- how far down it may go -/
theorem under_fuel {t : Tr} (h : Right t) {a : Nd} (ha : a ∈ t.L) {d : Int} {j : Nat} (hj : upN t.L (j + 1) a.num = d) (hn : ∀ i, i ≤ j → upN t.L i a.num ≠ 1) : height t.L d + (j + 1) ≤ t.L.length := by
  have hk0 : (nodeAt t.L a.num).kind ≠ 0 := by rw [h.at_ ha]; exact h.kind a ha
  have hle : j + 1 ≤ height t.L a.num := by
    rcases Nat.lt_or_ge (height t.L a.num) (j + 1) with hlt | hge
    · exact absurd (height_spec (h.low a ha)).1 (hn _ (by omega))
    · exact hge
  have h1 := (climb h (j + 1) hk0 hle).1
  have h2 := height_le h hk0
  rw [hj] at h1
  omega
/-- BOTH ARE THE SAME -/
theorem down_rows {t : Tr} (h : Right t) (hN : Named t) (d : Int) (k : Nat) (hk : t.L.length ≤ height t.L d + k) : down t k d (flatN (names t d)) = rowsBelow t d := by
  have hmem : ∀ a ∈ nodesBelow t d, a ∈ t.L := fun a ha => (List.mem_filter.1 ha).1
  refine rise_ext ahead_irr ahead_trans (down_rise h hN k d) (sort_rise ?_) (fun r => ?_)
  · rw [List.pairwise_map]
    refine List.Pairwise.imp_of_mem ?_ (h.rise.filter _)
    intro a b ha hb hab e
    have ha' := hmem a ha
    have hb' := hmem b hb
    rw [row_parts h hN ha', row_parts h hN hb'] at e
    have := names_inj h hN (by rw [h.at_ ha']; exact h.kind a ha') (by rw [h.at_ hb']; exact h.kind b hb') e
    omega
  · unfold rowsBelow
    rw [mem_sort, List.mem_map]
    constructor
    · intro hr
      obtain ⟨a, ha, h1, hu, e, -⟩ := down_sound h k d r hr
      refine ⟨a, List.mem_filter.2 ⟨ha, ?_⟩, e.symm⟩
      unfold isUnd
      simp only [Bool.and_eq_true, decide_eq_true_eq]
      exact ⟨h1, hu⟩
    · rintro ⟨a, ha, rfl⟩
      obtain ⟨ha1, ha2⟩ := List.mem_filter.1 ha
      unfold isUnd at ha2
      simp only [Bool.and_eq_true, decide_eq_true_eq] at ha2
      obtain ⟨h1, j, hj, hn⟩ := ha2
      have := under_fuel h ha1 hj hn
      exact down_whole h ha1 j k d (by omega) hj hn
theorem below_len (t : Tr) (d : Int) : (rowsBelow t d).length ≤ t.L.length := by
  unfold rowsBelow sortR
  rw [fold_lenR, List.length_map]
  have : (nodesBelow t d).length ≤ t.L.length := List.length_filter_le _ _
  simp; omega
/-- what Rows tells -/
noncomputable def rowsAt (t : Tr) (p : Bytes) : List Rw × Int := if (find t p true).2 ≠ 0 then ([], (find t p true).2) else (rowsBelow t (find t p true).1, 0)
noncomputable def allOf (t : Tr) : List Rw := (rowsAt t [47]).1
/-- without the slash at its end -/
theorem names_flat_end {t : Tr} (h : Right t) (hN : Named t) {n : Int} (hk : (nodeAt t.L n).kind ≠ 0) (h1 : n ≠ 1) : ∃ l c, flatN (names t n) = l ++ [c] ∧ c ≠ 47 := by
  have hm := at_some hk
  have hc := check_part (hN _ hm.1 (by rw [hm.2]; exact h1))
  rw [flatN_next h hk h1]
  obtain ⟨l, c, e⟩ : ∃ l c, (nodeAt t.L n).name = l ++ [c] := by
    have := List.dropLast_concat_getLast hc.2.1
    exact ⟨_, _, this.symm⟩
  refine ⟨flatN (names t (nodeAt t.L n).up) ++ 47 :: l, c, by rw [e]; simp, fun e2 => hc.1 ?_⟩
  rw [e, e2]; simp
end Go.Proofs.YtpihldcchjoinaaGreatDoor.M12
