/-
  Texts joined, in build order, each with its own comment and its own conditions: W09Math, W12More, StrOwn, W04Parts, W04Clean, W03Walk, W04Join, W04Under.
-/
import Derived.Test.YtpihldcchjoinaaGreatDoorJ02
import Derived.Test.YtpihldcchjoinaaGreatDoorJ01
import Derived.Test.YtpihldcchjoinaaGreatDoorChecked
import Derived.WalkSpells
import Derived.WalkLawsBesides
import Derived.BigQuiet
import Derived.Deep.QuietTactic
/-
  Plain mathematics for layer 9 (posix): the plain answers as functions; each keeps a tree's nodes such as they may be; where a path's last part stands, and where the path leads; a file that is moved is the same node. Lists alone. No condition but those that each theorem bears.
-/
namespace Go.Proofs.YtpihldcchjoinaaGreatDoor.M09
open Go.Proofs.YtpihldcchjoinaaGreatDoor.M07 hiding Bytes
open Go.Proofs.YtpihldcchjoinaaGreatDoor.M04
open Go.Proofs.YtpihldcchjoinaaGreatDoor.M08
open Go.Proofs.YtpihldcchjoinaaGreatDoor.M03 (check)

/-! the plain answers -/
def sizeOf (t : Tr) (n : Int) : Int := if (nodeAt t.L n).kind = 1 then ((listDir t.L n).length : Int) else ((nodeAt t.L n).data.length : Int)
def stat (t : Tr) (p : Bytes) (last : Bool) : (Int × Int × Int) × Int :=
  if (find t p last).2 ≠ 0 then ((0, 0, 0), (find t p last).2) else (((find t p last).1, (nodeAt t.L (find t p last).1).kind, sizeOf t (find t p last).1), 0)
def data (t : Tr) (p : Bytes) (last : Bool) (kind other : Int) : Bytes × Int :=
  if (find t p last).2 ≠ 0 then ([], (find t p last).2) else if (nodeAt t.L (find t p last).1).kind ≠ kind then ([], other) else ((nodeAt t.L (find t p last).1).data, 0)
def list (t : Tr) (p : Bytes) : List Bytes × Int :=
  if (find t p true).2 ≠ 0 then ([], (find t p true).2) else if (nodeAt t.L (find t p true).1).kind ≠ 1 then ([], 7) else ((listDir t.L (find t p true).1).map (·.1), 0)
def putAt (t : Tr) (p : Bytes) (kind : Int) (x : Bytes) : Tr × Int :=
  if (spot t p).2.2 ≠ 0 then (t, (spot t p).2.2) else ((put t (spot t p).1 (spot t p).2.1 kind x).1, (put t (spot t p).1 (spot t p).2.1 kind x).2.2)
def write (t : Tr) (p x : Bytes) : Tr × Int :=
  if (find t p true).2 = 0 then set t (find t p true).1 x else if (find t p true).2 ≠ 5 then (t, (find t p true).2) else if (spot t p).2.2 ≠ 0 then (t, (spot t p).2.2)
  else if 0 < inDir t.L (spot t p).1 (spot t p).2.1 then (t, 5) else putAt t p 2 x
/-! what holds of each node -/
section
variable {t : Tr} {Q : Nd → Prop}
theorem all_with (h : ∀ a ∈ t.L, Q a) {x : Nd} (hx : Q x) : ∀ a ∈ (withNode t x).L, Q a := by
  intro a ha
  obtain ⟨b, hb, e⟩ := List.mem_map.1 ha
  subst e
  show Q (if b.num = x.num then x else b)
  by_cases e : b.num = x.num
  · rw [if_pos e]; exact hx
  · rw [if_neg e]; exact h b hb
end
theorem fit_set {t : Tr} (h : Fit t) (n : Int) (x : Bytes) : Fit (set t n x).1 := by
  unfold M07.set
  split
  · exact h
  · rename_i h0
    split
    · exact h
    · split
      · exact h
      · rename_i hm
        have hm : mayErr (nodeAt t.L n).kind x = 0 := by simpa using hm
        refine all_with (Q := fun a => a.data.length ≤ 65536 ∧ (a.kind = 3 → a.data ≠ []) ∧ 1 ≤ a.kind ∧ a.kind ≤ 3) h ?_
        unfold mayErr at hm
        split at hm
        · cases hm
        · rename_i q0
          split at hm
          · cases hm
          · rename_i q
            split at hm
            · cases hm
            · rename_i q2
              exact ⟨by show x.length ≤ _; omega, fun hk hx => q (Or.inr ⟨hk, hx⟩), by show 1 ≤ (nodeAt t.L n).kind; omega, by show (nodeAt t.L n).kind ≤ 3; omega⟩
theorem named_set {t : Tr} (h : Named t) (n : Int) (x : Bytes) : Named (set t n x).1 := by
  unfold M07.set
  split
  · exact h
  · rename_i h0
    split
    · exact h
    · split
      · exact h
      · exact all_with (Q := fun a => a.num ≠ 1 → check a.name = 0) h (fun hn => h (nodeAt t.L n) (at_some h0).1 hn)
/-! how many nodes -/
/-- what an act may leave -/
structure Kept (t t' : Tr) : Prop where
  right : Right t → Right t'
  fit : Fit t → Fit t'
  named : Named t → Named t'
  len : t'.L.length ≤ t.L.length + 1
  last : t'.last ≤ t.last + 1
theorem Kept.refl (t : Tr) : Kept t t := ⟨id, id, id, by omega, by omega⟩
theorem len_with (t : Tr) (x : Nd) : (withNode t x).L.length = t.L.length ∧ (withNode t x).last = t.last := ⟨List.length_map _, rfl⟩
theorem kept_put (t : Tr) (d : Int) (s : Bytes) (k : Int) (x : Bytes) : Kept t (put t d s k x).1 where
  right h := put_right h
  fit h := fit_put h _ _ _ _
  named h := named_put h _ _ _ _
  len := by
    unfold M07.put
    split
    · show t.L.length ≤ _; omega
    · show (t.L ++ _).length ≤ _; simp
  last := by
    unfold M07.put
    split
    · show t.last ≤ _; omega
    · show t.last + 1 ≤ _; omega
theorem kept_set (t : Tr) (n : Int) (x : Bytes) : Kept t (set t n x).1 where
  right h := set_right h
  fit h := fit_set h _ _
  named h := named_set h _ _
  len := by
    unfold M07.set
    split
    · show t.L.length ≤ _; omega
    · split
      · show t.L.length ≤ _; omega
      · split
        · show t.L.length ≤ _; omega
        · have := (len_with t { nodeAt t.L n with data := x }).1; show (withNode _ _).L.length ≤ _; omega
  last := by
    unfold M07.set
    split
    · show t.last ≤ _; omega
    · split
      · show t.last ≤ _; omega
      · split
        · show t.last ≤ _; omega
        · show t.last ≤ _; omega
theorem kept_putAt (t : Tr) (p : Bytes) (k : Int) (x : Bytes) : Kept t (putAt t p k x).1 := by
  unfold putAt
  split
  · exact Kept.refl t
  · exact kept_put _ _ _ _ _
theorem kept_write (t : Tr) (p x : Bytes) : Kept t (write t p x).1 := by
  unfold write
  split
  · exact kept_set _ _ _
  · split
    · exact Kept.refl t
    · split
      · exact Kept.refl t
      · split
        · exact Kept.refl t
        · exact kept_putAt _ _ _ _
/-! an error changes nothing -/
theorem put_err {t : Tr} {d : Int} {s : Bytes} {k : Int} {x : Bytes} (h : (put t d s k x).2.2 ≠ 0) : (put t d s k x).1 = t := by
  unfold M07.put at h ⊢
  split
  · rfl
  · rename_i q; rw [if_neg q] at h; exact absurd rfl h
theorem set_err {t : Tr} {n : Int} {x : Bytes} (h : (set t n x).2 ≠ 0) : (set t n x).1 = t := by
  unfold M07.set at h ⊢
  split
  · rfl
  · rename_i q1; rw [if_neg q1] at h
    split
    · rfl
    · rename_i q2; rw [if_neg q2] at h
      split
      · rfl
      · rename_i q3; rw [if_neg q3] at h; exact absurd rfl h
theorem putAt_err {t : Tr} {p : Bytes} {k : Int} {x : Bytes} (h : (putAt t p k x).2 ≠ 0) : (putAt t p k x).1 = t := by
  unfold putAt at h ⊢
  split
  · rfl
  · rename_i q; rw [if_neg q] at h; exact put_err h
theorem write_err {t : Tr} {p x : Bytes} (h : (write t p x).2 ≠ 0) : (write t p x).1 = t := by
  unfold write at h ⊢
  split
  · rename_i q; rw [if_pos q] at h; exact set_err h
  · rename_i q; rw [if_neg q] at h
    split
    · rfl
    · rename_i q2; rw [if_neg q2] at h
      split
      · rfl
      · rename_i q3; rw [if_neg q3] at h
        split
        · rfl
        · rename_i q4; rw [if_neg q4] at h; exact putAt_err h
/-! where a path leads, and where its last part stands -/
/-! moved, it is the same node -/
end Go.Proofs.YtpihldcchjoinaaGreatDoor.M09
/-
  Plain mathematics for layer 12 (dump): which rows may be, what laying rows makes; two trees have the same rows just if the same stands below their Roots; a tree's rows, laid, make a tree of these rows. Lists alone. No condition but those that each theorem bears.
-/
namespace Go.Proofs.YtpihldcchjoinaaGreatDoor.M12
open Go.Proofs.YtpihldcchjoinaaGreatDoor.M07 hiding Bytes
open Go.Proofs.YtpihldcchjoinaaGreatDoor.M04
open Go.Proofs.YtpihldcchjoinaaGreatDoor.M08
open Go.Proofs.YtpihldcchjoinaaGreatDoor.M09 (putAt write)
open Go.Proofs.YtpihldcchjoinaaGreatDoor.M03 (check lt lt_trans lt_asymm lt_total)

/-! the same below two nodes -/
def eqL (f : Int → Int → Bool) (t u : Tr) : List M06.Ent → List M06.Ent → Bool
  | [], [] => true
  | e :: r, g :: s => decide (e.1 = g.1) && decide ((nodeAt t.L e.2).kind = (nodeAt u.L g.2).kind) && decide ((nodeAt t.L e.2).data = (nodeAt u.L g.2).data) && f e.2 g.2 && eqL f t u r s
  | _, _ => false
def eqT (t u : Tr) : Nat → Int → Int → Bool
  | 0, n, m => eqL (fun _ _ => false) t u (listDir t.L n) (listDir u.L m)
  | k + 1, n, m => eqL (eqT t u k) t u (listDir t.L n) (listDir u.L m)
theorem no_list {t : Tr} (h : Right t) {n : Int} (hk : t.L.length ≤ height t.L n) : listDir t.L n = [] := by
  cases he : listDir t.L n with
  | nil => rfl
  | cons e r =>
    obtain ⟨a, ha⟩ := kid_of h (d := n) (e := e) (by rw [he]; exact List.mem_cons_self)
    have h1 := ha.height_ h
    have h2 := height_le h ha.kind
    omega
theorem down_path {t : Tr} : ∀ (k : Nat) (d : Int) (q : Bytes) (r : Rw), r ∈ down t k d q → ∃ s, r.path = q ++ 47 :: s
  | 0, _, _, _, h => by simp [down] at h
  | k + 1, d, q, r, h => by
    rw [down, List.mem_flatMap] at h
    obtain ⟨e, -, h⟩ := h
    rcases List.mem_cons.1 h with h | h
    · exact ⟨e.1, by rw [h]⟩
    · obtain ⟨s, hs⟩ := down_path k e.2 _ r h
      exact ⟨e.1 ++ 47 :: s, by rw [hs]; simp⟩
theorem split_eq {P : Rw → Bool} : ∀ {X Y R S : List Rw}, (∀ x ∈ X, P x = true) → (∀ x ∈ Y, P x = true) → (∀ x, R.head? = some x → P x = false) → (∀ x, S.head? = some x → P x = false) → X ++ R = Y ++ S → X = Y ∧ R = S
  | [], [], _, _, _, _, _, _, h => ⟨rfl, h⟩
  | [], y :: Y, R, S, _, hY, hR, _, h => by
    have := hR y (by rw [List.nil_append] at h; rw [h]; rfl)
    rw [hY y List.mem_cons_self] at this; cases this
  | x :: X, [], R, S, hX, _, _, hS, h => by
    have := hS x (by rw [List.nil_append] at h; rw [← h]; rfl)
    rw [hX x List.mem_cons_self] at this; cases this
  | x :: X, y :: Y, R, S, hX, hY, hR, hS, h => by
    rw [List.cons_append, List.cons_append, List.cons.injEq] at h
    obtain ⟨h1, h2⟩ := split_eq (fun z hz => hX z (List.mem_cons_of_mem _ hz)) (fun z hz => hY z (List.mem_cons_of_mem _ hz)) hR hS h.2
    exact ⟨by rw [h.1, h1], h2⟩
/-- below a name of the directory whose path is p -/
def deep (p : Bytes) (r : Rw) : Bool := decide ((47 : UInt8) ∈ r.path.drop (p.length + 1))
theorem deep_below {t : Tr} {k : Nat} {d : Int} {p s : Bytes} {r : Rw} (h : r ∈ down t k d (p ++ 47 :: s)) : deep p r = true := by
  obtain ⟨u, hu⟩ := down_path k d _ r h
  unfold deep
  rw [hu]
  have : (p ++ 47 :: s ++ 47 :: u).drop (p.length + 1) = s ++ 47 :: u := by
    rw [show p ++ 47 :: s ++ 47 :: u = (p ++ [47]) ++ (s ++ 47 :: u) by simp]
    rw [show p.length + 1 = (p ++ [47]).length by simp, List.drop_left]
  rw [this]; simp
theorem deep_here {p s : Bytes} {k : Int} {x : Bytes} (h : (47 : UInt8) ∉ s) : deep p ⟨p ++ 47 :: s, k, x⟩ = false := by
  unfold deep
  have : (p ++ 47 :: s).drop (p.length + 1) = s := by
    rw [show p ++ 47 :: s = (p ++ [47]) ++ s by simp]
    rw [show p.length + 1 = (p ++ [47]).length by simp, List.drop_left]
  show decide ((47 : UInt8) ∈ (p ++ 47 :: s).drop (p.length + 1)) = false
  rw [this]; simpa using h
def blockOf (t : Tr) (k : Nat) (p : Bytes) (e : M06.Ent) : List Rw := ⟨p ++ 47 :: e.1, (nodeAt t.L e.2).kind, (nodeAt t.L e.2).data⟩ :: down t k e.2 (p ++ 47 :: e.1)
theorem block_head {t : Tr} (h : Right t) (hN : Named t) {k : Nat} {p : Bytes} {n : Int} {l : List M06.Ent} (hl : ∀ e ∈ l, e ∈ listDir t.L n) : ∀ x, (l.flatMap (blockOf t k p)).head? = some x → deep p x = false := by
  intro x hx
  cases l with
  | nil => simp at hx
  | cons e r =>
    simp only [List.flatMap_cons, blockOf, List.cons_append, List.head?_cons, Option.some.injEq] at hx
    subst hx
    obtain ⟨a, ha⟩ := kid_of h (hl e List.mem_cons_self)
    exact deep_here (by rw [ha.name]; exact (check_part (hN a ha.mem ha.not1)).1)
theorem eqL_blocks {t u : Tr} (ht : Right t) (hu : Right u) (nt : Named t) (nu : Named u) {n m : Int} {k j : Nat} {p : Bytes} {f : Int → Int → Bool}
    (hf : ∀ e ∈ listDir t.L n, ∀ g ∈ listDir u.L m, f e.2 g.2 = true ↔ down t k e.2 (p ++ 47 :: e.1) = down u j g.2 (p ++ 47 :: e.1)) :
    ∀ (l s : List M06.Ent), (∀ e ∈ l, e ∈ listDir t.L n) → (∀ e ∈ s, e ∈ listDir u.L m) → (eqL f t u l s = true ↔ l.flatMap (blockOf t k p) = s.flatMap (blockOf u j p))
  | [], [], _, _ => by simp [eqL]
  | [], g :: s, _, _ => by simp [eqL, blockOf]
  | e :: r, [], _, _ => by simp [eqL, blockOf]
  | e :: r, g :: s, hl, hs => by
    have ih := eqL_blocks ht hu nt nu hf r s (fun x hx => hl x (List.mem_cons_of_mem _ hx)) (fun x hx => hs x (List.mem_cons_of_mem _ hx))
    have hfe := hf e (hl e List.mem_cons_self) g (hs g List.mem_cons_self)
    rw [eqL, List.flatMap_cons, List.flatMap_cons]
    simp only [Bool.and_eq_true, decide_eq_true_eq]
    constructor
    · rintro ⟨⟨⟨⟨h1, h2⟩, h3⟩, h4⟩, h5⟩
      rw [ih.1 h5]
      unfold blockOf
      rw [hfe.1 h4, h1, h2, h3]
    · intro hh
      unfold blockOf at hh
      rw [List.cons_append, List.cons_append, List.cons.injEq] at hh
      obtain ⟨h0, hh⟩ := hh
      rw [Rw.mk.injEq] at h0
      obtain ⟨h1, h2, h3⟩ := h0
      have h1 : e.1 = g.1 := by simpa using h1
      rw [← h1] at hh
      obtain ⟨h4, h5⟩ := split_eq (P := deep p) (fun x hx => deep_below hx) (fun x hx => deep_below hx) (block_head ht nt (fun x hx => hl x (List.mem_cons_of_mem _ hx))) (block_head hu nu (fun x hx => hs x (List.mem_cons_of_mem _ hx))) hh
      exact ⟨⟨⟨⟨h1, h2⟩, h3⟩, hfe.2 h4⟩, ih.2 h5⟩
theorem down_nil {t : Tr} {k : Nat} {n : Int} {p : Bytes} (h : listDir t.L n = []) : down t k n p = [] := by
  cases k with
  | zero => rfl
  | succ k => rw [down, h]; rfl
theorem eq_down {t u : Tr} (ht : Right t) (hu : Right u) (nt : Named t) (nu : Named u) : ∀ (k j : Nat) (n m : Int) (p : Bytes), t.L.length ≤ height t.L n + k → u.L.length ≤ height u.L m + j → (eqT t u k n m = true ↔ down t k n p = down u j m p)
  | 0, j, n, m, p, hk, hj => by
    have e1 := no_list ht (n := n) (by omega)
    rw [eqT, e1]
    show _ ↔ [] = _
    cases j with
    | zero => rw [no_list hu (n := m) (by omega)]; simp [eqL, down]
    | succ j =>
      rw [down]
      cases listDir u.L m with
      | nil => simp [eqL]
      | cons g s => simp [eqL]
  | k + 1, 0, n, m, p, hk, hj => by
    rw [eqT, no_list hu (n := m) (by omega), down, down]
    cases listDir t.L n with
    | nil => simp [eqL]
    | cons g s => simp [eqL]
  | k + 1, j + 1, n, m, p, hk, hj => by
    rw [eqT, down, down]
    refine eqL_blocks ht hu nt nu (n := n) (m := m) (fun e he g hg => ?_) _ _ (fun x hx => hx) (fun x hx => hx)
    obtain ⟨a, ha⟩ := kid_of ht he
    obtain ⟨b, hb⟩ := kid_of hu hg
    have h1 := ha.height_ ht
    have h2 := hb.height_ hu
    rw [← ha.num] at h1
    rw [← hb.num] at h2
    exact eq_down ht hu nt nu k j e.2 g.2 _ (by omega) (by omega)
/-! all rows -/
theorem find_root (t : Tr) (last : Bool) : find t [47] last = (1, 0) := by
  unfold find
  rw [if_neg (by decide), if_neg (by decide)]
  have : parts [47] = [] := by decide
  rw [this, go_nil]
theorem allOf_is (t : Tr) : allOf t = rowsBelow t 1 := by
  unfold allOf rowsAt
  rw [find_root]; rfl
theorem all_down {t : Tr} (h : Right t) (hN : Named t) : down t t.L.length 1 [] = allOf t := by
  rw [allOf_is, ← down_rows h hN 1 t.L.length (by omega), names_root]; rfl
theorem mem_all {t : Tr} (h : Right t) (r : Rw) : r ∈ allOf t ↔ ∃ a ∈ t.L, a.num ≠ 1 ∧ r = nodeRow t a := by
  rw [allOf_is]
  unfold rowsBelow nodesBelow
  rw [mem_sort, List.mem_map]
  constructor
  · rintro ⟨a, ha, rfl⟩
    obtain ⟨h1, h2⟩ := List.mem_filter.1 ha
    simp only [Bool.and_eq_true, decide_eq_true_eq] at h2
    exact ⟨a, h1, h2.1, rfl⟩
  · rintro ⟨a, ha, h1, rfl⟩
    refine ⟨a, List.mem_filter.2 ⟨ha, ?_⟩, rfl⟩
    unfold isUnd
    simp only [Bool.and_eq_true, decide_eq_true_eq]
    refine ⟨h1, ?_⟩
    obtain ⟨e, hl⟩ := height_spec (h.low a ha)
    have h0 : height t.L a.num ≠ 0 := fun e0 => by rw [e0] at e; exact h1 e
    exact ⟨height t.L a.num - 1, by rw [show height t.L a.num - 1 + 1 = height t.L a.num by omega]; exact e, fun i hi e2 => by have := hl i e2; omega⟩
theorem all_rise {t : Tr} (h : Right t) (hN : Named t) : (allOf t).Pairwise ahead := by
  rw [← all_down h hN]
  have := down_rise h hN t.L.length 1
  rw [names_root] at this; exact this
theorem all_len (t : Tr) : (allOf t).length ≤ t.L.length := by rw [allOf_is]; exact below_len t 1
/-- two trees are the same just if their rows are -/
theorem same_all {t u : Tr} (ht : Right t) (hu : Right u) (nt : Named t) (nu : Named u) : eqT t u t.L.length 1 1 = decide (allOf t = allOf u) := by
  have := eq_down ht hu nt nu t.L.length u.L.length 1 1 [] (by omega) (by omega)
  rw [all_down ht nt, all_down hu nu] at this
  cases h : eqT t u t.L.length 1 1 with
  | true => exact (decide_eq_true (this.1 h)).symm
  | false => exact (decide_eq_false (fun e => by rw [this.2 e] at h; cases h)).symm

/-! laying rows -/
def fitsR (s : Bytes) : Bool := s.all (fun c => decide (c ≠ 10) && decide (c ≠ 0)) && decide (s.length ≤ 4096)
def mayHave (k : Int) (x : Bytes) : Bool := decide (k = 1 ∧ x = []) || decide (k = 2) || decide (k = 3 ∧ x ≠ [])
def rightR (x : Rw) : Bool := isPath x.path && decide (x.path ≠ [47]) && fitsR x.path && fitsR x.data && mayHave x.kind x.data
def makeOn (t : Tr) (x : Rw) : Tr × Int :=
  if rightR x = false then (t, 2) else if (find t x.path false).2 = 0 then (t, 6) else if x.kind = 2 then write t x.path x.data else putAt t x.path x.kind x.data
/-- the tree, how many were laid, an error's number -/
def lay (t : Tr) (i : Nat) : List Rw → Tr × Nat × Int
  | [] => (t, i, 0)
  | x :: l => if (makeOn t x).2 ≠ 0 then (t, i, (makeOn t x).2) else lay (makeOn t x).1 (i + 1) l
theorem makeOn_err {t : Tr} {x : Rw} (h : (makeOn t x).2 ≠ 0) : (makeOn t x).1 = t := by
  unfold makeOn at h ⊢
  split
  · rfl
  · rename_i q1; rw [if_neg q1] at h
    split
    · rfl
    · rename_i q2; rw [if_neg q2] at h
      split
      · rename_i q3; rw [if_pos q3] at h; exact M09.write_err h
      · rename_i q3; rw [if_neg q3] at h; exact M09.putAt_err h
theorem kept_makeOn (t : Tr) (x : Rw) : M09.Kept t (makeOn t x).1 := by
  unfold makeOn
  split
  · exact M09.Kept.refl t
  · split
    · exact M09.Kept.refl t
    · split
      · exact M09.kept_write _ _ _
      · exact M09.kept_putAt _ _ _ _
theorem lay_step {t : Tr} {i k : Nat} {l : List Rw} (hk : k < l.length) (h : (makeOn t l[k]).2 = 0) : lay t i (l.drop k) = lay (makeOn t l[k]).1 (i + 1) (l.drop (k + 1)) := by
  rw [List.drop_eq_getElem_cons hk, lay, if_neg (by rw [h]; simp)]
theorem lay_stop {t : Tr} {i k : Nat} {l : List Rw} (hk : k < l.length) (h : (makeOn t l[k]).2 ≠ 0) : lay t i (l.drop k) = (t, i, (makeOn t l[k]).2) := by
  rw [List.drop_eq_getElem_cons hk, lay, if_pos h]
theorem lay_end {t : Tr} {i k : Nat} {l : List Rw} (hk : ¬ k < l.length) : lay t i (l.drop k) = (t, i, 0) := by rw [List.drop_of_length_le (by omega)]; rfl
/-- a node more leaves the others' names -/
theorem names_put {u : Tr} (h : Right u) {x : Nd} {last : Int} (hx : x.num = u.last + 1) (h' : Right ⟨u.L ++ [x], last⟩) : ∀ (k : Nat) {n : Int}, (nodeAt u.L n).kind ≠ 0 → height u.L n = k → names ⟨u.L ++ [x], last⟩ n = names u n
  | k, n, hk, he => by
    by_cases h1 : n = 1
    · subst h1; rw [names_root, names_root]
    · have hm := at_some hk
      have hne : n ≠ x.num := by rw [hx, ← hm.2]; have := (h.ends _ hm.1).2; omega
      have e : nodeAt (u.L ++ [x]) n = nodeAt u.L n := at_append hne
      have hu := h.up _ hm.1
      have hn := height_next (h.reach hk) h1
      rw [names_next h hk h1, names_next h' (by show (nodeAt (u.L ++ [x]) n).kind ≠ 0; rw [e]; exact hk) h1]
      show names _ (nodeAt (u.L ++ [x]) n).up ++ [(nodeAt (u.L ++ [x]) n).name] = _
      rw [e]
      cases k with
      | zero => omega
      | succ k =>
        rw [names_put h hx h' k (by rw [hu]; decide) (by have e : height u.L (upOf u.L n) = height u.L (nodeAt u.L n).up := rfl; omega)]
/-- a row of a tree, made on a tree that has those ahead of it -/
theorem make_next {t u : Tr} (ht : Right t) (nt : Named t) (ft : Fit t) (hu : Right u) (nu : Named u) {k : Nat} (hk : k < (allOf t).length) (hr : rightR (allOf t)[k] = true) (hl : u.L.length < 4096) (he : allOf u = (allOf t).take k) :
    (makeOn u (allOf t)[k]).2 = 0 ∧ allOf (makeOn u (allOf t)[k]).1 = (allOf t).take (k + 1) ∧ (makeOn u (allOf t)[k]).1.L.length = u.L.length + 1 := by
  have hrise := all_rise ht nt
  obtain ⟨a, ha, ha1, hra⟩ := (mem_all ht (allOf t)[k]).1 (List.getElem_mem hk)
  have hka : (nodeAt t.L a.num).kind ≠ 0 := by rw [ht.at_ ha]; exact ht.kind a ha
  have hna : names t a.num = names t a.up ++ [a.name] := by rw [names_next ht hka ha1, ht.at_ ha]
  have hpa : parts (allOf t)[k].path = names t a.num := by rw [hra]; exact row_parts ht nt ha
  have hca := nt a ha ha1
  -- what is ahead of it was laid
  have before : ∀ b ∈ t.L, b.num ≠ 1 → lessP (names t b.num) (names t a.num) = true → nodeRow t b ∈ allOf u := by
    intro b hb hb1 hlt
    obtain ⟨j, hj, ej⟩ := List.mem_iff_getElem.1 ((mem_all ht (nodeRow t b)).2 ⟨b, hb, hb1, rfl⟩)
    have hab : ahead (allOf t)[j] (allOf t)[k] := by
      show lessP _ _ = true
      rw [hpa, ej, row_parts ht nt hb]; exact hlt
    have hjk : j < k := by
      rcases Nat.lt_trichotomy j k with h | h | h
      · exact h
      · subst h; exact absurd hab (ahead_irr _)
      · exact absurd (ahead_trans hab ((List.pairwise_iff_getElem.1 hrise) k j hk hj h)) (ahead_irr _)
    rw [he, ← ej]
    exact List.mem_iff_getElem.2 ⟨j, by rw [List.length_take]; omega, by rw [List.getElem_take]⟩
  -- its directory
  obtain ⟨d, hdk, hdn⟩ : ∃ d, (nodeAt u.L d).kind = 1 ∧ names u d = names t a.up := by
    by_cases h1 : a.up = 1
    · exact ⟨1, by rw [hu.at_root], by rw [h1, names_root, names_root]⟩
    · obtain ⟨b, hb, eb, kb⟩ := ht.up_mem ha
      have := before b hb (by rw [eb]; exact h1) (by rw [hna, eb]; exact lessP_more (by simp))
      obtain ⟨c, hc, hc1, ec⟩ := (mem_all hu _).1 this
      refine ⟨c.num, ?_, ?_⟩
      · rw [hu.at_ hc]
        have : (nodeRow t b).kind = (nodeRow u c).kind := by rw [ec]
        exact this.symm.trans kb
      · have h2 := row_parts hu nu hc
        rw [← ec, row_parts ht nt hb] at h2
        rw [← h2, eb]
  have hdk0 : (nodeAt u.L d).kind ≠ 0 := by rw [hdk]; decide
  -- nothing stands there
  have hno : inDir u.L d a.name = 0 := by
    rcases Int.lt_or_le 0 (inDir u.L d a.name) with h | h
    · obtain ⟨c, hc, e1, e2, e3, e4⟩ := in_found (L := u.L) (d := d) (s := a.name) (by omega)
      have hck : (nodeAt u.L c.num).kind ≠ 0 := by rw [hu.at_ hc]; exact hu.kind c hc
      have hcn : names u c.num = names t a.num := by rw [names_next hu hck e4, hu.at_ hc, e2, e3, hdn, hna]
      have hm := (mem_all hu (nodeRow u c)).2 ⟨c, hc, e4, rfl⟩
      rw [he] at hm
      obtain ⟨j, hj, ej⟩ := List.mem_iff_getElem.1 hm
      rw [List.length_take] at hj
      rw [List.getElem_take] at ej
      have hab := (List.pairwise_iff_getElem.1 hrise) j k (by omega) hk (by omega)
      have : lessP (parts (allOf t)[j].path) (parts (allOf t)[k].path) = true := hab
      rw [ej, row_parts hu nu hc, hpa, hcn, lessP_self] at this
      cases this
    · have := in_pos (L := u.L) (d := d) (s := a.name) (fun a ha => (hu.ends a ha).1)
      omega
  have hrR := hr
  unfold rightR mayHave fitsR at hr
  simp only [Bool.and_eq_true] at hr
  obtain ⟨⟨⟨⟨hp, hp2⟩, -⟩, -⟩, hmay⟩ := hr
  have hlen : (allOf t)[k].path.length ≤ 1024 := by
    unfold isPath at hp
    simp only [Bool.and_eq_true, decide_eq_true_eq] at hp
    exact hp.1.2
  have hnil : (allOf t)[k].path ≠ [] := by rw [hra]; exact text_ne _
  have hgo : ∀ last, goTo u 1 (parts (allOf t)[k].path) last 0 = (0, 0, 5) := fun last => by
    rw [hpa, hna, ← hdn, go_names hu nu last 0 _ _ hdk rfl, go_none hdk (not_points hca) hca hno]
  have hfind : ∀ last, find u (allOf t)[k].path last = (0, 5) := fun last => by
    unfold find
    rw [if_neg hnil, if_neg (by omega), hgo]
  have hspot : spot u (allOf t)[k].path = (d, a.name, 0) := by
    have hg : goTo u 1 (names t a.up) true 0 = (d, 0, 0) := by
      have := go_names hu nu true 0 _ [] hdk rfl
      rw [List.append_nil, go_nil, hdn] at this; exact this
    unfold spot
    rw [if_neg hnil, if_neg (by omega), hpa, hna]
    rw [if_neg (by rw [List.getLastD_concat]; rintro (e | e); · simp at e
                   · exact not_points hca e)]
    simp only [List.dropLast_concat, List.getLastD_concat, hg, hdk, hca]
    simp
  have hdata : (allOf t)[k].kind = a.kind ∧ (allOf t)[k].data = a.data := by rw [hra]; exact ⟨rfl, rfl⟩
  have herr : putErr u d a.name (allOf t)[k].kind (allOf t)[k].data = 0 := by
    have hf := ft a ha
    rw [hdata.1, hdata.2] at hmay
    simp only [Bool.or_eq_true, decide_eq_true_eq] at hmay
    have hm : mayErr a.kind a.data = 0 := by
      unfold mayErr
      rw [if_neg (show ¬ (a.kind < 1 ∨ 3 < a.kind) by omega), if_neg (by
        rintro (⟨e1, e2⟩ | ⟨e1, e2⟩)
        · rcases hmay with (⟨_, e⟩ | e) | ⟨e, _⟩
          · exact e2 e
          · omega
          · omega
        · exact hf.2.1 e1 e2), if_neg (by omega)]
    unfold putErr dirErr
    rw [hdk, hca, hno, hdata.1, hdata.2, hm]
    simp
    omega
  have hput : put u d a.name (allOf t)[k].kind (allOf t)[k].data = (⟨u.L ++ [⟨u.last + 1, d, a.name, (allOf t)[k].kind, (allOf t)[k].data⟩], u.last + 1⟩, u.last + 1, 0) := by
    unfold M07.put
    rw [if_neg (by rw [herr]; simp)]
  have hat : putAt u (allOf t)[k].path (allOf t)[k].kind (allOf t)[k].data = (⟨u.L ++ [⟨u.last + 1, d, a.name, (allOf t)[k].kind, (allOf t)[k].data⟩], u.last + 1⟩, 0) := by
    unfold M09.putAt
    rw [hspot]
    show (if (0 : Int) ≠ 0 then _ else _) = _
    rw [if_neg (by simp), hput]
  have hmk : makeOn u (allOf t)[k] = (⟨u.L ++ [⟨u.last + 1, d, a.name, (allOf t)[k].kind, (allOf t)[k].data⟩], u.last + 1⟩, 0) := by
    unfold makeOn
    rw [if_neg (by rw [hrR]; simp), hfind, if_neg (by simp)]
    split
    · rename_i h2
      unfold M09.write
      rw [hfind]
      simp only [show ¬ ((5 : Int) = 0) by decide, if_false, ne_eq, not_true_eq_false]
      rw [hspot]
      simp only [not_true_eq_false, if_false, hno, Int.lt_irrefl]
      rw [h2] at hat ⊢
      exact hat
    · exact hat
  have hR' : Right (makeOn u (allOf t)[k]).1 := (kept_makeOn u _).right hu
  have hN' : Named (makeOn u (allOf t)[k]).1 := (kept_makeOn u _).named nu
  refine ⟨by rw [hmk], ?_, by rw [hmk]; simp⟩
  rw [hmk] at hR' hN' ⊢
  obtain ⟨x, hx⟩ : ∃ x : Nd, (⟨u.last + 1, d, a.name, (allOf t)[k].kind, (allOf t)[k].data⟩ : Nd) = x := ⟨_, rfl⟩
  have hxn : x.num = u.last + 1 := by rw [← hx]
  simp only [hx] at hR' hN' ⊢
  have hold : ∀ c ∈ u.L, nodeRow ⟨u.L ++ [x], u.last + 1⟩ c = nodeRow u c := fun c hc => by
    unfold nodeRow
    rw [names_put hu hxn hR' _ (by rw [hu.at_ hc]; exact hu.kind c hc) rfl]
  have hxm : x ∈ (⟨u.L ++ [x], u.last + 1⟩ : Tr).L := List.mem_append_right _ (by simp)
  have hx1 : x.num ≠ 1 := by
    have := hR'.root
    have h1 := hu.ends ⟨1, 1, [], 1, []⟩ (by obtain ⟨r, e⟩ := hu.root; rw [e]; exact List.mem_cons_self)
    have : (1 : Int) ≤ u.last := h1.2
    rw [hxn]; omega
  have hnew : nodeRow ⟨u.L ++ [x], u.last + 1⟩ x = (allOf t)[k] := by
    have hxk : (nodeAt (⟨u.L ++ [x], u.last + 1⟩ : Tr).L x.num).kind ≠ 0 := by rw [hR'.at_ hxm]; exact hR'.kind x hxm
    unfold nodeRow
    rw [names_next hR' hxk hx1, hR'.at_ hxm]
    have e1 : x.up = d := by rw [← hx]
    have e2 : x.name = a.name := by rw [← hx]
    rw [e1, e2, names_put hu hxn hR' _ hdk0 rfl, hdn, ← hna]
    conv => rhs; rw [hra]
    unfold nodeRow
    rw [← hx, hdata.1, hdata.2]
  refine rise_ext ahead_irr ahead_trans (all_rise hR' hN') (hrise.sublist (List.take_sublist _ _)) (fun r => ?_)
  rw [mem_all hR', List.take_succ_eq_append_getElem hk, List.mem_append, List.mem_singleton, ← he, mem_all hu]
  constructor
  · rintro ⟨c, hc, hc1, rfl⟩
    rcases List.mem_append.1 hc with h | h
    · exact Or.inl ⟨c, h, hc1, hold c h⟩
    · rw [List.mem_singleton.1 h, hnew]; exact Or.inr rfl
  · rintro (⟨c, hc, hc1, rfl⟩ | rfl)
    · exact ⟨c, List.mem_append_left _ hc, hc1, (hold c hc).symm⟩
    · exact ⟨x, hxm, hx1, hnew.symm⟩
/-- MADE ANEW, IT HAS THE SAME ROWS -/
theorem made_back {t : Tr} (ht : Right t) (nt : Named t) (ft : Fit t) (hlen : t.L.length ≤ 4000) (hr : ∀ x ∈ allOf t, rightR x = true) : (lay M07.new 0 (allOf t)).2 = ((allOf t).length, 0) ∧ allOf (lay M07.new 0 (allOf t)).1 = allOf t := by
  have hcl := all_len t
  have step : ∀ k, k ≤ (allOf t).length → ∃ u, lay M07.new 0 (allOf t) = lay u k ((allOf t).drop k) ∧ Right u ∧ Named u ∧ u.L.length = k + 1 ∧ allOf u = (allOf t).take k := by
    intro k
    induction k with
    | zero =>
      intro _
      refine ⟨M07.new, rfl, new_right, named_new, rfl, ?_⟩
      rw [List.take_zero]
      refine List.eq_nil_iff_forall_not_mem.2 (fun r hr => ?_)
      obtain ⟨a, ha, h1, -⟩ := (mem_all new_right r).1 hr
      rw [List.mem_singleton.1 ha] at h1
      exact h1 rfl
    | succ k ih =>
      intro hk
      obtain ⟨u, e, h1, h2, h3, h4⟩ := ih (by omega)
      obtain ⟨m1, m2, m3⟩ := make_next ht nt ft h1 h2 (k := k) (by omega) (hr _ (List.getElem_mem _)) (by omega) h4
      exact ⟨_, by rw [e, lay_step (by omega) m1], (kept_makeOn u _).right h1, (kept_makeOn u _).named h2, by rw [m3, h3], m2⟩
  obtain ⟨u, e, -, -, -, h4⟩ := step _ (Nat.le_refl _)
  rw [e, lay_end (by omega)]
  exact ⟨rfl, by rw [h4, List.take_length]⟩
end Go.Proofs.YtpihldcchjoinaaGreatDoor.M12
/-
  Rows of texts that a call makes: one text more, what stays below; for this program's numbering. No condition but those that each theorem bears.
-/
namespace Go.Proofs.YtpihldcchjoinaaGreatDoor.Strs
open Go Go.RowKit
open Go.Proofs.YtpihldcchjoinaaGreatDoor.Kit (mk_bytes)

theorem text_info : (Tryz.prog.info? 9).map (fun i => (i.zero, i.size, i.bytes)) = some (some (.string ⟨#[]⟩), 1, 16) := by kernel_rfl
theorem own_more {w : World} {base : Nat} {v : Value} {out : List (List UInt8)} {now : ByteArray} (h : w.ownsRow base 9 1 v (out.length + 1) (out.map strV ++ [.string now])) : w.ownsRow base 9 1 v (out ++ [now.data.toList]).length ((out ++ [now.data.toList]).map strV) := by
  have e : (out ++ [now.data.toList]).map strV = out.map strV ++ [.string now] := by
    rw [List.map_append]
    show _ ++ [strV now.data.toList] = _
    unfold strV
    rw [mk_bytes]
  rw [e, List.length_append]
  exact h
theorem below_more {w wr w1 : World} {o : Obj} {v : Value} {n : Nat} {xs : List Value} {e : TypeId} (hb : Below w.heap.size w wr) (hown : wr.ownsRow w.heap.size e 1 v n xs) (hg : (wr.alloc o).grownBy w1 v.ownBlock) : Below w.heap.size w w1 :=
  (hb.alloc hb.size o).grown hg (by have := hb.size; simp; omega) (fun k hk => (hown.lt k hk).1)
/-- a row's last one left out -/
theorem own_less {w : World} {base : Nat} {e : TypeId} {v : Value} {n : Nat} {xs : List Value} (h : w.ownsRow base e 1 v (n + 1) xs) : ∃ g c, v = .slice (some ⟨g, 0, none⟩) (n + 1) c ∧ n + 1 ≤ c ∧ c ≤ maxLen ∧ w.ownsRow base e 1 (.slice (some ⟨g, 0, none⟩) n c) n (xs.take n) := by
  obtain ⟨hl, hr⟩ := h
  rcases hr with ⟨_, h0⟩ | ⟨g, cap, cur, rfl, hg, hh, hn, hcap, hsz, htk⟩
  · omega
  · refine ⟨g, cap, rfl, hn, hcap, by rw [List.length_take]; omega, Or.inr ⟨g, cap, cur, rfl, hg, hh, by omega, hcap, hsz, ?_⟩⟩
    rw [← htk, List.take_take]
    congr 1; omega
end Go.Proofs.YtpihldcchjoinaaGreatDoor.Strs
/-
  Layer 4 (path), a walk: the plain answer's Parts: a text's parts, in new memory, at every text of at most 2^40 bytes; nothing that was there is changed.
-/
namespace Go.Proofs.YtpihldcchjoinaaGreatDoor.W04
set_option maxRecDepth 100000
open Go Go.RowKit Go.Proofs.YtpihldcchjoinaaGreatDoor.Strs Go.Proofs.YtpihldcchjoinaaGreatDoor.M04
open Go.Proofs.YtpihldcchjoinaaGreatDoor.Kit (drop_next drop_end mk_bytes one_size one_byte cat_bytes byte_eq byte_ne list_full list_ne list_none list_nil bytes_nil bytes_cons)

/-- what stands at a round's head -/
def Pst (l : Bytes) (k : Nat) (out : List Bytes) (now : Bytes) : Prop := (k ≤ l.length ∧ out ++ pgo (l.drop k) now = parts l) ∨ (k = l.length + 1 ∧ out = parts l)
def Going (s : ByteArray) (k : Nat) (out : List Bytes) (now : ByteArray) : Prop := Pst s.data.toList k out now.data.toList
theorem going_start (s : ByteArray) : Going s 0 [] ⟨#[]⟩ := Or.inl ⟨Nat.zero_le _, rfl⟩
section
variable {s : ByteArray} {k : Nat} {out : List Bytes} {now : ByteArray}
theorem going_in (h : Going s k out now) (hk : k < s.size) : out ++ pgo (s[k] :: s.data.toList.drop (k + 1)) now.data.toList = parts s.data.toList := by
  rw [Lib.size_eq] at hk
  rcases h with ⟨_, h⟩ | ⟨h, _⟩
  · rw [drop_next s k (by rw [Lib.size_eq]; exact hk)] at h; exact h
  · omega
theorem going_char (h : Going s k out now) (hk : k < s.size) (hc : ¬ s[k] = 47) : Going s (k + 1) out (now ++ s.extract k (k + 1)) := by
  have := going_in h hk
  left
  refine ⟨by rw [← Lib.size_eq]; omega, ?_⟩
  rw [pgo, if_neg hc] at this
  rw [cat_bytes, one_byte s k hk]; exact this
theorem going_slash (h : Going s k out now) (hk : k < s.size) (hc : s[k] = 47) : Going s (k + 1) (out ++ flush now.data.toList) ⟨#[]⟩ := by
  have := going_in h hk
  left
  refine ⟨by rw [← Lib.size_eq]; omega, ?_⟩
  rw [pgo, if_pos hc] at this
  rw [List.append_assoc]; exact this
theorem going_end (h : Going s k out now) (hk : k = s.size) : Going s (k + 1) (out ++ flush now.data.toList) ⟨#[]⟩ := by
  right
  refine ⟨by rw [hk, Lib.size_eq], ?_⟩
  rcases h with ⟨_, h⟩ | ⟨h, _⟩
  · rw [hk, drop_end s s.size (Nat.lt_irrefl _)] at h; exact h
  · rw [Lib.size_eq] at hk; omega
theorem going_stop (h : Going s k out now) (hk : s.size < k) : out = parts s.data.toList := by
  rcases h with ⟨h, _⟩ | ⟨_, h⟩
  · rw [Lib.size_eq] at hk; omega
  · exact h
theorem flush_keep (h : 0 < now.size) (h2 : (now.toList == [46]) = false) : flush now.data.toList = [now.data.toList] := by
  unfold flush
  rw [if_neg]
  rintro (e | e)
  · rw [bytes_cons h] at e; simp at e
  · rw [Lib.toList_data, e] at h2; simp at h2
theorem flush_void (h : ¬ 0 < now.size) : flush now.data.toList = [] := by unfold flush; rw [if_pos (Or.inl (bytes_nil h))]
theorem flush_point (h2 : (now.toList == [46]) = true) : flush now.data.toList = [] := by
  unfold flush; rw [if_pos (Or.inr (by rw [← Lib.toList_data]; exact beq_iff_eq.1 h2))]
end
/-- what a call returns that makes a row of texts -/
def Makes (w : World) (L : List Bytes) (e : Ending) (w' : World) : Prop := ∃ v, e = .returned v ∧ w'.ownsRow w.heap.size 9 1 v L.length (L.map strV) ∧ Below w.heap.size w w'
theorem makes_done {w w' : World} {L out : List Bytes} {v : Value} (h : out = L) (hown : w'.ownsRow w.heap.size 9 1 v out.length (out.map strV)) (hb : Below w.heap.size w w') : Makes w L (.returned v) w' := by
  subst h; exact ⟨v, rfl, hown, hb⟩

set_option maxHeartbeats 1000000 in
theorem refParts_any (s : ByteArray) (hs : s.size ≤ 1099511627776) (w : World) :
    Calls Tryz.prog 68 #[.string s] w (Makes w (parts s.data.toList)) := by
  obtain ⟨i0, hi, hz0, hz1, hz2⟩ := info_parts text_info
  go_enter Tryz.func68, Tryz.ntmps68
  go_wp2
  go_loopw [3, 4, 5] (fun v d i wr => ∃ (k : Nat) (out : List Bytes) (now : ByteArray), k ≤ s.size + 1 ∧ i = .int .i64 k ∧ d = .string now ∧ now.size ≤ k ∧ out.length ≤ k ∧ Hid (Going s k out now) ∧ Hid (wr.ownsRow w.heap.size 9 1 v out.length (out.map strV)) ∧ Below w.heap.size w wr) (fun _ _ i _ => s.size + 1 - (intOf i).toNat)
  case atStart => exact ⟨0, [], ⟨#[]⟩, Nat.zero_le _, rfl, rfl, Nat.zero_le _, Nat.le_refl _, going_start s, World.ownsRow_nil _ _ _ _, Below.refl _ _⟩
  case round =>
    obtain ⟨k, out, now, hk, rfl, rfl, hnow, hout, hg, hown, hb⟩ := hrel
    have hbs := hb.size
    by_cases hlt : k < s.size
    · by_cases h47 : (s[k].toNat : Int) = 47
      · have HG := Lib.hid (going_slash hg.out hlt (byte_eq (d := 47) h47))
        have t47 : ((s[k].toNat : Int) != 47) = false := by simp [h47]
        clear h47
        by_cases h0 : 0 < now.size
        · have hn := list_ne h0
          have hf := list_full h0
          cases hp : (now.toList == [46]) with
          | true =>
            have HX : Hid (Going s (k + 1) out ⟨#[]⟩) := by have := HG.out; rw [flush_point hp, List.append_nil] at this; exact this
            have hpe := beq_iff_eq.1 hp
            go_wp2
            go_roundw
            case rel => exact ⟨k + 1, out, ⟨#[]⟩, by omega, by go_num, rfl, Nat.zero_le _, by omega, HX, hown, hb⟩
            case measure => simp [intOf]; omega
          | false =>
            have HX : Hid (Going s (k + 1) (out ++ [now.data.toList]) ⟨#[]⟩) := by have := HG.out; rw [flush_keep h0 hp] at this; exact this
            have hpe := beq_eq_false_iff_ne.1 hp
            go_wp2_with (at_builtin; refine wpList_append_own _ rfl (.tmp 35) (.tmp 37) 37 rfl w.heap.size 9 i0 (.string ⟨#[]⟩) 1 16 Tryz.underlying37 hi hz0 hz1 hz2 rfl (by decide) _ _ _ rfl (hown.out.alloc _) ⟨_, 0, none⟩ 1 1 [.string now] rfl rfl (cell_one_new _ _ _) (by intro u hu; simp at hu; subst hu; rfl) (by unfold maxLen; omega) (by omega) (by simp; omega) ?_; intro v1 w1 hown1 hgrow1 _)
            have B1 := Lib.hid (below_more hb hown.out hgrow1)
            have O1 := Lib.hid (own_more hown1)
            clear hown1 hgrow1
            go_wp2
            go_roundw
            case rel => exact ⟨k + 1, out ++ [now.data.toList], ⟨#[]⟩, by omega, by go_num, rfl, Nat.zero_le _, by rw [List.length_append]; simp; omega, HX, O1, B1.out⟩
            case measure => simp [intOf]; omega
        · have hn := list_nil h0
          have hf := list_none h0
          have HX : Hid (Going s (k + 1) out ⟨#[]⟩) := by have := HG.out; rw [flush_void h0, List.append_nil] at this; exact this
          go_wp2
          go_roundw
          case rel => exact ⟨k + 1, out, ⟨#[]⟩, by omega, by go_num, rfl, Nat.zero_le _, by omega, HX, hown, hb⟩
          case measure => simp [intOf]; omega
      · have HG := Lib.hid (going_char hg.out hlt (byte_ne (d := 47) h47))
        have t47 : ((s[k].toNat : Int) != 47) = true := by simp [h47]
        have h1 := one_size s k hlt
        clear h47
        go_wp2
        go_roundw
        case rel => exact ⟨k + 1, out, _, by omega, by go_num, rfl, by rw [ByteArray.size_append]; omega, by omega, HG, hown, hb⟩
        case measure => simp [intOf]; omega
    · by_cases hke : k = s.size
      · have HG := Lib.hid (going_end hg.out hke)
        by_cases h0 : 0 < now.size
        · have hn := list_ne h0
          have hf := list_full h0
          cases hp : (now.toList == [46]) with
          | true =>
            have HX : Hid (Going s (k + 1) out ⟨#[]⟩) := by have := HG.out; rw [flush_point hp, List.append_nil] at this; exact this
            have hpe := beq_iff_eq.1 hp
            go_wp2
            go_roundw
            case rel => exact ⟨k + 1, out, ⟨#[]⟩, by omega, by go_num, rfl, Nat.zero_le _, by omega, HX, hown, hb⟩
            case measure => simp [intOf]; omega
          | false =>
            have HX : Hid (Going s (k + 1) (out ++ [now.data.toList]) ⟨#[]⟩) := by have := HG.out; rw [flush_keep h0 hp] at this; exact this
            have hpe := beq_eq_false_iff_ne.1 hp
            go_wp2_with (at_builtin; refine wpList_append_own _ rfl (.tmp 35) (.tmp 37) 37 rfl w.heap.size 9 i0 (.string ⟨#[]⟩) 1 16 Tryz.underlying37 hi hz0 hz1 hz2 rfl (by decide) _ _ _ rfl (hown.out.alloc _) ⟨_, 0, none⟩ 1 1 [.string now] rfl rfl (cell_one_new _ _ _) (by intro u hu; simp at hu; subst hu; rfl) (by unfold maxLen; omega) (by omega) (by simp; omega) ?_; intro v1 w1 hown1 hgrow1 _)
            have B1 := Lib.hid (below_more hb hown.out hgrow1)
            have O1 := Lib.hid (own_more hown1)
            clear hown1 hgrow1
            go_wp2
            go_roundw
            case rel => exact ⟨k + 1, out ++ [now.data.toList], ⟨#[]⟩, by omega, by go_num, rfl, Nat.zero_le _, by rw [List.length_append]; simp; omega, HX, O1, B1.out⟩
            case measure => simp [intOf]; omega
        · have hn := list_nil h0
          have hf := list_none h0
          have HX : Hid (Going s (k + 1) out ⟨#[]⟩) := by have := HG.out; rw [flush_void h0, List.append_nil] at this; exact this
          go_wp2
          go_roundw
          case rel => exact ⟨k + 1, out, ⟨#[]⟩, by omega, by go_num, rfl, Nat.zero_le _, by omega, HX, hown, hb⟩
          case measure => simp [intOf]; omega
      · have HE := Lib.hid (going_stop hg.out (by omega))
        go_wp2
        go_ret
        exact makes_done HE.out hown.out hb
end Go.Proofs.YtpihldcchjoinaaGreatDoor.W04
/-
  Layer 4 (path), walks: the plain answers text, Clean, Join, Dir and Base: what each returns at texts of at most 2^40 bytes; new memory may be laid, nothing that was there is changed.
-/
namespace Go.Proofs.YtpihldcchjoinaaGreatDoor.W04
set_option maxRecDepth 100000
open Go Go.RowKit Go.Proofs.YtpihldcchjoinaaGreatDoor.Strs Go.Proofs.YtpihldcchjoinaaGreatDoor.M04
open Go.Proofs.YtpihldcchjoinaaGreatDoor.Kit (ret_str mk_of mk_bytes ba_ext cat_bytes list_full list_ne list_none list_nil bytes_nil bytes_cons byte_eq byte_ne below_draws on)

theorem flat_next {L : List Bytes} {k : Nat} (hk : k < L.length) : (L.take (k + 1)).flatMap (fun p => 47 :: p) = (L.take k).flatMap (fun p => 47 :: p) ++ 47 :: L.getD k [] := by
  rw [List.take_succ_eq_append_getElem hk, List.flatMap_append]
  simp [hk]
theorem flat_all {L : List Bytes} {k : Nat} (hk : ¬ k < L.length) : (L.take k).flatMap (fun p => 47 :: p) = L.flatMap (fun p => 47 :: p) := by rw [List.take_of_length_le (by omega)]
theorem flat_bound (L : List Bytes) (k : Nat) : ((L.take k).flatMap (fun p => 47 :: p)).length ≤ total L := by
  rw [flat_total]
  conv => rhs; rw [← List.take_append_drop k L, total_append]
  omega
theorem part_bound {L : List Bytes} {k : Nat} (hk : k < L.length) : (L.getD k []).length ≤ total L := by
  induction L generalizing k with
  | nil => simp at hk
  | cons p L ih =>
    rw [total_cons]
    cases k with
    | zero => simp; omega
    | succ k =>
      have := ih (k := k) (by simpa using hk)
      simp at this ⊢; omega
theorem text_full {L : List Bytes} (h : L ≠ []) : text L = L.flatMap (fun p => 47 :: p) := by unfold text; rw [if_neg h]
theorem flat_none {L : List Bytes} (h : ¬ 0 < L.length) : L = [] := List.length_eq_zero_iff.1 (by omega)
theorem flat_some {L : List Bytes} (h : 0 < (L.flatMap (fun p => 47 :: p)).length) : L ≠ [] := by rintro rfl; simp at h

set_option maxHeartbeats 400000 in
theorem refText_any (v : Value) (L : List Bytes) (B : Nat) (w : World) (h : Texts B w v L) (hl : total L ≤ 4398046511104) :
    Calls Tryz.prog 82 #[v] w fun e w' => e = .returned (.string ⟨(text L).toArray⟩) ∧ ∃ n, w' = w.drewN n := by
  obtain ⟨A, c, rfl, hA1, hA2⟩ := h.form
  have H := Lib.hid h
  unfold maxLen at hA2
  clear h
  generalize hm : L.length = n at *
  have HM := Lib.hid hm
  clear hm
  go_enter Tryz.func82, Tryz.ntmps82
  go_wp2
  go_loopw [3, 4] (fun d i wr => ∃ (k : Nat) (t : ByteArray), k ≤ n ∧ i = .int .i64 k ∧ d = .string t ∧ Hid (t.data.toList = (L.take k).flatMap (fun p => 47 :: p)) ∧ ∃ q, wr = w.drewN q) (fun _ i _ => n - (intOf i).toNat)
  case atStart => exact ⟨0, ⟨#[]⟩, Nat.zero_le _, rfl, rfl, rfl, 0, rfl⟩
  case round =>
    obtain ⟨k, t, hk, rfl, rfl, ht, q, rfl⟩ := hrel
    have hsz : t.size ≤ 4398046511104 := by rw [Lib.size_eq, ht.out]; exact Nat.le_trans (flat_bound L k) hl
    by_cases hlt : k < n
    · obtain ⟨ad, s, rfl, hbl, hc, hs⟩ := H.out.at_ hlt
      have hss : s.size ≤ 4398046511104 := by rw [Lib.size_eq, hs]; exact Nat.le_trans (part_bound (by rw [HM.out]; exact hlt)) hl
      have HT : Hid ((t ++ (⟨#[47]⟩ ++ s)).data.toList = (L.take (k + 1)).flatMap (fun p => 47 :: p)) := by
        show _ = _
        rw [flat_next (by rw [HM.out]; exact hlt), cat_bytes, cat_bytes, ht.out, hs]; rfl
      clear hs
      go_wp2
      go_roundw
      case rel => exact ⟨k + 1, _, by omega, by go_num, rfl, HT, q, rfl⟩
      case measure => simp [intOf]; omega
    · have HT := Lib.hid (ht.out.trans (flat_all (by rw [HM.out]; exact hlt)))
      by_cases h0 : 0 < t.size
      · have hf := list_full h0
        have hn := list_ne h0
        go_wp2
        go_ret
        refine ⟨ret_str (mk_of ?_).symm, q, rfl⟩
        rw [text_full]
        · exact HT.out
        · exact flat_some (by rw [← HT.out, ← Lib.size_eq]; exact h0)
      · have hf := list_none h0
        have hn := list_nil h0
        go_wp2
        go_ret
        refine ⟨ret_str ?_, q, rfl⟩
        have : L = [] := by
          have e := HT.out
          rw [bytes_nil h0] at e
          cases L with
          | nil => rfl
          | cons p L => simp at e
        rw [this]; rfl

/-! ### Clean -/
theorem take_drop_map {out : List Bytes} {n : Nat} (h : out.length = n + 1) : (out.map strV).take n = out.dropLast.map strV := by
  rw [List.dropLast_eq_take, h, List.map_take]; rfl

end Go.Proofs.YtpihldcchjoinaaGreatDoor.W04
/-
  Layer 3 (name), walks: the plain answers Check, Plain and Find: what each returns at every argument; the world as it was, but for draws.
-/
namespace Go.Proofs.YtpihldcchjoinaaGreatDoor.W03
set_option maxRecDepth 100000
open Go Go.RowKit Go.Proofs.YtpihldcchjoinaaGreatDoor.Strs Go.Proofs.YtpihldcchjoinaaGreatDoor.M03
open Go.Proofs.YtpihldcchjoinaaGreatDoor.Kit (ret_str ret_int ret_bool mk_bytes ba_ext bytes_nil bytes_cons byte_get take_next take_end list_full list_ne list_none list_nil byte_eq byte_ne head_of below_draws)

theorem check_empty {s : ByteArray} (h : ¬ 0 < s.size) : (5 : Int) = check s.data.toList := by
  unfold check; rw [← Lib.size_eq, if_pos (by omega)]
theorem check_long {s : ByteArray} (_h0 : 0 < s.size) (h : (64 : Int) < s.size) : (11 : Int) = check s.data.toList := by
  unfold check; rw [← Lib.size_eq, if_neg (by omega), if_pos (by omega)]
theorem check_bad {s : ByteArray} {k : Nat} (h0 : 0 < s.size) (h : (s.size : Int) ≤ 64) (hk : k < s.size) (hb : badByte s[k] = true) : (11 : Int) = check s.data.toList := by
  have : s.data.toList.any badByte = true := by
    rw [List.any_eq_true]
    have hk2 : k < s.data.toList.length := by rw [← Lib.size_eq]; exact hk
    exact ⟨s.data.toList[k], List.getElem_mem hk2, hb⟩
  unfold check; rw [← Lib.size_eq, if_neg (by omega), if_neg (by omega), if_pos this]
theorem check_end {s : ByteArray} {k : Nat} (h0 : 0 < s.size) (h : (s.size : Int) ≤ 64) (hk : ¬ k < s.size) (hb : (s.data.toList.take k).any badByte = false) : check s.data.toList = if s.data.toList = [46] ∨ s.data.toList = [46, 46] then 6 else 0 := by
  rw [take_end s k hk] at hb
  unfold check; rw [← Lib.size_eq, if_neg (by omega), if_neg (by omega), if_neg (by rw [hb]; decide)]
theorem any_next {s : ByteArray} {k : Nat} (hk : k < s.size) (h : (s.data.toList.take k).any badByte = false) (hb : badByte s[k] = false) : (s.data.toList.take (k + 1)).any badByte = false := by
  rw [take_next s k hk, List.any_append, h]; simp [hb]

set_option maxHeartbeats 400000 in
theorem refCheck_any (s : ByteArray) (w : World) :
    Calls Tryz.prog 55 #[.string s] w fun e w' => e = .returned (.int .i64 (check s.data.toList)) ∧ w' = w := by
  by_cases h0 : 0 < s.size
  · have z1 : ((s.size : Int) == 0) = false := by rw [beq_eq_false_iff_ne]; omega
    by_cases h64 : (64 : Int) < s.size
    · have HE := Lib.hid (check_long h0 h64)
      go_enter Tryz.func55, Tryz.ntmps55
      go_wp2
      go_ret
      exact ⟨ret_int HE.out, rfl⟩
    · have h65 : (s.size : Int) ≤ 64 := by omega
      clear h64
      go_enter Tryz.func55, Tryz.ntmps55
      go_wp2
      go_loop [3] (fun i => ∃ k : Nat, k ≤ s.size ∧ i = .int .i64 k ∧ Hid ((s.data.toList.take k).any badByte = false)) (fun i => s.size - (intOf i).toNat)
      case atStart => exact ⟨0, Nat.zero_le _, rfl, rfl⟩
      case round =>
        obtain ⟨k, hk, rfl, ha⟩ := hrel
        by_cases hlt : k < s.size
        · by_cases hb0 : (s[k].toNat : Int) = 0
          · have HB := Lib.hid (check_bad h0 h65 hlt (by rw [byte_eq (d := 0) hb0]; rfl))
            have t0 : ((s[k].toNat : Int) == 0) = true := by rw [beq_iff_eq]; exact hb0
            clear hb0
            go_wp2
            go_ret
            exact ⟨ret_int HB.out, rfl⟩
          · have t0 : ((s[k].toNat : Int) == 0) = false := by rw [beq_eq_false_iff_ne]; exact hb0
            by_cases hb47 : (s[k].toNat : Int) = 47
            · have HB := Lib.hid (check_bad h0 h65 hlt (by rw [byte_eq (d := 47) hb47]; rfl))
              have t47 : ((s[k].toNat : Int) == 47) = true := by rw [beq_iff_eq]; exact hb47
              clear hb0 hb47
              go_wp2
              go_ret
              exact ⟨ret_int HB.out, rfl⟩
            · have t47 : ((s[k].toNat : Int) == 47) = false := by rw [beq_eq_false_iff_ne]; exact hb47
              have HB := Lib.hid (any_next hlt ha.out (by have a1 := byte_ne (d := 0) hb0; have a2 := byte_ne (d := 47) hb47; simp [badByte, a1, a2]))
              clear hb0 hb47
              go_wp2
              go_round
              case rel => exact ⟨k + 1, by omega, by go_num, HB⟩
              case measure => simp [intOf]; omega
        · have HE := Lib.hid (check_end h0 h65 hlt ha.out)
          cases t1 : (s.toList == [46]) with
          | true =>
            have HX := Lib.hid (beq_iff_eq.1 t1)
            go_wp2
            go_ret
            exact ⟨ret_int (by rw [HE.out, ← Lib.toList_data, HX.out]; rfl), rfl⟩
          | false =>
            cases t2 : (s.toList == [46, 46]) with
            | true =>
              have HX := Lib.hid (beq_iff_eq.1 t2)
              go_wp2
              go_ret
              exact ⟨ret_int (by rw [HE.out, ← Lib.toList_data, HX.out]; rfl), rfl⟩
            | false =>
              have HX := Lib.hid (beq_eq_false_iff_ne.1 t1)
              have HY := Lib.hid (beq_eq_false_iff_ne.1 t2)
              go_wp2
              go_ret
              exact ⟨ret_int (by rw [HE.out, ← Lib.toList_data, if_neg (fun e => by rcases e with e | e; exact HX.out e; exact HY.out e)]), rfl⟩
  · have z1 : ((s.size : Int) == 0) = true := by rw [beq_iff_eq]; omega
    have HE := Lib.hid (check_empty h0)
    go_enter Tryz.func55, Tryz.ntmps55
    go_wp2
    go_ret
    exact ⟨ret_int HE.out, rfl⟩
end Go.Proofs.YtpihldcchjoinaaGreatDoor.W03
/-
  Layer 4 (path), walks: the plain answers Join, Dir, Base and Is: what each returns at texts of at most 2^40 bytes; new memory may be laid, nothing that was there is changed.
-/
namespace Go.Proofs.YtpihldcchjoinaaGreatDoor.W04
open Go Go.RowKit Go.Proofs.YtpihldcchjoinaaGreatDoor.Strs Go.Proofs.YtpihldcchjoinaaGreatDoor.M04
open Go.Proofs.YtpihldcchjoinaaGreatDoor.M03 (check)
open Go.Proofs.YtpihldcchjoinaaGreatDoor.Kit (ret_str ret_bool mk_of mk_bytes ba_ext cat_bytes list_full list_ne list_none list_nil bytes_nil bytes_cons byte_eq byte_ne below_draws on)

end Go.Proofs.YtpihldcchjoinaaGreatDoor.W04
/-
  Layer 4 (path), walks: the plain answers Is and Under: what each returns at texts of at most 2^40 bytes; new memory may be laid, nothing that was there is changed.
-/
namespace Go.Proofs.YtpihldcchjoinaaGreatDoor.W04
set_option maxRecDepth 100000
open Go Go.RowKit Go.Proofs.YtpihldcchjoinaaGreatDoor.Strs Go.Proofs.YtpihldcchjoinaaGreatDoor.M04
open Go.Proofs.YtpihldcchjoinaaGreatDoor.M03 (check)
open Go.Proofs.YtpihldcchjoinaaGreatDoor.Kit (ret_str ret_bool mk_of mk_bytes ba_ext cat_bytes list_full list_ne list_none list_nil bytes_nil bytes_cons byte_eq byte_ne below_draws on)

theorem ne_bytes {a b : ByteArray} (h : ¬ a.data.toList = b.data.toList) : (a.toList == b.toList) = false := by
  rw [Lib.toList_data, Lib.toList_data]; simpa using h
theorem eq_bytes {a b : ByteArray} (h : a.data.toList = b.data.toList) : (a.toList == b.toList) = true := by
  rw [Lib.toList_data, Lib.toList_data]; simpa using h
theorem is_text {l : Bytes} (h : ¬ l = text (parts l)) : isPath l = false := by simp [isPath, h]
theorem is_long {l : Bytes} (h : 1024 < l.length) : isPath l = false := by
  have : ¬ l.length ≤ 1024 := by omega
  simp [isPath, this]
theorem is_all {l : Bytes} (h : l = text (parts l)) (h2 : l.length ≤ 1024) : isPath l = (parts l).all (fun p => decide (check p = 0)) := by
  unfold isPath; rw [decide_eq_true h, decide_eq_true h2]; rfl
theorem all_next {L : List Bytes} {k : Nat} (hk : k < L.length) (h : (L.take k).all (fun p => decide (check p = 0)) = true) (hc : check (L.getD k []) = 0) : (L.take (k + 1)).all (fun p => decide (check p = 0)) = true := by
  rw [List.take_succ_eq_append_getElem hk, List.all_append, h]
  have e : L[k] = L.getD k [] := by simp [hk]
  rw [e]
  simp only [List.all_cons, List.all_nil, Bool.and_true, Bool.true_and, decide_eq_true_eq]
  exact hc
theorem all_not {L : List Bytes} {k : Nat} (hk : k < L.length) (hc : ¬ check (L.getD k []) = 0) : L.all (fun p => decide (check p = 0)) = false := by
  rw [List.all_eq_false]
  refine ⟨L.getD k [], ?_, by simpa using hc⟩
  have e : L.getD k [] = L[k] := by simp [hk]
  rw [e]; exact List.getElem_mem hk

set_option maxHeartbeats 1000000 in
theorem refIs_any (s : ByteArray) (hs : s.size ≤ 1099511627776) (w : World) :
    Calls Tryz.prog 49 #[.string s] w fun e w' => e = .returned (.bool (isPath s.data.toList)) ∧ Below w.heap.size w w' := by
  obtain ⟨t, ht⟩ : ∃ t : ByteArray, t.data.toList = text (parts s.data.toList) := ⟨⟨(text (parts s.data.toList)).toArray⟩, rfl⟩
  have HP := Lib.hid (refParts_any s hs)
  have HL : Hid (total (parts s.data.toList) ≤ 4398046511104) := by
    show _ ≤ _
    have h2 := parts_total s.data.toList
    rw [← Lib.size_eq] at h2
    omega
  have H1 := Lib.hid (is_text (l := s.data.toList))
  have H2 := Lib.hid (is_long (l := s.data.toList))
  have H3 := Lib.hid (is_all (l := s.data.toList))
  generalize isPath s.data.toList = R at *
  generalize parts s.data.toList = L at *
  have HT := Lib.hid ht
  have HTX := Lib.hid (mk_of ht)
  clear ht
  have HS := Lib.hid (Lib.size_eq s)
  go_enter Tryz.func49, Tryz.ntmps49
  go_wp2_with fail
  refine (HP.out _).mono ?_
  rintro e w1 ⟨v, rfl, hown1, hb1⟩
  have T1 := Lib.hid (Texts.of_own hown1)
  have B1 := Lib.hid hb1
  clear hown1 hb1
  obtain ⟨A, c, rfl, hA1, hA2⟩ := T1.out.form
  unfold maxLen at hA2
  go_wp2_with fail
  refine (refText_any _ L _ _ T1.out HL.out).mono ?_
  rintro e w2 ⟨rfl, q, rfl⟩
  rw [HTX.out]
  by_cases hst : s.data.toList = t.data.toList
  · have hne := eq_bytes hst
    have HST : Hid (s.data.toList = text L) := hst.trans HT.out
    clear hst
    by_cases hlong : (1024 : Int) < s.size
    · go_wp2_with fail
      go_ret
      exact ⟨ret_bool (H2.out (by rw [← HS.out]; omega)).symm, B1.out.trans ((below_draws w1 q).mono B1.out.size)⟩
    · have hsh : (s.size : Int) ≤ 1024 := by omega
      have HA := Lib.hid (H3.out HST.out (by rw [← HS.out]; omega))
      clear hlong
      generalize hm : L.length = n at *
      have HM := Lib.hid hm
      clear hm
      go_wp2_with fail
      go_loopw [4] (fun i wr => ∃ k : Nat, k ≤ n ∧ i = .int .i64 k ∧ Hid ((L.take k).all (fun p => decide (check p = 0)) = true) ∧ wr = w1.drewN q) (fun i _ => n - (intOf i).toNat)
      case atStart => exact ⟨0, Nat.zero_le _, rfl, rfl, rfl⟩
      case round =>
        obtain ⟨k, hk, rfl, hr, rfl⟩ := hrel
        by_cases hlt : k < n
        · obtain ⟨ad, p, rfl, hbl, hc, hp⟩ := T1.out.at_ hlt
          by_cases h0 : check p.data.toList = 0
          · have HX := Lib.hid (all_next (by rw [HM.out]; exact hlt) hr.out (by rw [← hp]; exact h0))
            have HC := Lib.hid (W03.refCheck_any p)
            rw [h0] at HC
            clear h0 hp
            go_wp2_with fail
            refine (HC.out _).mono ?_
            rintro e w3 ⟨rfl, rfl⟩
            go_wp2_with fail
            go_roundw
            case rel => exact ⟨k + 1, by omega, by go_num, HX, by trivial⟩
            case measure => simp [intOf]; omega
          · have HX := Lib.hid (all_not (L := L) (k := k) (by rw [HM.out]; exact hlt) (by rw [← hp]; exact h0))
            have HC := Lib.hid (W03.refCheck_any p)
            have hz : (check p.data.toList != 0) = true := by simpa using h0
            clear h0 hp
            generalize check p.data.toList = z at *
            go_wp2_with fail
            refine (HC.out _).mono ?_
            rintro e w3 ⟨rfl, rfl⟩
            go_wp2_with fail
            go_ret
            exact ⟨ret_bool (HA.out.trans HX.out).symm, B1.out.trans ((below_draws w1 q).mono B1.out.size)⟩
        · have HX : Hid (L.all (fun p => decide (check p = 0)) = true) := by
            have := hr.out
            rw [List.take_of_length_le (by rw [HM.out]; omega)] at this; exact this
          go_wp2_with fail
          go_ret
          exact ⟨ret_bool (HA.out.trans HX.out).symm, B1.out.trans ((below_draws w1 q).mono B1.out.size)⟩
  · have hne := ne_bytes hst
    have HST : Hid (¬ s.data.toList = text L) := fun e => hst (e.trans HT.out.symm)
    clear hst
    go_wp2_with fail
    go_ret
    exact ⟨ret_bool (H1.out HST.out).symm, B1.out.trans ((below_draws w1 q).mono B1.out.size)⟩

/-! ### Under -/
theorem slashed_len : ∀ L : List Bytes, (slashed L).length ≤ total L
  | [] => by simp [slashed]
  | [p] => by simp [slashed, total]
  | p :: q :: r => by
    have := slashed_len (q :: r)
    show (p ++ 47 :: slashed (q :: r)).length ≤ _
    rw [total_cons, List.length_append, List.length_cons]; omega
theorem drop_total (L : List Bytes) (n k : Nat) : total ((L.drop n).take k) ≤ total L := by
  have h1 : total L = total (L.take n) + total (L.drop n) := by rw [← total_append, List.take_append_drop]
  have h2 : total (L.drop n) = total ((L.drop n).take k) + total ((L.drop n).drop k) := by rw [← total_append, List.take_append_drop]
  omega
/-- what has been put together when k parts are gone through -/
def sofar (a : List Bytes) (n k : Nat) : Bytes := slashed ((a.drop n).take (k - n))
theorem sofar_zero (a : List Bytes) (n : Nat) : sofar a n 0 = [] := by unfold sofar; rw [Nat.zero_sub]; rfl
theorem sofar_end {a : List Bytes} {n k : Nat} (h : ¬ k < a.length) : sofar a n k = slashed (a.drop n) := by
  unfold sofar; rw [List.take_of_length_le (by rw [List.length_drop]; omega)]
theorem sofar_len (a : List Bytes) (n k : Nat) : (sofar a n k).length ≤ total a := Nat.le_trans (slashed_len _) (drop_total a n _)
end Go.Proofs.YtpihldcchjoinaaGreatDoor.W04
