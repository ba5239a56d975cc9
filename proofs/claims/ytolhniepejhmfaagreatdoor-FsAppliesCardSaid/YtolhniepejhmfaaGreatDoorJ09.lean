/-
  Texts joined, in build order, each with its own comment and its own conditions: W09Math, W09Abs, W04Parts, StrCut.
-/
import Derived.Test.YtolhniepejhmfaaGreatDoorJ08
import Derived.Test.YtolhniepejhmfaaGreatDoorJ07
import Derived.Test.YtolhniepejhmfaaGreatDoorJ02
import Derived.WalkSpells
import Derived.WalkLawsBesides
import Derived.BigQuiet
import Derived.Test.YtolhniepejhmfaaGreatDoorJ01
/-
  Plain mathematics for layer 9 (posix): the plain answers as functions; each keeps a tree's nodes such as they may be; where a path's last part stands, and where the path leads; a file that is moved is the same node. Lists alone. No condition but those that each theorem bears.
-/
namespace Go.Proofs.YtolhniepejhmfaaGreatDoor.M09
open Go.Proofs.YtolhniepejhmfaaGreatDoor.M07 hiding Bytes
open Go.Proofs.YtolhniepejhmfaaGreatDoor.M04
open Go.Proofs.YtolhniepejhmfaaGreatDoor.M08
open Go.Proofs.YtolhniepejhmfaaGreatDoor.M03 (check)

/-! the plain answers -/
def sizeOf (t : Tr) (n : Int) : Int := if (nodeAt t.L n).kind = 1 then ((listDir t.L n).length : Int) else ((nodeAt t.L n).data.length : Int)
def stat (t : Tr) (p : Bytes) (last : Bool) : (Int × Int × Int) × Int :=
  if (find t p last).2 ≠ 0 then ((0, 0, 0), (find t p last).2) else (((find t p last).1, (nodeAt t.L (find t p last).1).kind, sizeOf t (find t p last).1), 0)
def data (t : Tr) (p : Bytes) (last : Bool) (kind other : Int) : Bytes × Int :=
  if (find t p last).2 ≠ 0 then ([], (find t p last).2) else if (nodeAt t.L (find t p last).1).kind ≠ kind then ([], other) else ((nodeAt t.L (find t p last).1).data, 0)
def list (t : Tr) (p : Bytes) : List Bytes × Int :=
  if (find t p true).2 ≠ 0 then ([], (find t p true).2) else if (nodeAt t.L (find t p true).1).kind ≠ 1 then ([], 7) else ((listDir t.L (find t p true).1).map (·.1), 0)
def putAt (t : Tr) (p : Bytes) (kind : Int) (x : Bytes) : Tr × Int :=
  if (spot t p).2.2 ≠ 0 then (t, (spot t p).2.2) else ((put t (spot t p).1 (spot t p).2.1 kind x).1, (put t (spot t p).1 (spot t p).2.1 kind x).2.2)
def cutKind (t : Tr) (p : Bytes) : Int := (nodeAt t.L (inDir t.L (spot t p).1 (spot t p).2.1)).kind
def cutAt (t : Tr) (p : Bytes) (dir : Bool) : Tr × Int :=
  if (spot t p).2.2 ≠ 0 then (t, (spot t p).2.2) else if cutKind t p = 0 then (t, 5) else if dir = true ∧ cutKind t p ≠ 1 then (t, 7) else if dir = false ∧ cutKind t p = 1 then (t, 8) else cut t (spot t p).1 (spot t p).2.1
noncomputable def rename (t : Tr) (a b : Bytes) : Tr × Int :=
  if (spot t a).2.2 ≠ 0 then (t, (spot t a).2.2) else if (spot t b).2.2 ≠ 0 then (t, (spot t b).2.2) else M07.move t (spot t a).1 (spot t a).2.1 (spot t b).1 (spot t b).2.1
def write (t : Tr) (p x : Bytes) : Tr × Int :=
  if (find t p true).2 = 0 then set t (find t p true).1 x else if (find t p true).2 ≠ 5 then (t, (find t p true).2) else if (spot t p).2.2 ≠ 0 then (t, (spot t p).2.2)
  else if 0 < inDir t.L (spot t p).1 (spot t p).2.1 then (t, 5) else putAt t p 2 x
noncomputable def doTask (t : Tr) (kind : Int) (p x : Bytes) : Tr × Int :=
  if kind = 1 then putAt t p 1 [] else if kind = 2 then cutAt t p true else if kind = 3 then putAt t p 3 x else if kind = 4 then cutAt t p false else if kind = 5 then rename t p x else if kind = 6 then write t p x else (t, 2)

/-! what holds of each node -/
section
variable {t : Tr} {Q : Nd → Prop}
theorem all_with (h : ∀ a ∈ t.L, Q a) {x : Nd} (hx : Q x) : ∀ a ∈ (withNode t x).L, Q a := by
  intro a ha
  obtain ⟨b, hb, e⟩ := List.mem_map.1 ha
  subst e
  show Q (if b.num = x.num then x else b)
  by_cases e : b.num = x.num
  · rw [if_pos e]; exact hx
  · rw [if_neg e]; exact h b hb
theorem all_filter (h : ∀ a ∈ t.L, Q a) (n last : Int) : ∀ a ∈ (⟨t.L.filter (fun a => decide (a.num ≠ n)), last⟩ : Tr).L, Q a := fun a ha => h a (List.mem_filter.1 ha).1
theorem all_cut (h : ∀ a ∈ t.L, Q a) (d : Int) (s : Bytes) : ∀ a ∈ (cut t d s).1.L, Q a := by
  unfold cut
  split
  · exact h
  · split
    · exact h
    · split
      · exact h
      · exact all_filter h _ _
theorem all_moveOn (h : ∀ a ∈ t.L, Q a) {n : Int} (dst : Int) (nw : Bytes) (hq : Q { nodeAt t.L n with up := dst, name := nw }) : ∀ a ∈ (moveOn t n dst nw).1.L, Q a := by
  unfold moveOn
  split
  · exact h
  · split
    · split
      · exact h
      · split
        · exact h
        · split
          · exact h
          · exact all_with (all_cut h _ _) hq
    · exact all_with h hq
theorem all_move (h : ∀ a ∈ t.L, Q a) (src : Int) (s : Bytes) (dst : Int) (nw : Bytes) (hq : ∀ a ∈ t.L, check nw = 0 → Q { a with up := dst, name := nw }) : ∀ a ∈ (M07.move t src s dst nw).1.L, Q a := by
  unfold M07.move
  split
  · exact h
  · rename_i he
    obtain ⟨_, _, hn, hc⟩ := move_checked (by simpa using he)
    obtain ⟨x, hx, e, -⟩ := in_found hn
    split
    · exact h
    · by_cases hk : (nodeAt t.L (inDir t.L src s)).kind = 0
      · have : ∀ L : List Nd, (∃ a ∈ L, a.num = inDir t.L src s) → nodeAt L (inDir t.L src s) ∈ L := by
          intro L
          induction L with
          | nil => rintro ⟨a, ha, -⟩; cases ha
          | cons b r ih =>
            rintro ⟨a, ha, e⟩
            show (if b.num = _ then b else nodeAt r _) ∈ _
            by_cases eb : b.num = inDir t.L src s
            · rw [if_pos eb]; exact List.mem_cons_self
            · rw [if_neg eb]
              rcases List.mem_cons.1 ha with rfl | ha
              · exact absurd e eb
              · exact List.mem_cons_of_mem _ (ih ⟨a, ha, e⟩)
        exact all_moveOn h _ _ (hq _ (this t.L ⟨x, hx, e⟩) hc)
      · exact all_moveOn h _ _ (hq _ (at_some hk).1 hc)
end
theorem fit_set {t : Tr} (h : Fit t) (n : Int) (x : Bytes) : Fit (set t n x).1 := by
  unfold M07.set
  split
  · exact h
  · rename_i h0
    split
    · exact h
    · split
      · exact h
      · rename_i hm
        have hm : mayErr (nodeAt t.L n).kind x = 0 := by simpa using hm
        refine all_with (Q := fun a => a.data.length ≤ 65536 ∧ (a.kind = 3 → a.data ≠ []) ∧ 1 ≤ a.kind ∧ a.kind ≤ 3) h ?_
        unfold mayErr at hm
        split at hm
        · cases hm
        · rename_i q0
          split at hm
          · cases hm
          · rename_i q
            split at hm
            · cases hm
            · rename_i q2
              exact ⟨by show x.length ≤ _; omega, fun hk hx => q (Or.inr ⟨hk, hx⟩), by show 1 ≤ (nodeAt t.L n).kind; omega, by show (nodeAt t.L n).kind ≤ 3; omega⟩
theorem fit_cut {t : Tr} (h : Fit t) (d : Int) (s : Bytes) : Fit (cut t d s).1 := all_cut (Q := fun a => a.data.length ≤ 65536 ∧ (a.kind = 3 → a.data ≠ []) ∧ 1 ≤ a.kind ∧ a.kind ≤ 3) h d s
theorem fit_move {t : Tr} (h : Fit t) (src : Int) (s : Bytes) (dst : Int) (nw : Bytes) : Fit (M07.move t src s dst nw).1 := all_move (Q := fun a => a.data.length ≤ 65536 ∧ (a.kind = 3 → a.data ≠ []) ∧ 1 ≤ a.kind ∧ a.kind ≤ 3) h src s dst nw (fun a ha _ => h a ha)
theorem named_set {t : Tr} (h : Named t) (n : Int) (x : Bytes) : Named (set t n x).1 := by
  unfold M07.set
  split
  · exact h
  · rename_i h0
    split
    · exact h
    · split
      · exact h
      · exact all_with (Q := fun a => a.num ≠ 1 → check a.name = 0) h (fun hn => h (nodeAt t.L n) (at_some h0).1 hn)
theorem named_cut {t : Tr} (h : Named t) (d : Int) (s : Bytes) : Named (cut t d s).1 := all_cut (Q := fun a => a.num ≠ 1 → check a.name = 0) h d s
theorem named_move {t : Tr} (h : Named t) (src : Int) (s : Bytes) (dst : Int) (nw : Bytes) : Named (M07.move t src s dst nw).1 := all_move (Q := fun a => a.num ≠ 1 → check a.name = 0) h src s dst nw (fun _ _ hc _ => hc)

/-! how many nodes -/
/-- what an act may leave -/
structure Kept (t t' : Tr) : Prop where
  right : Right t → Right t'
  fit : Fit t → Fit t'
  named : Named t → Named t'
  len : t'.L.length ≤ t.L.length + 1
  last : t'.last ≤ t.last + 1
theorem Kept.refl (t : Tr) : Kept t t := ⟨id, id, id, by omega, by omega⟩
theorem len_cut (t : Tr) (d : Int) (s : Bytes) : (cut t d s).1.L.length ≤ t.L.length ∧ (cut t d s).1.last = t.last := by
  unfold cut
  split
  · exact ⟨Nat.le_refl _, rfl⟩
  · split
    · exact ⟨Nat.le_refl _, rfl⟩
    · split
      · exact ⟨Nat.le_refl _, rfl⟩
      · exact ⟨List.length_filter_le _ _, rfl⟩
theorem len_with (t : Tr) (x : Nd) : (withNode t x).L.length = t.L.length ∧ (withNode t x).last = t.last := ⟨List.length_map _, rfl⟩
theorem len_moveOn (t : Tr) (n dst : Int) (nw : Bytes) : (moveOn t n dst nw).1.L.length ≤ t.L.length ∧ (moveOn t n dst nw).1.last = t.last := by
  unfold moveOn
  split
  · exact ⟨Nat.le_refl _, rfl⟩
  · split
    · split
      · exact ⟨Nat.le_refl _, rfl⟩
      · split
        · exact ⟨Nat.le_refl _, rfl⟩
        · split
          · exact ⟨Nat.le_refl _, rfl⟩
          · have h1 := len_cut t dst nw
            have h2 := len_with (cut t dst nw).1 { nodeAt t.L n with up := dst, name := nw }
            exact ⟨Nat.le_trans (Nat.le_of_eq h2.1) h1.1, h2.2.trans h1.2⟩
    · have h2 := len_with t { nodeAt t.L n with up := dst, name := nw }
      exact ⟨Nat.le_of_eq h2.1, h2.2⟩
theorem kept_put (t : Tr) (d : Int) (s : Bytes) (k : Int) (x : Bytes) : Kept t (put t d s k x).1 where
  right h := put_right h
  fit h := fit_put h _ _ _ _
  named h := named_put h _ _ _ _
  len := by
    unfold M07.put
    split
    · show t.L.length ≤ _; omega
    · show (t.L ++ _).length ≤ _; simp
  last := by
    unfold M07.put
    split
    · show t.last ≤ _; omega
    · show t.last + 1 ≤ _; omega
theorem kept_set (t : Tr) (n : Int) (x : Bytes) : Kept t (set t n x).1 where
  right h := set_right h
  fit h := fit_set h _ _
  named h := named_set h _ _
  len := by
    unfold M07.set
    split
    · show t.L.length ≤ _; omega
    · split
      · show t.L.length ≤ _; omega
      · split
        · show t.L.length ≤ _; omega
        · have := (len_with t { nodeAt t.L n with data := x }).1; show (withNode _ _).L.length ≤ _; omega
  last := by
    unfold M07.set
    split
    · show t.last ≤ _; omega
    · split
      · show t.last ≤ _; omega
      · split
        · show t.last ≤ _; omega
        · show t.last ≤ _; omega
theorem kept_cut (t : Tr) (d : Int) (s : Bytes) : Kept t (cut t d s).1 := ⟨fun h => cut_right h, fun h => fit_cut h _ _, fun h => named_cut h _ _, by have := (len_cut t d s).1; omega, by have := (len_cut t d s).2; omega⟩
theorem kept_move (t : Tr) (src : Int) (s : Bytes) (dst : Int) (nw : Bytes) : Kept t (M07.move t src s dst nw).1 where
  right h := move_right h
  fit h := fit_move h _ _ _ _
  named h := named_move h _ _ _ _
  len := by
    unfold M07.move
    split
    · show t.L.length ≤ _; omega
    · split
      · show t.L.length ≤ _; omega
      · have := (len_moveOn t (inDir t.L src s) dst nw).1; omega
  last := by
    unfold M07.move
    split
    · show t.last ≤ _; omega
    · split
      · show t.last ≤ _; omega
      · have := (len_moveOn t (inDir t.L src s) dst nw).2; omega
theorem kept_putAt (t : Tr) (p : Bytes) (k : Int) (x : Bytes) : Kept t (putAt t p k x).1 := by
  unfold putAt
  split
  · exact Kept.refl t
  · exact kept_put _ _ _ _ _
theorem kept_cutAt (t : Tr) (p : Bytes) (dir : Bool) : Kept t (cutAt t p dir).1 := by
  unfold cutAt
  split
  · exact Kept.refl t
  · split
    · exact Kept.refl t
    · split
      · exact Kept.refl t
      · split
        · exact Kept.refl t
        · exact kept_cut _ _ _
theorem kept_rename (t : Tr) (a b : Bytes) : Kept t (rename t a b).1 := by
  unfold rename
  split
  · exact Kept.refl t
  · split
    · exact Kept.refl t
    · exact kept_move _ _ _ _ _
theorem kept_write (t : Tr) (p x : Bytes) : Kept t (write t p x).1 := by
  unfold write
  split
  · exact kept_set _ _ _
  · split
    · exact Kept.refl t
    · split
      · exact Kept.refl t
      · split
        · exact Kept.refl t
        · exact kept_putAt _ _ _ _
theorem kept_do (t : Tr) (kind : Int) (p x : Bytes) : Kept t (doTask t kind p x).1 := by
  unfold doTask
  split
  · exact kept_putAt _ _ _ _
  · split
    · exact kept_cutAt _ _ _
    · split
      · exact kept_putAt _ _ _ _
      · split
        · exact kept_cutAt _ _ _
        · split
          · exact kept_rename _ _ _
          · split
            · exact kept_write _ _ _
            · exact Kept.refl t
/-! an error changes nothing -/
theorem put_err {t : Tr} {d : Int} {s : Bytes} {k : Int} {x : Bytes} (h : (put t d s k x).2.2 ≠ 0) : (put t d s k x).1 = t := by
  unfold M07.put at h ⊢
  split
  · rfl
  · rename_i q; rw [if_neg q] at h; exact absurd rfl h
theorem set_err {t : Tr} {n : Int} {x : Bytes} (h : (set t n x).2 ≠ 0) : (set t n x).1 = t := by
  unfold M07.set at h ⊢
  split
  · rfl
  · rename_i q1; rw [if_neg q1] at h
    split
    · rfl
    · rename_i q2; rw [if_neg q2] at h
      split
      · rfl
      · rename_i q3; rw [if_neg q3] at h; exact absurd rfl h
theorem cut_err {t : Tr} {d : Int} {s : Bytes} (h : (cut t d s).2 ≠ 0) : (cut t d s).1 = t := by
  unfold cut at h ⊢
  split
  · rfl
  · rename_i q1; rw [if_neg q1] at h
    split
    · rfl
    · rename_i q2; rw [if_neg q2] at h
      split
      · rfl
      · rename_i q3; rw [if_neg q3] at h; exact absurd rfl h
theorem moveOn_err {t : Tr} {n dst : Int} {nw : Bytes} (h : (moveOn t n dst nw).2 ≠ 0) : (moveOn t n dst nw).1 = t := by
  unfold moveOn at h ⊢
  split
  · rfl
  · rename_i q1; rw [if_neg q1] at h
    split
    · rename_i q2; rw [if_pos q2] at h
      split
      · rfl
      · rename_i q3; rw [if_neg q3] at h
        split
        · rfl
        · rename_i q4; rw [if_neg q4] at h
          split
          · rfl
          · rename_i q5; rw [if_neg q5] at h; exact absurd rfl h
    · rename_i q2; rw [if_neg q2] at h; exact absurd rfl h
theorem move_err {t : Tr} {src dst : Int} {s nw : Bytes} (h : (M07.move t src s dst nw).2 ≠ 0) : (M07.move t src s dst nw).1 = t := by
  unfold M07.move at h ⊢
  split
  · rfl
  · rename_i q1; rw [if_neg q1] at h
    split
    · rfl
    · rename_i q2; rw [if_neg q2] at h; exact moveOn_err h
theorem putAt_err {t : Tr} {p : Bytes} {k : Int} {x : Bytes} (h : (putAt t p k x).2 ≠ 0) : (putAt t p k x).1 = t := by
  unfold putAt at h ⊢
  split
  · rfl
  · rename_i q; rw [if_neg q] at h; exact put_err h
theorem cutAt_err {t : Tr} {p : Bytes} {dir : Bool} (h : (cutAt t p dir).2 ≠ 0) : (cutAt t p dir).1 = t := by
  unfold cutAt at h ⊢
  split
  · rfl
  · rename_i q1; rw [if_neg q1] at h
    split
    · rfl
    · rename_i q2; rw [if_neg q2] at h
      split
      · rfl
      · rename_i q3; rw [if_neg q3] at h
        split
        · rfl
        · rename_i q4; rw [if_neg q4] at h; exact cut_err h
theorem rename_err {t : Tr} {a b : Bytes} (h : (rename t a b).2 ≠ 0) : (rename t a b).1 = t := by
  unfold rename at h ⊢
  split
  · rfl
  · rename_i q1; rw [if_neg q1] at h
    split
    · rfl
    · rename_i q2; rw [if_neg q2] at h; exact move_err h
theorem write_err {t : Tr} {p x : Bytes} (h : (write t p x).2 ≠ 0) : (write t p x).1 = t := by
  unfold write at h ⊢
  split
  · rename_i q; rw [if_pos q] at h; exact set_err h
  · rename_i q; rw [if_neg q] at h
    split
    · rfl
    · rename_i q2; rw [if_neg q2] at h
      split
      · rfl
      · rename_i q3; rw [if_neg q3] at h
        split
        · rfl
        · rename_i q4; rw [if_neg q4] at h; exact putAt_err h
theorem do_err {t : Tr} {kind : Int} {p x : Bytes} (h : (doTask t kind p x).2 ≠ 0) : (doTask t kind p x).1 = t := by
  unfold doTask at h ⊢
  split
  · rename_i q; rw [if_pos q] at h; exact putAt_err h
  · rename_i q; rw [if_neg q] at h
    split
    · rename_i q; rw [if_pos q] at h; exact cutAt_err h
    · rename_i q; rw [if_neg q] at h
      split
      · rename_i q; rw [if_pos q] at h; exact putAt_err h
      · rename_i q; rw [if_neg q] at h
        split
        · rename_i q; rw [if_pos q] at h; exact cutAt_err h
        · rename_i q; rw [if_neg q] at h
          split
          · rename_i q; rw [if_pos q] at h; exact rename_err h
          · rename_i q; rw [if_neg q] at h
            split
            · rename_i q; rw [if_pos q] at h; exact write_err h
            · rfl

/-! where a path leads, and where its last part stands -/
theorem go_snoc {t : Tr} (p : Bytes) : ∀ (k : Nat) (l : List Bytes) (at_ : Int) (hops : Nat), 40 - hops = k → goTo t at_ (l ++ [p]) false hops = if (goTo t at_ l true hops).2.2 ≠ 0 then goTo t at_ l true hops else goTo t (goTo t at_ l true hops).1 [p] false (goTo t at_ l true hops).2.1 := by
  intro k
  induction k using Nat.strongRecOn with
  | ind k ih =>
    intro l
    induction l with
    | nil =>
      intro at_ hops _
      rw [go_nil]; rfl
    | cons q r ihr =>
      intro at_ hops hk
      rw [List.cons_append]
      by_cases h1 : (nodeAt t.L at_).kind = 1
      · by_cases h2 : q = [46, 46]
        · rw [go_up h1 h2, go_up h1 h2]
          exact ihr _ hops hk
        · by_cases h3 : check q = 0
          · by_cases h4 : inDir t.L at_ q = 0
            · rw [go_none h1 h2 h3 h4, go_none h1 h2 h3 h4]; rfl
            · by_cases h5 : (nodeAt t.L (inDir t.L at_ q)).kind = 3
              · have n1 : ¬ ((nodeAt t.L (inDir t.L at_ q)).kind ≠ 3 ∨ (r ++ [p] = [] ∧ false = false)) := by rintro (e | ⟨e, -⟩); exact e h5; simp at e
                have n2 : ¬ ((nodeAt t.L (inDir t.L at_ q)).kind ≠ 3 ∨ (r = [] ∧ true = false)) := by rintro (e | ⟨-, e⟩); exact e h5; cases e
                by_cases h6 : 40 ≤ hops
                · rw [go_loop h1 h2 h3 h4 n1 h6, go_loop h1 h2 h3 h4 n2 h6]; rfl
                · rw [go_link h1 h2 h3 h4 n1 h6, go_link h1 h2 h3 h4 n2 h6, ← List.append_assoc]
                  exact ih (40 - (hops + 1)) (by omega) _ _ (hops + 1) rfl
              · rw [go_on h1 h2 h3 h4 (Or.inl h5), go_on h1 h2 h3 h4 (Or.inl h5)]
                exact ihr _ hops hk
          · rw [go_bad h1 h2 h3, go_bad h1 h2 h3, if_pos h3]
      · rw [go_no h1, go_no h1]; rfl
theorem spot_is {t : Tr} {p : Bytes} (h : (spot t p).2.2 = 0) : p ≠ [] ∧ ¬ 1024 < p.length ∧ ∃ l s, parts p = l ++ [s] ∧ s ≠ [46, 46] ∧ (goTo t 1 l true 0).2.2 = 0 ∧ (nodeAt t.L (goTo t 1 l true 0).1).kind = 1 ∧ check s = 0 ∧ spot t p = ((goTo t 1 l true 0).1, s, 0) := by
  unfold spot at h ⊢
  split at h
  · cases h
  · rename_i h1
    split at h
    · cases h
    · rename_i h2
      split at h
      · cases h
      · rename_i h3
        have hne : parts p ≠ [] := fun e => h3 (Or.inl e)
        refine ⟨h1, h2, (parts p).dropLast, (parts p).getLastD [], ?_, fun e => h3 (Or.inr e), ?_⟩
        · rw [List.getLastD_eq_getLast?, List.getLast?_eq_some_getLast hne, Option.getD_some]
          exact (List.dropLast_concat_getLast hne).symm
        · rw [if_neg h1, if_neg h2, if_neg h3]
          simp only at h ⊢
          generalize goTo t 1 (parts p).dropLast true 0 = g at *
          generalize (parts p).getLastD [] = s at *
          by_cases h5 : g.2.2 = 0
          · by_cases h6 : (nodeAt t.L g.1).kind = 1
            · by_cases h7 : check s = 0
              · simp [h5, h6, h7]
              · simp [h5, h6, h7] at h
            · simp [h5, h6] at h
          · simp [h5] at h
/-- the node at a path is the one by its last part's name -/
theorem spot_find {t : Tr} {p : Bytes} (h : (spot t p).2.2 = 0) : find t p false = if inDir t.L (spot t p).1 (spot t p).2.1 = 0 then (0, 5) else (inDir t.L (spot t p).1 (spot t p).2.1, 0) := by
  obtain ⟨h1, h2, l, s, e, h3, h4, h5, h6, h7⟩ := spot_is h
  rw [h7]
  unfold M08.find
  rw [if_neg h1, if_neg h2, e, go_snoc s _ l 1 0 rfl, if_neg (by rw [h4]; simp)]
  by_cases h8 : inDir t.L (goTo t 1 l true 0).1 s = 0
  · rw [go_none h5 h3 h6 h8, if_pos h8]
  · rw [go_on h5 h3 h6 h8 (Or.inr ⟨rfl, rfl⟩), go_nil, if_neg h8]

/-! moved, it is the same node -/
theorem placed_in {t : Tr} {x : Nd} (hx : x ∈ t.L) (h1 : x.num ≠ 1) {dst : Int} {nw : Bytes} (hR : Right (placed t x dst nw)) : inDir (placed t x dst nw).L dst nw = x.num ∧ (nodeAt (placed t x dst nw).L x.num).kind = x.kind := by
  have hm : ({ x with up := dst, name := nw } : Nd) ∈ (placed t x dst nw).L := List.mem_map.2 ⟨x, hx, if_pos rfl⟩
  have hne : inDir (placed t x dst nw).L dst nw ≠ 0 := fun e => in_not (fun a ha => (hR.ends a ha).1) e _ hm h1 ⟨rfl, rfl⟩
  obtain ⟨a, ha, e1, e2, e3, e4⟩ := in_found hne
  have := hR.once a ha _ hm e4 h1 e2 e3
  subst this
  exact ⟨e1.symm, by rw [hR.at_ hm]⟩
theorem moved_in {t : Tr} (h : Right t) {src dst : Int} {s nw : Bytes} (he : (M07.move t src s dst nw).2 = 0) : inDir (M07.move t src s dst nw).1.L dst nw = inDir t.L src s ∧ (nodeAt (M07.move t src s dst nw).1.L (inDir t.L src s)).kind = (nodeAt t.L (inDir t.L src s)).kind ∧ inDir t.L src s ≠ 0 := by
  have hR := move_right h (src := src) (name := s) (dst := dst) (nw := nw)
  unfold M07.move at he hR ⊢
  split at he
  · rename_i q; exact absurd he q
  · rename_i q
    rw [if_neg q] at hR ⊢
    obtain ⟨_, _, hn, _⟩ := move_checked (by simpa using q)
    obtain ⟨x, hx, e, _, _, hx1⟩ := in_found hn
    split at he
    · cases he
    · rename_i q2
      rw [if_neg q2] at hR ⊢
      rw [← e] at he hR ⊢
      unfold moveOn at he hR ⊢
      rw [h.at_ hx] at he hR ⊢
      split at he
      · rename_i q3; rw [if_pos q3]; exact ⟨q3, by rw [h.at_ hx], by rw [e]; exact hn⟩
      · rename_i q3
        rw [if_neg q3] at hR ⊢
        split at he
        · rename_i q4
          rw [if_pos q4] at hR ⊢
          split at he
          · cases he
          · rename_i q5
            rw [if_neg q5] at hR ⊢
            split at he
            · cases he
            · rename_i q6
              rw [if_neg q6] at hR ⊢
              split at he
              · rename_i q7; exact absurd he q7
              · rename_i q7
                rw [if_neg q7] at hR ⊢
                obtain ⟨_, _, e2⟩ := cut_works (by simpa using q7)
                have hx2 : x ∈ (cut t dst nw).1.L := by rw [e2]; exact List.mem_filter.2 ⟨hx, by simpa using fun e => q3 e.symm⟩
                have := placed_in hx2 hx1 hR
                exact ⟨this.1, this.2, by rw [e]; exact hn⟩
        · rename_i q4
          rw [if_neg q4] at hR ⊢
          have := placed_in hx hx1 hR
          exact ⟨this.1, this.2, by rw [e]; exact hn⟩
/-- a file that is renamed is the same node -/
theorem renamed {t : Tr} (h : Right t) {a b : Bytes} (hr : (rename t a b).2 = 0) : inDir (rename t a b).1.L (spot t b).1 (spot t b).2.1 = (find t a false).1 ∧ (nodeAt (rename t a b).1.L (find t a false).1).kind = (nodeAt t.L (find t a false).1).kind ∧ (find t a false).1 ≠ 0 := by
  unfold rename at hr ⊢
  split at hr
  · rename_i q; exact absurd hr q
  · rename_i q1
    have q1 : (spot t a).2.2 = 0 := by simpa using q1
    split at hr
    · rename_i q; exact absurd hr q
    · rename_i q2
      rw [if_neg (by rw [q1]; simp), if_neg q2]
      have hs := spot_find q1
      obtain ⟨m1, m2, m3⟩ := moved_in h hr
      rw [if_neg m3] at hs
      rw [hs]
      exact ⟨m1, m2, m3⟩
end Go.Proofs.YtolhniepejhmfaaGreatDoor.M09
/-
  Layer 9 (posix): what the laws ask of the program's calls, as a structure of contracts over any reading of a tree ('Posix'); the calls of a nil pointer ('NoPosix'). No condition but those that each theorem bears.
-/
namespace Go.Proofs.YtolhniepejhmfaaGreatDoor.W09
open Go Go.RowKit Go.Proofs.YtolhniepejhmfaaGreatDoor.Strs Go.Proofs.YtolhniepejhmfaaGreatDoor.Recs Go.Proofs.YtolhniepejhmfaaGreatDoor.Range
open Go.Proofs.YtolhniepejhmfaaGreatDoor.M07 (Tr Nd nodeAt inDir Right listDir)
open Go.Proofs.YtolhniepejhmfaaGreatDoor.M08 Go.Proofs.YtolhniepejhmfaaGreatDoor.M09
open Go.Proofs.YtolhniepejhmfaaGreatDoor.W07 (Small Trees Wrote)

open Go.Proofs.YtolhniepejhmfaaGreatDoor.Kit (ret_str ret_bool ret_int mk_of mk_bytes ba_ext below_draws on)

abbrev Bytes := List UInt8
abbrev Good (t : Tr) : Prop := W08.Good t
/-- what is told of a node, as a value -/
def statV (x : Int × Int × Int) : Value := .agg #[.int .i64 x.1, .int .i64 x.2.1, .int .i64 x.2.2]
/-- do two paths lead to one node? -/
def same (t : Tr) (a b : Bytes) : Bool := decide ((find t a true).2 = 0 ∧ (find t b true).2 = 0 ∧ (find t a true).1 = (find t b true).1)
/-- names are handed out, and an error's number -/
def HandsT (w : World) (R : List Bytes × Int) (e : Ending) (w' : World) : Prop := ∃ u, e = .returned (.tuple #[u, .int .i64 R.2]) ∧ Texts w'.heap.size w' u R.1 ∧ Below w.heap.size w w'
structure Posix (Rep : (Nat → Prop) → World → Value → Tr → Prop) : Prop where
  mkdir : ∀ {F w v t}, Rep F w v t → Good t → ∀ (p : ByteArray), p.size ≤ 1048576 → Calls Tryz.prog 56 #[v, .string p] w fun e w' => e = .returned (.int .i64 (putAt t p.data.toList 1 []).2) ∧ Wrote Rep F v (putAt t p.data.toList 1 []).1 w w'
  symlink : ∀ {F w v t}, Rep F w v t → Good t → ∀ (x p : ByteArray), x.size ≤ 1048576 → p.size ≤ 1048576 → Calls Tryz.prog 60 #[v, .string x, .string p] w fun e w' => e = .returned (.int .i64 (putAt t p.data.toList 3 x.data.toList).2) ∧ Wrote Rep F v (putAt t p.data.toList 3 x.data.toList).1 w w'
  rmdir : ∀ {F w v t}, Rep F w v t → Good t → ∀ (p : ByteArray), p.size ≤ 1048576 → Calls Tryz.prog 58 #[v, .string p] w fun e w' => e = .returned (.int .i64 (cutAt t p.data.toList true).2) ∧ Wrote Rep F v (cutAt t p.data.toList true).1 w w'
  unlink : ∀ {F w v t}, Rep F w v t → Good t → ∀ (p : ByteArray), p.size ≤ 1048576 → Calls Tryz.prog 62 #[v, .string p] w fun e w' => e = .returned (.int .i64 (cutAt t p.data.toList false).2) ∧ Wrote Rep F v (cutAt t p.data.toList false).1 w w'
  rename : ∀ {F w v t}, Rep F w v t → Good t → ∀ (a b : ByteArray), a.size ≤ 1048576 → b.size ≤ 1048576 → Calls Tryz.prog 64 #[v, .string a, .string b] w fun e w' => e = .returned (.int .i64 (M09.rename t a.data.toList b.data.toList).2) ∧ Wrote Rep F v (M09.rename t a.data.toList b.data.toList).1 w w'
  write : ∀ {F w v t}, Rep F w v t → Good t → ∀ (p x : ByteArray), p.size ≤ 1048576 → x.size ≤ 1048576 → Calls Tryz.prog 66 #[v, .string p, .string x] w fun e w' => e = .returned (.int .i64 (M09.write t p.data.toList x.data.toList).2) ∧ Wrote Rep F v (M09.write t p.data.toList x.data.toList).1 w w'
/-- the calls of a nil pointer -/
def Tells (u : Value) (w : World) (e : Ending) (w' : World) : Prop := e = .returned u ∧ Below w.heap.size w w'
structure NoPosix : Prop where
  mkdir : ∀ w (p : ByteArray), Calls Tryz.prog 56 #[.pointer none, .string p] w (Tells (.int .i64 1) w)
  symlink : ∀ w (x p : ByteArray), Calls Tryz.prog 60 #[.pointer none, .string x, .string p] w (Tells (.int .i64 1) w)
  rmdir : ∀ w (p : ByteArray), Calls Tryz.prog 58 #[.pointer none, .string p] w (Tells (.int .i64 1) w)
  unlink : ∀ w (p : ByteArray), Calls Tryz.prog 62 #[.pointer none, .string p] w (Tells (.int .i64 1) w)
  rename : ∀ w (a b : ByteArray), Calls Tryz.prog 64 #[.pointer none, .string a, .string b] w (Tells (.int .i64 1) w)
  write : ∀ w (p x : ByteArray), Calls Tryz.prog 66 #[.pointer none, .string p, .string x] w (Tells (.int .i64 1) w)

/-! a tree stays good while few acts are done -/
/-- of at most n nodes and numbers -/
structure Within (t : Tr) (n : Nat) : Prop where
  right : Right t
  fit : Fit t
  named : Named t
  len : t.L.length ≤ n
  last : t.last ≤ n
theorem Within.good {t : Tr} {n : Nat} (h : Within t n) (hn : n ≤ 1048576) : Good t := ⟨⟨Nat.le_trans h.len hn, by have := h.last; omega⟩, h.fit, h.named⟩
theorem Within.next {t t' : Tr} {n : Nat} (h : Within t n) (k : Kept t t') : Within t' (n + 1) := ⟨k.right h.right, k.fit h.fit, k.named h.named, by have := k.len; have := h.len; omega, by have := k.last; have := h.last; omega⟩
theorem Within.more {t : Tr} {n m : Nat} (h : Within t n) (hm : n ≤ m) : Within t m := ⟨h.right, h.fit, h.named, Nat.le_trans h.len hm, by have := h.last; omega⟩
theorem made_within {l : List W08.Sn} (h : l.length ≤ 60) : Within (W08.made l).1 61 := by
  have := W08.made_is l l.length (Nat.le_refl _)
  rw [List.take_length] at this
  exact ⟨this.right, this.fit, this.named, by have := this.len; omega, by have := this.last; omega⟩
/-- a path leads to a number of a node -/
theorem goTo_pos {t : Tr} (h : Right t) : ∀ (k : Nat) (l : List Bytes) (at_ : Int) (last : Bool) (hops : Nat), 40 - hops = k → 1 ≤ at_ → (goTo t at_ l last hops).2.2 = 0 → 1 ≤ (goTo t at_ l last hops).1 := by
  intro k
  induction k using Nat.strongRecOn with
  | ind k ih =>
    intro l
    induction l with
    | nil => intro at_ last hops _ h1 _; rw [go_nil]; exact h1
    | cons q r ihr =>
      intro at_ last hops hk h0
      by_cases h1 : (nodeAt t.L at_).kind = 1
      · by_cases h2 : q = [46, 46]
        · rw [go_up h1 h2]
          have hm := M07.at_some (L := t.L) (n := at_) (by rw [h1]; decide)
          obtain ⟨b, hb, e, -⟩ := h.up_mem hm.1
          exact ihr _ last hops hk (by rw [← e]; exact (h.ends b hb).1)
        · by_cases h3 : M03.check q = 0
          · by_cases h4 : inDir t.L at_ q = 0
            · rw [go_none h1 h2 h3 h4]; intro e; cases e
            · have hp : 1 ≤ inDir t.L at_ q := by obtain ⟨a, ha, e, -⟩ := M07.in_found h4; rw [← e]; exact (h.ends a ha).1
              by_cases h5 : (nodeAt t.L (inDir t.L at_ q)).kind ≠ 3 ∨ (r = [] ∧ last = false)
              · rw [go_on h1 h2 h3 h4 h5]; exact ihr _ last hops hk hp
              · by_cases h6 : 40 ≤ hops
                · rw [go_loop h1 h2 h3 h4 h5 h6]; intro e; cases e
                · rw [go_link h1 h2 h3 h4 h5 h6]
                  exact ih (40 - (hops + 1)) (by omega) _ _ last (hops + 1) rfl (by unfold M08.base; split; omega; exact h0)
          · rw [go_bad h1 h2 h3]; intro e; exact absurd e h3
      · rw [go_no h1]; intro e; cases e
theorem find_pos {t : Tr} (h : Right t) {p : Bytes} {last : Bool} (he : (find t p last).2 = 0) : 1 ≤ (find t p last).1 := by
  unfold M08.find at he ⊢
  split at he
  · cases he
  · rename_i q1
    rw [if_neg q1]
    split at he
    · cases he
    · rename_i q2
      rw [if_neg q2]
      exact goTo_pos h _ _ 1 last 0 rfl (by omega) he
/-- a path that is followed to its end leads to no link -/
theorem goTo_file {t : Tr} (h : Right t) : ∀ (k : Nat) (l : List Bytes) (at_ : Int) (hops : Nat), 40 - hops = k → (nodeAt t.L at_).kind ≠ 0 ∧ (nodeAt t.L at_).kind ≠ 3 → (goTo t at_ l true hops).2.2 = 0 → (nodeAt t.L (goTo t at_ l true hops).1).kind ≠ 0 ∧ (nodeAt t.L (goTo t at_ l true hops).1).kind ≠ 3 := by
  intro k
  induction k using Nat.strongRecOn with
  | ind k ih =>
    intro l
    induction l with
    | nil => intro at_ hops _ h1 _; rw [go_nil]; exact h1
    | cons q r ihr =>
      intro at_ hops hk h0
      by_cases h1 : (nodeAt t.L at_).kind = 1
      · by_cases h2 : q = [46, 46]
        · rw [go_up h1 h2]
          have hm := M07.at_some (L := t.L) (n := at_) (by rw [h1]; decide)
          have := h.up _ hm.1
          exact ihr _ hops hk (by rw [this]; decide)
        · by_cases h3 : M03.check q = 0
          · by_cases h4 : inDir t.L at_ q = 0
            · rw [go_none h1 h2 h3 h4]; intro e; cases e
            · by_cases h5 : (nodeAt t.L (inDir t.L at_ q)).kind ≠ 3 ∨ (r = [] ∧ true = false)
              · rw [go_on h1 h2 h3 h4 h5]
                have hp : (nodeAt t.L (inDir t.L at_ q)).kind ≠ 0 := by obtain ⟨a, ha, e, -⟩ := M07.in_found h4; rw [← e, h.at_ ha]; exact h.kind a ha
                exact ihr _ hops hk ⟨hp, h5.elim id (fun e => absurd e.2 (by decide))⟩
              · by_cases h6 : 40 ≤ hops
                · rw [go_loop h1 h2 h3 h4 h5 h6]; intro e; cases e
                · rw [go_link h1 h2 h3 h4 h5 h6]
                  refine ih (40 - (hops + 1)) (by omega) _ _ (hops + 1) rfl ?_
                  unfold M08.base
                  split
                  · obtain ⟨r0, hr⟩ := h.root
                    have := h.at_ (a := ⟨1, 1, [], 1, []⟩) (by rw [hr]; exact List.mem_cons_self)
                    have : nodeAt t.L 1 = ⟨1, 1, [], 1, []⟩ := this
                    rw [this]; decide
                  · rw [h1]; decide
          · rw [go_bad h1 h2 h3]; intro e; exact absurd e h3
      · rw [go_no h1]; intro e; cases e
theorem find_file {t : Tr} (h : Right t) (hf : Fit t) {p : Bytes} (he : (find t p true).2 = 0) : (nodeAt t.L (find t p true).1).kind = 1 ∨ (nodeAt t.L (find t p true).1).kind = 2 := by
  have hn : (nodeAt t.L (find t p true).1).kind ≠ 0 ∧ (nodeAt t.L (find t p true).1).kind ≠ 3 := by
    unfold M08.find at he ⊢
    split at he
    · cases he
    · rename_i q1
      rw [if_neg q1]
      split at he
      · cases he
      · rename_i q2
        rw [if_neg q2]
        refine goTo_file h _ _ 1 0 rfl ?_ he
        obtain ⟨r0, hr⟩ := h.root
        have := h.at_ (a := ⟨1, 1, [], 1, []⟩) (by rw [hr]; exact List.mem_cons_self)
        have : nodeAt t.L 1 = ⟨1, 1, [], 1, []⟩ := this
        rw [this]; decide
  have := (hf _ (M07.at_some hn.1).1).2.2
  omega
/-- Same, told by what is told of both -/
theorem same_stats {t : Tr} (h : Right t) (p q : Bytes) : same t p q = (decide (0 < (M09.stat t p true).1.1) && decide ((M09.stat t q true).2 = 0) && decide ((M09.stat t q true).1.1 = (M09.stat t p true).1.1)) := by
  unfold same M09.stat
  by_cases h1 : (find t p true).2 = 0
  · have := find_pos h h1
    by_cases h2 : (find t q true).2 = 0
    · simp [h1, h2, show 0 < (find t p true).1 by omega, eq_comm]
    · simp [h1, h2]
  · simp [h1]
end Go.Proofs.YtolhniepejhmfaaGreatDoor.W09
/-
  Layer 4 (path), a walk: the plain answer's Parts: a text's parts, in new memory, at every text of at most 2^40 bytes; nothing that was there is changed.
-/
namespace Go.Proofs.YtolhniepejhmfaaGreatDoor.W04
set_option maxRecDepth 100000
open Go Go.RowKit Go.Proofs.YtolhniepejhmfaaGreatDoor.Strs Go.Proofs.YtolhniepejhmfaaGreatDoor.M04
open Go.Proofs.YtolhniepejhmfaaGreatDoor.Kit (drop_next drop_end mk_bytes one_size one_byte cat_bytes byte_eq byte_ne list_full list_ne list_none list_nil bytes_nil bytes_cons)

/-- what stands at a round's head -/
def Pst (l : Bytes) (k : Nat) (out : List Bytes) (now : Bytes) : Prop := (k ≤ l.length ∧ out ++ pgo (l.drop k) now = parts l) ∨ (k = l.length + 1 ∧ out = parts l)
def Going (s : ByteArray) (k : Nat) (out : List Bytes) (now : ByteArray) : Prop := Pst s.data.toList k out now.data.toList
theorem going_start (s : ByteArray) : Going s 0 [] ⟨#[]⟩ := Or.inl ⟨Nat.zero_le _, rfl⟩
section
variable {s : ByteArray} {k : Nat} {out : List Bytes} {now : ByteArray}
theorem going_in (h : Going s k out now) (hk : k < s.size) : out ++ pgo (s[k] :: s.data.toList.drop (k + 1)) now.data.toList = parts s.data.toList := by
  rw [Lib.size_eq] at hk
  rcases h with ⟨_, h⟩ | ⟨h, _⟩
  · rw [drop_next s k (by rw [Lib.size_eq]; exact hk)] at h; exact h
  · omega
theorem going_char (h : Going s k out now) (hk : k < s.size) (hc : ¬ s[k] = 47) : Going s (k + 1) out (now ++ s.extract k (k + 1)) := by
  have := going_in h hk
  left
  refine ⟨by rw [← Lib.size_eq]; omega, ?_⟩
  rw [pgo, if_neg hc] at this
  rw [cat_bytes, one_byte s k hk]; exact this
theorem going_slash (h : Going s k out now) (hk : k < s.size) (hc : s[k] = 47) : Going s (k + 1) (out ++ flush now.data.toList) ⟨#[]⟩ := by
  have := going_in h hk
  left
  refine ⟨by rw [← Lib.size_eq]; omega, ?_⟩
  rw [pgo, if_pos hc] at this
  rw [List.append_assoc]; exact this
theorem going_end (h : Going s k out now) (hk : k = s.size) : Going s (k + 1) (out ++ flush now.data.toList) ⟨#[]⟩ := by
  right
  refine ⟨by rw [hk, Lib.size_eq], ?_⟩
  rcases h with ⟨_, h⟩ | ⟨h, _⟩
  · rw [hk, drop_end s s.size (Nat.lt_irrefl _)] at h; exact h
  · rw [Lib.size_eq] at hk; omega
theorem going_stop (h : Going s k out now) (hk : s.size < k) : out = parts s.data.toList := by
  rcases h with ⟨h, _⟩ | ⟨_, h⟩
  · rw [Lib.size_eq] at hk; omega
  · exact h
theorem flush_keep (h : 0 < now.size) (h2 : (now.toList == [46]) = false) : flush now.data.toList = [now.data.toList] := by
  unfold flush
  rw [if_neg]
  rintro (e | e)
  · rw [bytes_cons h] at e; simp at e
  · rw [Lib.toList_data, e] at h2; simp at h2
theorem flush_void (h : ¬ 0 < now.size) : flush now.data.toList = [] := by unfold flush; rw [if_pos (Or.inl (bytes_nil h))]
theorem flush_point (h2 : (now.toList == [46]) = true) : flush now.data.toList = [] := by
  unfold flush; rw [if_pos (Or.inr (by rw [← Lib.toList_data]; exact beq_iff_eq.1 h2))]
end
/-- what a call returns that makes a row of texts -/
def Makes (w : World) (L : List Bytes) (e : Ending) (w' : World) : Prop := ∃ v, e = .returned v ∧ w'.ownsRow w.heap.size 9 1 v L.length (L.map strV) ∧ Below w.heap.size w w'
theorem makes_done {w w' : World} {L out : List Bytes} {v : Value} (h : out = L) (hown : w'.ownsRow w.heap.size 9 1 v out.length (out.map strV)) (hb : Below w.heap.size w w') : Makes w L (.returned v) w' := by
  subst h; exact ⟨v, rfl, hown, hb⟩

set_option maxHeartbeats 1000000 in
theorem refParts_any (s : ByteArray) (hs : s.size ≤ 1099511627776) (w : World) :
    Calls Tryz.prog 88 #[.string s] w (Makes w (parts s.data.toList)) := by
  obtain ⟨i0, hi, hz0, hz1, hz2⟩ := info_parts text_info
  go_enter Tryz.func88, Tryz.ntmps88
  go_wp2
  go_loopw [3, 4, 5] (fun v d i wr => ∃ (k : Nat) (out : List Bytes) (now : ByteArray), k ≤ s.size + 1 ∧ i = .int .i64 k ∧ d = .string now ∧ now.size ≤ k ∧ out.length ≤ k ∧ Hid (Going s k out now) ∧ Hid (wr.ownsRow w.heap.size 9 1 v out.length (out.map strV)) ∧ Below w.heap.size w wr) (fun _ _ i _ => s.size + 1 - (intOf i).toNat)
  case atStart => exact ⟨0, [], ⟨#[]⟩, Nat.zero_le _, rfl, rfl, Nat.zero_le _, Nat.le_refl _, going_start s, World.ownsRow_nil _ _ _ _, Below.refl _ _⟩
  case round =>
    obtain ⟨k, out, now, hk, rfl, rfl, hnow, hout, hg, hown, hb⟩ := hrel
    have hbs := hb.size
    by_cases hlt : k < s.size
    · by_cases h47 : (s[k].toNat : Int) = 47
      · have HG := Lib.hid (going_slash hg.out hlt (byte_eq (d := 47) h47))
        have t47 : ((s[k].toNat : Int) != 47) = false := by simp [h47]
        clear h47
        by_cases h0 : 0 < now.size
        · have hn := list_ne h0
          have hf := list_full h0
          cases hp : (now.toList == [46]) with
          | true =>
            have HX : Hid (Going s (k + 1) out ⟨#[]⟩) := by have := HG.out; rw [flush_point hp, List.append_nil] at this; exact this
            have hpe := beq_iff_eq.1 hp
            go_wp2
            go_roundw
            case rel => exact ⟨k + 1, out, ⟨#[]⟩, by omega, by go_num, rfl, Nat.zero_le _, by omega, HX, hown, hb⟩
            case measure => simp [intOf]; omega
          | false =>
            have HX : Hid (Going s (k + 1) (out ++ [now.data.toList]) ⟨#[]⟩) := by have := HG.out; rw [flush_keep h0 hp] at this; exact this
            have hpe := beq_eq_false_iff_ne.1 hp
            go_wp2_with (at_builtin; refine wpList_append_own _ rfl (.tmp 35) (.tmp 37) 131 rfl w.heap.size 9 i0 (.string ⟨#[]⟩) 1 16 Tryz.underlying131 hi hz0 hz1 hz2 rfl (by decide) _ _ _ rfl (hown.out.alloc _) ⟨_, 0, none⟩ 1 1 [.string now] rfl rfl (cell_one_new _ _ _) (by intro u hu; simp at hu; subst hu; rfl) (by unfold maxLen; omega) (by omega) (by simp; omega) ?_; intro v1 w1 hown1 hgrow1 _)
            have B1 := Lib.hid (below_more hb hown.out hgrow1)
            have O1 := Lib.hid (own_more hown1)
            clear hown1 hgrow1
            go_wp2
            go_roundw
            case rel => exact ⟨k + 1, out ++ [now.data.toList], ⟨#[]⟩, by omega, by go_num, rfl, Nat.zero_le _, by rw [List.length_append]; simp; omega, HX, O1, B1.out⟩
            case measure => simp [intOf]; omega
        · have hn := list_nil h0
          have hf := list_none h0
          have HX : Hid (Going s (k + 1) out ⟨#[]⟩) := by have := HG.out; rw [flush_void h0, List.append_nil] at this; exact this
          go_wp2
          go_roundw
          case rel => exact ⟨k + 1, out, ⟨#[]⟩, by omega, by go_num, rfl, Nat.zero_le _, by omega, HX, hown, hb⟩
          case measure => simp [intOf]; omega
      · have HG := Lib.hid (going_char hg.out hlt (byte_ne (d := 47) h47))
        have t47 : ((s[k].toNat : Int) != 47) = true := by simp [h47]
        have h1 := one_size s k hlt
        clear h47
        go_wp2
        go_roundw
        case rel => exact ⟨k + 1, out, _, by omega, by go_num, rfl, by rw [ByteArray.size_append]; omega, by omega, HG, hown, hb⟩
        case measure => simp [intOf]; omega
    · by_cases hke : k = s.size
      · have HG := Lib.hid (going_end hg.out hke)
        by_cases h0 : 0 < now.size
        · have hn := list_ne h0
          have hf := list_full h0
          cases hp : (now.toList == [46]) with
          | true =>
            have HX : Hid (Going s (k + 1) out ⟨#[]⟩) := by have := HG.out; rw [flush_point hp, List.append_nil] at this; exact this
            have hpe := beq_iff_eq.1 hp
            go_wp2
            go_roundw
            case rel => exact ⟨k + 1, out, ⟨#[]⟩, by omega, by go_num, rfl, Nat.zero_le _, by omega, HX, hown, hb⟩
            case measure => simp [intOf]; omega
          | false =>
            have HX : Hid (Going s (k + 1) (out ++ [now.data.toList]) ⟨#[]⟩) := by have := HG.out; rw [flush_keep h0 hp] at this; exact this
            have hpe := beq_eq_false_iff_ne.1 hp
            go_wp2_with (at_builtin; refine wpList_append_own _ rfl (.tmp 35) (.tmp 37) 131 rfl w.heap.size 9 i0 (.string ⟨#[]⟩) 1 16 Tryz.underlying131 hi hz0 hz1 hz2 rfl (by decide) _ _ _ rfl (hown.out.alloc _) ⟨_, 0, none⟩ 1 1 [.string now] rfl rfl (cell_one_new _ _ _) (by intro u hu; simp at hu; subst hu; rfl) (by unfold maxLen; omega) (by omega) (by simp; omega) ?_; intro v1 w1 hown1 hgrow1 _)
            have B1 := Lib.hid (below_more hb hown.out hgrow1)
            have O1 := Lib.hid (own_more hown1)
            clear hown1 hgrow1
            go_wp2
            go_roundw
            case rel => exact ⟨k + 1, out ++ [now.data.toList], ⟨#[]⟩, by omega, by go_num, rfl, Nat.zero_le _, by rw [List.length_append]; simp; omega, HX, O1, B1.out⟩
            case measure => simp [intOf]; omega
        · have hn := list_nil h0
          have hf := list_none h0
          have HX : Hid (Going s (k + 1) out ⟨#[]⟩) := by have := HG.out; rw [flush_void h0, List.append_nil] at this; exact this
          go_wp2
          go_roundw
          case rel => exact ⟨k + 1, out, ⟨#[]⟩, by omega, by go_num, rfl, Nat.zero_le _, by omega, HX, hown, hb⟩
          case measure => simp [intOf]; omega
      · have HE := Lib.hid (going_stop hg.out (by omega))
        go_wp2
        go_ret
        exact makes_done HE.out hown.out hb
end Go.Proofs.YtolhniepejhmfaaGreatDoor.W04
/-
  Slices of texts: the first ones left out, as the walk spells the cut's value. Plain lemmas on worlds, for every program; no condition but those that each theorem bears.
-/
namespace Go.Proofs.YtolhniepejhmfaaGreatDoor.Strs
open Go Go.RowKit

/-- the first ones left out, as the walk spells the cut's value -/
theorem Texts.drop {B : Nat} {w : World} {A : Option Addr} {n c k : Nat} {L : List (List UInt8)} (h : Texts B w (.slice A n c) L) (hk : k ≤ n) : Texts B w (.slice (A.map fun x => x.add k) (n - k) (c - k)) (L.drop k) := by
  obtain ⟨hn, hc1, hc2⟩ := h.count
  subst hn
  obtain ⟨A0, c0, e, h1, h2, h3⟩ := h
  cases e
  refine ⟨_, c - k, by rw [List.length_drop], by rw [List.length_drop]; omega, by omega, fun h0 => ?_⟩
  rw [List.length_drop] at h0
  obtain ⟨ad, rfl, hb, hc⟩ := h3 (by omega)
  refine ⟨ad.add k, rfl, by rw [block_add]; exact hb, fun j hj => ?_⟩
  rw [List.length_drop] at hj
  have := hc (k + j) (by omega)
  rw [show (ad.add k).add j = ad.add (k + j) by obtain ⟨b, o, s⟩ := ad; rw [show s = none by simpa [Addr.add] using World.cell?_spot (hc 0 (by omega)), Addr.add_lit, Addr.add_lit, Addr.add_lit, Nat.add_assoc]]
  rw [this]
  congr 2
  simp
theorem Texts.drop_all {B : Nat} {w : World} {A : Option Addr} {n k : Nat} {L : List (List UInt8)} (h : Texts B w (.slice A n k) L) (hk : k ≤ n) : Texts B w (.slice A (n - k) 0) (L.drop k) := by
  obtain ⟨hn, hc1, hc2⟩ := h.count
  subst hn
  obtain rfl : k = L.length := by omega
  refine ⟨A, 0, by rw [List.length_drop], by rw [List.length_drop]; omega, Nat.zero_le _, fun h0 => ?_⟩
  rw [List.length_drop] at h0
  omega
end Go.Proofs.YtolhniepejhmfaaGreatDoor.Strs
