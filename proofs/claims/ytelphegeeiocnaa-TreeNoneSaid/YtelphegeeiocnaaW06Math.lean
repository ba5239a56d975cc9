/-
  Plain mathematics for layer 6 (ents): entries by their names: lists alone. No condition but those that each theorem bears.
-/
import Derived.Test.YtelphegeeiocnaaW03Math
namespace Go.Proofs.Ytelphegeeiocnaa.M06
open Go.Proofs.Ytelphegeeiocnaa.M03

abbrev Ent := List UInt8 × Int
/-- do names rise? -/
def right : List Ent → Bool
  | a :: b :: r => decide (lt a.1 b.1) && right (b :: r)
  | _ => true
def all (L : List Ent) : List Ent := if right L = true then L else []
def find : List Ent → List UInt8 → Int × Bool
  | [], _ => (0, false)
  | a :: r, s => if a.1 = s then (a.2, true) else find r s
def cutL (L : List Ent) (s : List UInt8) : List Ent := L.filter (fun a => decide (¬ a.1 = s))
def putL (L : List Ent) (e : Ent) : List Ent := (cutL L e.1).filter (fun a => decide (lt a.1 e.1)) ++ e :: (cutL L e.1).filter (fun a => decide (lt e.1 a.1))
def cut (L : List Ent) (s : List UInt8) : List Ent := cutL (all L) s
def put (L : List Ent) (e : Ent) : List Ent := putL (all L) e
def merge (a b : List Ent) : List Ent := (all a).foldl put (all b)
def next : List Ent → List UInt8 → Ent × Bool
  | [], _ => (([], 0), false)
  | a :: r, s => if lt s a.1 then (a, true) else next r s
def names (L : List Ent) : List (List UInt8) := (all L).map (·.1)

theorem right_iff : ∀ L : List Ent, right L = true ↔ L.Pairwise (fun a b => lt a.1 b.1)
  | [] => by simp [right]
  | [a] => by simp [right]
  | a :: b :: r => by
    have ih := right_iff (b :: r)
    rw [right, Bool.and_eq_true, decide_eq_true_eq, ih, List.pairwise_cons (l := b :: r)]
    constructor
    · rintro ⟨h1, h2⟩
      refine ⟨fun x hx => ?_, h2⟩
      rcases List.mem_cons.1 hx with e | e
      · subst e; exact h1
      · rw [List.pairwise_cons] at h2; exact lt_trans h1 (h2.1 x e)
    · rintro ⟨h1, h2⟩
      exact ⟨h1 b (by simp), h2⟩
theorem right_all (L : List Ent) : right (all L) = true := by
  unfold all; split
  · assumption
  · rfl
theorem all_right {L : List Ent} (h : right L = true) : all L = L := by unfold all; rw [if_pos h]
theorem all_all (L : List Ent) : all (all L) = all L := all_right (right_all L)
theorem right_filter {L : List Ent} (p : Ent → Bool) (h : right L = true) : right (L.filter p) = true := (right_iff _).2 (((right_iff _).1 h).filter p)
theorem right_cut (L : List Ent) (s : List UInt8) : right (cut L s) = true := right_filter _ (right_all L)
theorem right_putL {L : List Ent} (e : Ent) (h : right L = true) : right (putL L e) = true := by
  rw [right_iff]
  have hc := (right_iff _).1 (right_filter (fun a => decide (¬ a.1 = e.1)) h)
  unfold putL cutL
  rw [List.pairwise_append, List.pairwise_cons]
  refine ⟨hc.filter _, ⟨fun b hb => ?_, hc.filter _⟩, fun a ha b hb => ?_⟩
  · have := (List.mem_filter.1 hb).2; simpa using this
  · have h1 : lt a.1 e.1 := by have := (List.mem_filter.1 ha).2; simpa using this
    rcases List.mem_cons.1 hb with e1 | e1
    · subst e1; exact h1
    · have h2 : lt e.1 b.1 := by have := (List.mem_filter.1 e1).2; simpa using this
      exact lt_trans h1 h2
theorem right_put (L : List Ent) (e : Ent) : right (put L e) = true := right_putL e (right_all L)
theorem right_fold : ∀ (L out : List Ent), right out = true → right (L.foldl put out) = true
  | [], _, h => h
  | x :: L, out, _ => right_fold L (put out x) (right_put out x)
theorem right_merge (a b : List Ent) : right (merge a b) = true := right_fold _ _ (right_all b)
theorem find_not : ∀ {L : List Ent} {s : List UInt8}, (∀ x ∈ L, ¬ x.1 = s) → find L s = (0, false)
  | [], _, _ => rfl
  | a :: r, s, h => by rw [find, if_neg (h a (by simp)), find_not (fun x hx => h x (by simp [hx]))]
theorem find_cut (L : List Ent) (s : List UInt8) : find (cut L s) s = (0, false) := find_not fun x hx => by
  have := (List.mem_filter.1 hx).2
  simpa using this
theorem find_skip : ∀ {L M : List Ent} {s : List UInt8}, (∀ x ∈ L, ¬ x.1 = s) → find (L ++ M) s = find M s
  | [], _, _, _ => rfl
  | a :: r, M, s, h => by
    show find (a :: (r ++ M)) s = _
    rw [find, if_neg (h a (by simp)), find_skip (fun x hx => h x (by simp [hx]))]
theorem find_put (L : List Ent) (e : Ent) : find (put L e) e.1 = (e.2, true) := by
  unfold put putL
  rw [find_skip (fun x hx => by
    have := (List.mem_filter.1 (List.mem_filter.1 hx).1).2
    simpa using this), find, if_pos rfl]

/-! step by step -/
theorem right_step {L : List Ent} {k : Nat} (h : k + 1 < L.length) : right (L.drop k) = (decide (lt (L[k]'(by omega)).1 (L[k + 1]).1) && right (L.drop (k + 1))) := by
  rw [List.drop_eq_getElem_cons (by omega), List.drop_eq_getElem_cons h, right]
theorem right_last {L : List Ent} {k : Nat} (h : ¬ k + 1 < L.length) : right (L.drop k) = true := by
  have : (L.drop k).length ≤ 1 := by rw [List.length_drop]; omega
  match L.drop k, this with
  | [], _ => rfl
  | [a], _ => rfl
theorem drop_at {L : List Ent} {k : Nat} (h : k < L.length) : L.drop k = L[k] :: L.drop (k + 1) := List.drop_eq_getElem_cons h
theorem take_at {L : List Ent} {k : Nat} (h : k < L.length) : L.take (k + 1) = L.take k ++ [L[k]] := List.take_succ_eq_append_getElem h
theorem putL_len (L : List Ent) (e : Ent) : (putL L e).length ≤ L.length + 1 := by
  unfold putL
  have h0 : (cutL L e.1).length ≤ L.length := List.length_filter_le _ _
  have h1 : ∀ M : List Ent, (M.filter (fun a => decide (lt a.1 e.1))).length + (M.filter (fun a => decide (lt e.1 a.1))).length ≤ M.length := by
    intro M
    induction M with
    | nil => simp
    | cons a M ih =>
      by_cases h : lt a.1 e.1
      · rw [List.filter_cons_of_pos (by simpa using h), List.filter_cons_of_neg (by simpa using lt_asymm h)]
        simp only [List.length_cons]; omega
      · rw [List.filter_cons_of_neg (by simpa using h)]
        have := List.filter_cons (p := fun (b : Ent) => decide (lt e.1 b.1)) (x := a) (xs := M)
        rw [this]
        split <;> simp only [List.length_cons] <;> omega
  have := h1 (cutL L e.1)
  simp only [List.length_append, List.length_cons]; omega
theorem all_len (L : List Ent) : (all L).length ≤ L.length := by unfold all; split <;> simp
theorem put_len (L : List Ent) (e : Ent) : (put L e).length ≤ L.length + 1 := by
  have := putL_len (all L) e; have := all_len L; unfold put; omega
theorem cut_len (L : List Ent) (s : List UInt8) : (cut L s).length ≤ L.length := Nat.le_trans (List.length_filter_le _ _) (all_len L)
theorem fold_len : ∀ (L out : List Ent), (L.foldl put out).length ≤ out.length + L.length
  | [], out => by simp
  | x :: L, out => by
    have h1 := fold_len L (put out x); have h2 := put_len out x
    rw [List.foldl_cons, List.length_cons]; omega
theorem merge_len (a b : List Ent) : (merge a b).length ≤ a.length + b.length := by
  have h1 := fold_len (all a) (all b); have := all_len a; have := all_len b; unfold merge; omega
end Go.Proofs.Ytelphegeeiocnaa.M06
