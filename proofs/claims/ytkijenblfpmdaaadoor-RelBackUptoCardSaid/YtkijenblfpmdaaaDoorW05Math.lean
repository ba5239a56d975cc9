/-
  Plain mathematics for layer 5 (rel): the way from one path to another one, where it ends, and that none is shorter; lists of bytes alone. No condition but those that each theorem bears.
-/
import Derived.Test.YtkijenblfpmdaaaDoorW04Under
namespace Go.Proofs.YtkijenblfpmdaaaDoor.M05
open Go.Proofs.YtkijenblfpmdaaaDoor.M04
open Go.Proofs.YtkijenblfpmdaaaDoor.W04 (slashed_len flat_next)

def dd : Bytes := [46, 46]
/-- how many parts two lists both begin with -/
def lcp : List Bytes → List Bytes → Nat
  | a :: A, b :: B => if a = b then lcp A B + 1 else 0
  | _, _ => 0
def way (a b : List Bytes) : List Bytes := List.replicate (a.length - lcp a b) dd ++ b.drop (lcp a b)
/-- the way's text -/
def to (dir s : Bytes) : Bytes := let L := way (parts (clean dir)) (parts (clean s)); if L = [] then [46] else slashed L
def steps (dir s : Bytes) : Nat := (way (parts (clean dir)) (parts (clean s))).length
/-- is a text a way? -/
def rel (t : Bytes) : Bool := decide (t ≠ []) && decide (t.head? ≠ some 47)

theorem lcp_left : ∀ a b : List Bytes, lcp a b ≤ a.length
  | [], _ => by simp [lcp]
  | a :: A, [] => by simp [lcp]
  | a :: A, b :: B => by
    have := lcp_left A B
    unfold lcp; split <;> simp; omega
theorem lcp_right : ∀ a b : List Bytes, lcp a b ≤ b.length
  | [], _ => by simp [lcp]
  | a :: A, [] => by simp [lcp]
  | a :: A, b :: B => by
    have := lcp_right A B
    unfold lcp; split <;> simp; omega
theorem lcp_take : ∀ a b : List Bytes, a.take (lcp a b) = b.take (lcp a b)
  | [], b => by simp [lcp]
  | a :: A, [] => by simp [lcp]
  | a :: A, b :: B => by
    have := lcp_take A B
    unfold lcp
    split
    · rename_i e; rw [List.take_succ_cons, List.take_succ_cons, this, e]
    · simp
theorem lcp_snoc : ∀ (x b : List Bytes) (p : Bytes), lcp x b ≤ lcp (x ++ [p]) b ∧ lcp (x ++ [p]) b ≤ lcp x b + 1
  | [], [], p => by simp [lcp]
  | [], b :: B, p => by
    refine ⟨by simp [lcp], ?_⟩
    show lcp [p] (b :: B) ≤ _
    unfold lcp
    split
    · cases B <;> simp [lcp]
    · simp
  | x :: X, [], p => by simp [lcp]
  | x :: X, b :: B, p => by
    have := lcp_snoc X B p
    show lcp (x :: X) (b :: B) ≤ lcp (x :: (X ++ [p])) (b :: B) ∧ lcp (x :: (X ++ [p])) (b :: B) ≤ _
    unfold lcp
    split <;> omega
theorem lcp_self (a : List Bytes) : lcp a a = a.length := by
  induction a with
  | nil => rfl
  | cons x a ih => unfold lcp; rw [if_pos rfl, ih]; rfl
/-- lcp, told by a count that stops -/
theorem lcp_stop : ∀ (a b : List Bytes) (n : Nat), (∀ j, j < n → a.getD j [] = b.getD j []) → n ≤ a.length → n ≤ b.length → (n < a.length → n < b.length → ¬ a.getD n [] = b.getD n []) → lcp a b = n
  | [], b, n, _, h2, _, _ => by simp at h2; subst h2; simp [lcp]
  | x :: A, [], n, _, _, h3, _ => by simp at h3; subst h3; simp [lcp]
  | x :: A, y :: B, 0, _, _, _, h4 => by
    have : ¬ x = y := by simpa using h4 (by simp) (by simp)
    simp [lcp, this]
  | x :: A, y :: B, n + 1, h1, h2, h3, h4 => by
    have e : x = y := by simpa using h1 0 (by omega)
    have := lcp_stop A B n (fun j hj => by simpa using h1 (j + 1) (by omega)) (by simpa using h2) (by simpa using h3) (fun i1 i2 => by simpa using h4 (by simpa using i1) (by simpa using i2))
    unfold lcp; rw [if_pos e, this]

theorem fold_up : ∀ (k : Nat) (a : List Bytes), (List.replicate k dd).foldl cstep a = a.take (a.length - k)
  | 0, a => by simp
  | k + 1, a => by
    rw [List.replicate_succ, List.foldl_cons]
    have : cstep a dd = a.dropLast := by unfold cstep dd; rw [if_pos rfl]
    rw [this, fold_up k, List.length_dropLast, List.dropLast_eq_take, List.take_take]
    congr 1; omega
theorem fold_way {a b : List Bytes} (h : ∀ p ∈ b, p ≠ dd) : (way a b).foldl cstep a = b := by
  unfold way
  have h1 := lcp_left a b
  rw [List.foldl_append, fold_up, fold_plain _ _ (fun p hp => h p (List.mem_of_mem_drop hp))]
  rw [show a.length - (a.length - lcp a b) = lcp a b by omega, lcp_take, List.take_append_drop]
def dist (x b : List Bytes) : Nat := (x.length - lcp x b) + (b.length - lcp x b)
theorem way_len (a b : List Bytes) : (way a b).length = dist a b := by unfold way dist; simp
theorem dist_step (x b : List Bytes) (p : Bytes) : dist x b ≤ dist (cstep x p) b + 1 := by
  unfold cstep
  split
  · rcases List.eq_nil_or_concat x with e | ⟨y, q, e⟩
    · subst e; simp
    · subst e
      rw [List.concat_eq_append, List.dropLast_concat]
      have h1 := (lcp_snoc y b q).1
      have h2 := lcp_left y b
      have h3 := lcp_right y b
      have h4 := (lcp_snoc y b q).2
      have h5 := lcp_left (y ++ [q]) b
      have h6 := lcp_right (y ++ [q]) b
      unfold dist
      rw [List.length_append] at *
      simp only [List.length_cons, List.length_nil] at *
      omega
  · have h1 := (lcp_snoc x b p).2
    have h2 := lcp_left x b
    have h3 := lcp_right x b
    have h5 := lcp_left (x ++ [p]) b
    have h6 := lcp_right (x ++ [p]) b
    unfold dist
    rw [List.length_append] at *
    simp only [List.length_cons, List.length_nil] at *
    omega
theorem dist_fold : ∀ (T a b : List Bytes), dist a b ≤ T.length + dist (T.foldl cstep a) b
  | [], a, b => by simp
  | p :: T, a, b => by
    have h1 := dist_step a b p
    have h2 := dist_fold T (cstep a p) b
    rw [List.foldl_cons, List.length_cons]; omega
theorem dist_self (b : List Bytes) : dist b b = 0 := by unfold dist; rw [lcp_self]; omega

theorem dd_part : Part dd := by unfold Part dd; decide
theorem way_parts {a b : List Bytes} (h : ∀ p ∈ b, Part p) : ∀ p ∈ way a b, Part p := by
  intro p hp
  unfold way at hp
  rcases List.mem_append.1 hp with h1 | h1
  · rw [List.eq_of_mem_replicate h1]; exact dd_part
  · exact h p (List.mem_of_mem_drop h1)
theorem way_are (dir s : Bytes) : ∀ p ∈ way (parts (clean dir)) (parts (clean s)), Part p := way_parts fun p hp => (clean_parts_plain s p hp).1
theorem parts_to (dir s : Bytes) : parts (to dir s) = way (parts (clean dir)) (parts (clean s)) := by
  unfold to
  simp only
  split
  · rename_i e; rw [e]; decide
  · exact slashed_parts _ (way_are dir s)
theorem to_rel (dir s : Bytes) : rel (to dir s) = true := by
  have hw := way_are dir s
  unfold to
  simp only
  generalize way (parts (clean dir)) (parts (clean s)) = L at *
  split
  · decide
  · rename_i h
    have h1 := slashed_head hw
    have h2 : slashed L ≠ [] := by
      intro e
      have := slashed_parts L hw
      rw [e, parts_nil] at this
      exact h this.symm
    simp [rel, h1, h2]
theorem join_rel {d t : Bytes} (h : rel t = true) : join d t = text ((parts t).foldl cstep (parts (clean d))) := by
  unfold join
  simp only [rel, Bool.and_eq_true, decide_eq_true_eq] at h
  rw [if_neg h.2, clean_slash]
/-- the way ends there -/
theorem join_to (dir s : Bytes) : join dir (to dir s) = clean s := by
  rw [join_rel (to_rel dir s), parts_to, fold_way (fun p hp => (clean_parts_plain s p hp).2), text_parts (clean_clean s)]
theorem parts_join {d t : Bytes} (h : rel t = true) : parts (join d t) = (parts t).foldl cstep (parts (clean d)) := by
  rw [join_rel h, parts_text]
  exact fun p hp => (fold_part _ _ (clean_parts_plain d) (parts_are t) p hp).1
/-- none is shorter -/
theorem steps_least {dir s t : Bytes} (h : rel t = true) (h2 : join dir t = clean s) : steps dir s ≤ (parts t).length := by
  have e := parts_join (d := dir) h
  rw [h2] at e
  unfold steps
  rw [way_len]
  have := dist_fold (parts t) (parts (clean dir)) (parts (clean s))
  rw [← e, dist_self] at this
  exact this
/-- a way's text is one point where there are no steps -/
theorem to_point (dir s : Bytes) : to dir s = [46] ↔ way (parts (clean dir)) (parts (clean s)) = [] := by
  constructor
  · intro e
    have := parts_to dir s
    rw [e] at this
    rw [← this]; decide
  · intro e; unfold to; simp [e]
theorem steps_to (dir s : Bytes) : (if to dir s = [46] then 0 else (parts (to dir s)).length) = steps dir s := by
  rw [parts_to]
  unfold steps
  split
  · rename_i e; rw [(to_point dir s).1 e]; rfl
  · rfl
/-! lengths -/
theorem total_repl (k : Nat) : total (List.replicate k dd) = 3 * k := by
  induction k with
  | zero => rfl
  | succ k ih => rw [List.replicate_succ, total_cons, ih]; simp [dd]; omega
theorem total_len (L : List Bytes) : L.length ≤ total L := by
  induction L with
  | nil => simp
  | cons p L ih => rw [total_cons, List.length_cons]; omega
theorem way_total (dir s : Bytes) : total (way (parts (clean dir)) (parts (clean s))) ≤ 3 * dir.length + s.length + 12 := by
  unfold way
  rw [total_append, total_repl]
  have h1 := total_len (parts (clean dir))
  have h2 := parts_total (clean dir)
  have h3 := clean_len dir
  have h4 := parts_total (clean s)
  have h5 := clean_len s
  have h6 : total ((parts (clean s)).drop (lcp (parts (clean dir)) (parts (clean s)))) ≤ total (parts (clean s)) := by
    conv => rhs; rw [← List.take_append_drop (lcp (parts (clean dir)) (parts (clean s))) (parts (clean s)), total_append]
    omega
  omega
theorem to_len (dir s : Bytes) : (to dir s).length ≤ 3 * dir.length + s.length + 12 := by
  have h := way_total dir s
  unfold to
  simp only
  split
  · simp
  · exact Nat.le_trans (slashed_len _) h
theorem flat_slashed : ∀ L : List Bytes, L ≠ [] → L.flatMap (fun p => 47 :: p) = 47 :: slashed L
  | [], h => absurd rfl h
  | [p], _ => by simp [slashed]
  | p :: q :: r, _ => by
    rw [List.flatMap_cons, flat_slashed (q :: r) (by simp)]; first | rfl | simp [slashed]
end Go.Proofs.YtkijenblfpmdaaaDoor.M05
