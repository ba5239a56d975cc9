/-
  Texts joined, in build order, each with its own comment and its own conditions: W07Whole, W08Real, W08Abs, OpenNodes.
-/
import Derived.Test.YtolhniepejhmfaaGreatDoorJ02
import Derived.Test.YtolhniepejhmfaaGreatDoorJ07
import Derived.Test.YtolhniepejhmfaaGreatDoorJ01
/-
  Plain mathematics for layer 7 (tree): what a directory's entries are in a right tree; going from Root through the directories, each node is come to once. Lists alone. No condition but those that each theorem bears.
-/
namespace Go.Proofs.YtolhniepejhmfaaGreatDoor.M07
open Go.Proofs.YtolhniepejhmfaaGreatDoor.M03 (lt lt_trans lt_asymm)
open Go.Proofs.YtolhniepejhmfaaGreatDoor.M06 (Ent)

theorem mem_put_iff {L : List Ent} {e x : Ent} (h : M06.right L = true) : x ∈ M06.put L e ↔ x = e ∨ (x ∈ L ∧ x.1 ≠ e.1) := by
  unfold M06.put M06.putL M06.cutL
  rw [M06.all_right h]
  simp only [List.mem_append, List.mem_filter, List.mem_cons, decide_eq_true_eq]
  constructor
  · rintro (⟨⟨h1, h2⟩, _⟩ | h1 | ⟨⟨h1, h2⟩, _⟩)
    · exact Or.inr ⟨h1, h2⟩
    · exact Or.inl h1
    · exact Or.inr ⟨h1, h2⟩
  · rintro (h1 | ⟨h1, h2⟩)
    · exact Or.inr (Or.inl h1)
    · rcases M03.lt_total x.1 e.1 with h3 | h3 | h3
      · exact Or.inl ⟨⟨h1, h2⟩, h3⟩
      · exact absurd h3 h2
      · exact Or.inr (Or.inr ⟨⟨h1, h2⟩, h3⟩)
theorem mem_fold : ∀ (l out : List Ent), M06.right out = true → l.Pairwise (fun a b => a.1 ≠ b.1) → (∀ a ∈ out, ∀ b ∈ l, a.1 ≠ b.1) → ∀ x, x ∈ l.foldl M06.put out ↔ x ∈ out ∨ x ∈ l
  | [], out, _, _, _, x => by simp
  | e :: l, out, hr, hp, hd, x => by
    rw [List.pairwise_cons] at hp
    rw [List.foldl_cons, mem_fold l (M06.put out e) (M06.right_put out e) hp.2 (fun a ha b hb => by
      rcases (mem_put_iff hr).1 ha with h1 | ⟨h1, _⟩
      · rw [h1]; exact hp.1 b hb
      · exact hd a h1 b (List.mem_cons_of_mem _ hb)) x, mem_put_iff hr, List.mem_cons]
    constructor
    · rintro ((h1 | ⟨h1, _⟩) | h1)
      · exact Or.inr (Or.inl h1)
      · exact Or.inl h1
      · exact Or.inr (Or.inr h1)
    · rintro (h1 | h1 | h1)
      · exact Or.inl (Or.inr ⟨h1, hd x h1 e List.mem_cons_self⟩)
      · exact Or.inl (Or.inl h1)
      · exact Or.inr h1
/-- a directory's entries are its nodes' -/
theorem mem_list {t : Tr} (h : Right t) {d : Int} {e : Ent} : e ∈ listDir t.L d ↔ ∃ a ∈ t.L, a.up = d ∧ a.num ≠ 1 ∧ entOf a = e := by
  unfold listDir
  have hp : ((t.L.filter (stands d)).map entOf).Pairwise (fun a b => a.1 ≠ b.1) := by
    rw [List.pairwise_map]
    refine List.Pairwise.imp_of_mem ?_ (h.rise.filter (stands d))
    intro a b ha hb hab he
    obtain ⟨ha1, ha2⟩ := List.mem_filter.1 ha
    obtain ⟨hb1, hb2⟩ := List.mem_filter.1 hb
    simp only [stands, Bool.and_eq_true, decide_eq_true_eq] at ha2 hb2
    have := h.once a ha1 b hb1 ha2.2 hb2.2 (by rw [ha2.1, hb2.1]) he
    rw [this] at hab
    omega
  rw [mem_fold _ [] rfl hp (fun a ha => by simp at ha)]
  simp only [List.not_mem_nil, false_or, List.mem_map, List.mem_filter, stands, Bool.and_eq_true, decide_eq_true_eq]
  constructor
  · rintro ⟨a, ⟨h1, h2, h3⟩, h4⟩; exact ⟨a, h1, h2, h3, h4⟩
  · rintro ⟨a, h1, h2, h3, h4⟩; exact ⟨a, ⟨h1, h2, h3⟩, h4⟩
theorem list_rises (L : List Nd) (d : Int) : (listDir L d).Pairwise (fun a b => lt a.1 b.1) := (M06.right_iff _).1 (M06.right_fold _ _ rfl)
/-- the numbers in a directory -/
def kids (t : Tr) (d : Int) : List Int := (listDir t.L d).map (·.2)
theorem mem_kids {t : Tr} (h : Right t) {d c : Int} : c ∈ kids t d ↔ ∃ a ∈ t.L, a.up = d ∧ a.num ≠ 1 ∧ a.num = c := by
  unfold kids
  rw [List.mem_map]
  constructor
  · rintro ⟨e, he, rfl⟩
    obtain ⟨a, h1, h2, h3, rfl⟩ := (mem_list h).1 he
    exact ⟨a, h1, h2, h3, rfl⟩
  · rintro ⟨a, h1, h2, h3, rfl⟩
    exact ⟨entOf a, (mem_list h).2 ⟨a, h1, h2, h3, rfl⟩, rfl⟩
theorem kids_nodup {t : Tr} (h : Right t) (d : Int) : (kids t d).Nodup := by
  unfold kids List.Nodup
  rw [List.pairwise_map]
  refine List.Pairwise.imp_of_mem ?_ (list_rises t.L d)
  intro a b ha hb hab he
  obtain ⟨x, x1, _, _, rfl⟩ := (mem_list h).1 ha
  obtain ⟨y, y1, _, _, rfl⟩ := (mem_list h).1 hb
  have : x = y := by rw [← h.at_ x1, ← h.at_ y1]; exact congrArg _ he
  rw [this] at hab
  exact lt_asymm hab hab

/-- what is held while one goes from Root through the directories: met are come to, the first i of them are gone through -/
structure Met (t : Tr) (met : List Int) (i : Nat) : Prop where
  once : met.Nodup
  root : (1 : Int) ∈ met
  are : ∀ n ∈ met, ∃ a ∈ t.L, a.num = n
  done : ∀ n ∈ met.take i, ∀ c ∈ kids t n, c ∈ met
  by_ : ∀ a ∈ t.L, a.num ∈ met → a.num ≠ 1 → a.up ∈ met.take i
theorem met_start {t : Tr} (h : Right t) : Met t [1] 0 where
  once := by simp
  root := by simp
  are := by
    intro n hn
    obtain ⟨r, hr⟩ := h.root
    rw [List.mem_singleton.1 hn]
    exact ⟨⟨1, 1, [], 1, []⟩, by rw [hr]; exact List.mem_cons_self, rfl⟩
  done := by simp
  by_ := fun a _ ha h1 => absurd (List.mem_singleton.1 ha) h1
theorem met_next {t : Tr} (h : Right t) {met : List Int} {i : Nat} (m : Met t met i) (hi : i < met.length) : Met t (met ++ kids t met[i]) (i + 1) := by
  have htake : (met ++ kids t met[i]).take (i + 1) = met.take i ++ [met[i]] := by
    rw [List.take_append_of_le_length (by omega), List.take_succ_eq_append_getElem hi]
  constructor
  · rw [List.nodup_append]
    refine ⟨m.once, kids_nodup h _, fun a ha b hb e => ?_⟩
    subst e
    obtain ⟨x, x1, x2, x3, x4⟩ := (mem_kids h).1 hb
    have h1 := m.by_ x x1 (by rw [x4]; exact ha) x3
    rw [x2] at h1
    obtain ⟨j, hj, e⟩ := List.mem_iff_getElem.1 h1
    rw [List.length_take] at hj
    rw [List.getElem_take] at e
    have hji : j < i := by omega
    exact (List.pairwise_iff_getElem.1 m.once) j i (by omega) hi hji e
  · exact List.mem_append_left _ m.root
  · intro n hn
    rcases List.mem_append.1 hn with h1 | h1
    · exact m.are n h1
    · obtain ⟨x, x1, _, _, x4⟩ := (mem_kids h).1 h1
      exact ⟨x, x1, x4⟩
  · intro n hn c hc
    rw [htake] at hn
    rcases List.mem_append.1 hn with h1 | h1
    · exact List.mem_append_left _ (m.done n h1 c hc)
    · rw [List.mem_singleton.1 h1] at hc
      exact List.mem_append_right _ hc
  · intro a ha hm h1
    rw [htake]
    rcases List.mem_append.1 hm with h2 | h2
    · exact List.mem_append_left _ (m.by_ a ha h2 h1)
    · obtain ⟨x, x1, x2, _, x4⟩ := (mem_kids h).1 h2
      have : x = a := by rw [← h.at_ x1, ← h.at_ ha, x4]
      rw [← this, x2]
      exact List.mem_append_right _ (by simp)
theorem met_all {t : Tr} (h : Right t) {met : List Int} (m : Met t met met.length) : ∀ (k : Nat) {a : Nd}, a ∈ t.L → upN t.L k a.num = 1 → a.num ∈ met
  | 0, a, _, hk => by have e : a.num = 1 := hk; rw [e]; exact m.root
  | k + 1, a, ha, hk => by
    by_cases h1 : a.num = 1
    · rw [h1]; exact m.root
    · obtain ⟨b, hb, eb, _⟩ := h.up_mem ha
      have hk2 : upN t.L k (upOf t.L a.num) = 1 := hk
      rw [h.upOf_ ha, ← eb] at hk2
      have ih := met_all h m k hb hk2
      exact m.done b.num (by rw [List.take_length]; exact ih) a.num ((mem_kids h).2 ⟨a, ha, eb.symm, h1, rfl⟩)
theorem nodup_len : ∀ (a b : List Int), a.Nodup → a ⊆ b → a.length ≤ b.length
  | [], _, _, _ => Nat.zero_le _
  | x :: a, b, hn, hs => by
    rw [List.nodup_cons] at hn
    obtain ⟨s, u, rfl⟩ := List.append_of_mem (hs List.mem_cons_self)
    have h1 := nodup_len a (s ++ u) hn.2 (fun y hy => by
      have := hs (List.mem_cons_of_mem _ hy)
      rcases List.mem_append.1 this with h | h
      · exact List.mem_append_left _ h
      · rcases List.mem_cons.1 h with h | h
        · rw [h] at hy; exact absurd hy hn.1
        · exact List.mem_append_right _ h)
    simp only [List.length_append, List.length_cons] at h1 ⊢
    omega
theorem nums_nodup {t : Tr} (h : Right t) : (t.L.map (·.num)).Nodup := by
  unfold List.Nodup
  rw [List.pairwise_map]
  exact h.rise.imp fun {_ _} hab => by omega
theorem met_len {t : Tr} (_h : Right t) {met : List Int} {i : Nat} (m : Met t met i) : met.length ≤ t.L.length := by
  have h1 : met ⊆ t.L.map (·.num) := fun n hn => by
    obtain ⟨a, ha, e⟩ := m.are n hn
    exact List.mem_map.2 ⟨a, ha, e⟩
  have := nodup_len _ _ m.once h1
  rwa [List.length_map] at this
/-- at the end all have been come to -/
theorem met_end {t : Tr} (h : Right t) {met : List Int} (m : Met t met met.length) : met.length = t.L.length := by
  refine Nat.le_antisymm (met_len h m) ?_
  have h1 : t.L.map (·.num) ⊆ met := fun n hn => by
    obtain ⟨a, ha, rfl⟩ := List.mem_map.1 hn
    obtain ⟨k, hk⟩ := h.low a ha
    exact met_all h m k ha hk
  have := nodup_len _ _ (nums_nodup h) h1
  rwa [List.length_map] at this
end Go.Proofs.YtolhniepejhmfaaGreatDoor.M07
/-
  Plain mathematics for layer 8 (seek): the names by which one comes from Root to a node; where they lead; paths that lead by directories alone. Lists alone. No condition but those that each theorem bears.
-/
namespace Go.Proofs.YtolhniepejhmfaaGreatDoor.M08
open Go.Proofs.YtolhniepejhmfaaGreatDoor.M07 hiding Bytes
open Go.Proofs.YtolhniepejhmfaaGreatDoor.M04
open Go.Proofs.YtolhniepejhmfaaGreatDoor.M03 (check)

/-- each node but Root bears a name that may be -/
def Named (t : Tr) : Prop := ∀ a ∈ t.L, a.num ≠ 1 → check a.name = 0
theorem named_new : Named M07.new := by intro a ha h1; rw [List.mem_singleton.1 ha] at h1; exact absurd rfl h1
theorem put_checked {t : Tr} {d k : Int} {s x : Bytes} (he : putErr t d s k x = 0) : check s = 0 := by
  unfold putErr at he
  split at he
  · rename_i q; exact absurd he q
  · split at he
    · rename_i q; exact absurd he q
    · rename_i q; simpa using q
theorem named_put {t : Tr} (h : Named t) (d : Int) (s : Bytes) (k : Int) (x : Bytes) : Named (M07.put t d s k x).1 := by
  unfold M07.put
  split
  · exact h
  · rename_i he
    have he0 : putErr t d s k x = 0 := by simpa using he
    intro a ha h1
    rcases List.mem_append.1 ha with h2 | h2
    · exact h a h2 h1
    · rw [List.mem_singleton.1 h2]; exact put_checked he0

/-! names from Root down -/
def namesOf (L : List Nd) : Nat → Int → List Bytes
  | 0, _ => []
  | k + 1, n => if n = 1 then [] else namesOf L k (upOf L n) ++ [(nodeAt L n).name]
noncomputable def names (t : Tr) (n : Int) : List Bytes := namesOf t.L (height t.L n) n
theorem height_spec {L : List Nd} {n : Int} (h : ∃ k, upN L k n = 1) : upN L (height L n) n = 1 ∧ ∀ i, upN L i n = 1 → height L n ≤ i := by
  unfold height
  rw [dif_pos h]
  exact Classical.choose_spec (least h)
theorem height_next {L : List Nd} {n : Int} (h : ∃ k, upN L k n = 1) (h1 : n ≠ 1) : height L n = height L (upOf L n) + 1 := by
  obtain ⟨h2, h3⟩ := height_up h h1
  have a := (height_spec h2).1
  have b := (height_spec h).2 (height L (upOf L n) + 1) a
  omega
theorem height_root (L : List Nd) : height L 1 = 0 := by
  have := (height_spec (L := L) (n := 1) ⟨0, rfl⟩).2 0 rfl
  omega
theorem names_root (t : Tr) : names t 1 = [] := by unfold names; rw [height_root]; rfl
theorem names_next {t : Tr} (h : Right t) {n : Int} (hk : (nodeAt t.L n).kind ≠ 0) (h1 : n ≠ 1) : names t n = names t (nodeAt t.L n).up ++ [(nodeAt t.L n).name] := by
  unfold names
  rw [height_next (h.reach hk) h1]
  show (if n = 1 then [] else _) = _
  rw [if_neg h1]
  rfl
theorem names_checked {t : Tr} (h : Right t) (hN : Named t) : ∀ (k : Nat) {n : Int}, (nodeAt t.L n).kind ≠ 0 → height t.L n = k → ∀ p ∈ names t n, check p = 0
  | k, n, hk, he => by
    by_cases h1 : n = 1
    · subst h1; rw [names_root]; intro p hp; cases hp
    · rw [names_next h hk h1]
      have hm := at_some hk
      have hu := h.up _ hm.1
      have hn := height_next (h.reach hk) h1
      intro p hp
      rcases List.mem_append.1 hp with h2 | h2
      · cases k with
        | zero => omega
        | succ k => exact names_checked h hN k (by rw [hu]; decide) (by have e : height t.L (upOf t.L n) = height t.L (nodeAt t.L n).up := rfl; omega) p h2
      · rw [List.mem_singleton.1 h2]
        exact hN _ hm.1 (by rw [hm.2]; exact h1)
/-- the path of the names -/
noncomputable def real (t : Tr) (n : Int) : Bytes × Bool := if (nodeAt t.L n).kind = 0 then ([], false) else (text (names t n), true)
theorem points_not : check [46, 46] ≠ 0 := by decide
theorem check_part {p : Bytes} (h : check p = 0) : Part p := by
  unfold M03.check at h
  split at h
  · cases h
  · rename_i h0
    split at h
    · cases h
    · split at h
      · cases h
      · rename_i hb
        split at h
        · cases h
        · rename_i hp
          refine ⟨fun e => ?_, fun e => h0 (by rw [e]; rfl), fun e => hp (Or.inl e)⟩
          exact hb (List.any_eq_true.2 ⟨47, e, by decide⟩)
theorem zero_none {t : Tr} (h : Right t) : (nodeAt t.L 0).kind = 0 := by
  rw [at_none]
  · rfl
  · intro a ha e; have := (h.ends a ha).1; omega
theorem in_of {t : Tr} (h : Right t) {n : Int} (hk : (nodeAt t.L n).kind ≠ 0) (h1 : n ≠ 1) : inDir t.L (nodeAt t.L n).up (nodeAt t.L n).name = n := by
  have hm := at_some hk
  have hne : inDir t.L (nodeAt t.L n).up (nodeAt t.L n).name ≠ 0 := fun e => in_not (fun a ha => (h.ends a ha).1) e _ hm.1 (by rw [hm.2]; exact h1) ⟨rfl, rfl⟩
  obtain ⟨a, ha, e1, e2, e3, e4⟩ := in_found hne
  have := h.once a ha _ hm.1 e4 (by rw [hm.2]; exact h1) e2 e3
  rw [← e1, this, hm.2]
theorem not_points {p : Bytes} (h : check p = 0) : ¬ p = [46, 46] := fun e => points_not (e ▸ h)
theorem go_names {t : Tr} (h : Right t) (hN : Named t) (last : Bool) (hops : Nat) : ∀ (k : Nat) {d : Int} (rest : List Bytes), (nodeAt t.L d).kind = 1 → height t.L d = k → goTo t 1 (names t d ++ rest) last hops = goTo t d rest last hops
  | k, d, rest, hk, he => by
    by_cases h1 : d = 1
    · subst h1; rw [names_root]; rfl
    · have hk0 : (nodeAt t.L d).kind ≠ 0 := by rw [hk]; decide
      have hm := at_some hk0
      have hu := h.up _ hm.1
      have hn := height_next (h.reach hk0) h1
      have hc := hN _ hm.1 (by rw [hm.2]; exact h1)
      rw [names_next h hk0 h1, List.append_assoc]
      cases k with
      | zero => omega
      | succ k =>
        rw [go_names h hN last hops k _ hu (by have e : height t.L (upOf t.L d) = height t.L (nodeAt t.L d).up := rfl; omega)]
        have e := in_of h hk0 h1
        have := go_on (t := t) (at_ := (nodeAt t.L d).up) (p := (nodeAt t.L d).name) (r := rest) (last := last) (hops := hops) hu (not_points hc) hc (by rw [e]; intro e0; rw [e0] at hk0; exact hk0 (zero_none h)) (Or.inl (by rw [e, hk]; decide))
        rw [e] at this
        exact this
theorem go_to_names {t : Tr} (h : Right t) (hN : Named t) {n : Int} (hk : (nodeAt t.L n).kind ≠ 0) : goTo t 1 (names t n) false 0 = (n, 0, 0) := by
  by_cases h1 : n = 1
  · subst h1; rw [names_root, go_nil]
  · have hm := at_some hk
    have hu := h.up _ hm.1
    have hc := hN _ hm.1 (by rw [hm.2]; exact h1)
    have e := in_of h hk h1
    rw [names_next h hk h1, go_names h hN false 0 _ _ hu rfl, go_on hu (not_points hc) hc (by rw [e]; intro e0; rw [e0] at hk; exact hk (zero_none h)) (Or.inr ⟨rfl, rfl⟩), e, go_nil]
theorem names_parts {t : Tr} (h : Right t) (hN : Named t) {n : Int} (hk : (nodeAt t.L n).kind ≠ 0) : parts (text (names t n)) = names t n := parts_text fun p hp => check_part (names_checked h hN _ hk rfl p hp)
theorem text_ne (L : List Bytes) : text L ≠ [] := by
  unfold text
  split
  · simp
  · rename_i h
    cases L with
    | nil => exact absurd rfl h
    | cons p r => simp
theorem real_found {t : Tr} (h : Right t) (hN : Named t) {n : Int} (hk : (nodeAt t.L n).kind ≠ 0) (hl : (text (names t n)).length ≤ 1024) : find t (text (names t n)) false = (n, 0) ∧ isPath (text (names t n)) = true := by
  constructor
  · unfold find
    rw [if_neg (text_ne _), if_neg (by omega), names_parts h hN hk, go_to_names h hN hk]
  · unfold isPath
    rw [names_parts h hN hk]
    simp only [decide_true, Bool.true_and, Bool.and_eq_true, decide_eq_true_eq, List.all_eq_true]
    exact ⟨hl, names_checked h hN _ hk rfl⟩
/-! by directories alone -/
def dirs (t : Tr) : Int → List Bytes → Bool
  | _, [] => true
  | a, p :: r => if (nodeAt t.L (inDir t.L a p)).kind ≠ 1 then false else dirs t (inDir t.L a p) r
def dirAt (t : Tr) : Int → List Bytes → Int
  | a, [] => a
  | a, p :: r => dirAt t (inDir t.L a p) r
def straight (t : Tr) (p : Bytes) : Bool := isPath p && dirs t 1 (parts p)
theorem dirs_go {t : Tr} : ∀ (l : List Bytes) (a : Int) (hops : Nat), (nodeAt t.L a).kind = 1 → dirs t a l = true → (∀ p ∈ l, check p = 0) → Right t → goTo t a l true hops = (dirAt t a l, hops, 0)
  | [], a, hops, _, _, _, _ => go_nil
  | p :: r, a, hops, ha, hd, hc, h => by
    unfold dirs at hd
    split at hd
    · cases hd
    · rename_i hk
      have hk : (nodeAt t.L (inDir t.L a p)).kind = 1 := by simpa using hk
      have hcp := hc p List.mem_cons_self
      rw [go_on ha (not_points hcp) hcp (fun e => by rw [e, zero_none h] at hk; cases hk) (Or.inl (by rw [hk]; decide))]
      exact dirs_go r _ hops hk hd (fun q hq => hc q (List.mem_cons_of_mem _ hq)) h
theorem dirs_names {t : Tr} (h : Right t) : ∀ (l : List Bytes) (a : Int), (nodeAt t.L a).kind = 1 → dirs t a l = true → names t (dirAt t a l) = names t a ++ l ∧ (nodeAt t.L (dirAt t a l)).kind = 1
  | [], a, ha, _ => ⟨by rw [List.append_nil]; rfl, ha⟩
  | p :: r, a, ha, hd => by
    unfold dirs at hd
    split at hd
    · cases hd
    · rename_i hk
      have hk : (nodeAt t.L (inDir t.L a p)).kind = 1 := by simpa using hk
      have hne : inDir t.L a p ≠ 0 := fun e => by rw [e, zero_none h] at hk; cases hk
      obtain ⟨b, hb, e1, e2, e3, e4⟩ := in_found hne
      obtain ⟨i1, i2⟩ := dirs_names h r _ hk hd
      refine ⟨?_, i2⟩
      show names t (dirAt t (inDir t.L a p) r) = _
      rw [i1, names_next h (by rw [hk]; decide) (by rw [← e1]; exact e4), ← e1, h.at_ hb, e2, e3, List.append_assoc]; rfl
theorem straight_found {t : Tr} (h : Right t) {p : Bytes} (hs : straight t p = true) : find t p true = (dirAt t 1 (parts p), 0) ∧ real t (dirAt t 1 (parts p)) = (p, true) := by
  unfold straight at hs
  simp only [Bool.and_eq_true] at hs
  obtain ⟨h1, h2⟩ := hs
  unfold isPath at h1
  simp only [Bool.and_eq_true, decide_eq_true_eq, List.all_eq_true] at h1
  obtain ⟨⟨e, hl⟩, hc⟩ := h1
  have hr : (nodeAt t.L 1).kind = 1 := by rw [h.at_root]
  obtain ⟨n1, n2⟩ := dirs_names h _ 1 hr h2
  constructor
  · unfold find
    rw [if_neg (by rw [e]; exact text_ne _), if_neg (by omega), dirs_go _ 1 0 hr h2 hc h]
  · unfold real
    rw [if_neg (by rw [n2]; decide), n1, names_root, List.nil_append, ← e]
/-! how long such a path is -/
theorem names_len {t : Tr} (h : Right t) : ∀ (k : Nat) {n : Int}, (nodeAt t.L n).kind ≠ 0 → height t.L n = k → (names t n).length = k
  | k, n, hk, he => by
    by_cases h1 : n = 1
    · subst h1; rw [height_root] at he; rw [names_root, ← he]; rfl
    · have hm := at_some hk
      have hu := h.up _ hm.1
      have hn := height_next (h.reach hk) h1
      have e : height t.L (upOf t.L n) = height t.L (nodeAt t.L n).up := rfl
      rw [names_next h hk h1, List.length_append]
      cases k with
      | zero => omega
      | succ k => rw [names_len h k (by rw [hu]; decide) (by omega)]; rfl
theorem climb {t : Tr} (h : Right t) : ∀ (i : Nat) {n : Int}, (nodeAt t.L n).kind ≠ 0 → i ≤ height t.L n → height t.L (upN t.L i n) = height t.L n - i ∧ (nodeAt t.L (upN t.L i n)).kind ≠ 0
  | 0, n, hk, _ => ⟨rfl, hk⟩
  | i + 1, n, hk, hi => by
    by_cases h1 : n = 1
    · subst h1; rw [height_root] at hi; omega
    · have hm := at_some hk
      have hu := h.up _ hm.1
      have hn := height_next (h.reach hk) h1
      have hk2 : (nodeAt t.L (upOf t.L n)).kind ≠ 0 := by show (nodeAt t.L (nodeAt t.L n).up).kind ≠ 0; rw [hu]; decide
      have := climb h i (n := upOf t.L n) hk2 (by omega)
      show height t.L (upN t.L i (upOf t.L n)) = _ ∧ (nodeAt t.L (upN t.L i (upOf t.L n))).kind ≠ 0
      exact ⟨by rw [this.1]; omega, this.2⟩
theorem height_le {t : Tr} (h : Right t) {n : Int} (hk : (nodeAt t.L n).kind ≠ 0) : height t.L n ≤ t.L.length := by
  have h1 := nodup_len ((List.range (height t.L n)).map (fun i => upN t.L i n)) (t.L.map (·.num)) (by
    rw [List.Nodup, List.pairwise_map]
    refine List.Pairwise.imp_of_mem ?_ (List.pairwise_lt_range)
    intro a b ha hb hab e
    have ha := List.mem_range.1 ha
    have hb := List.mem_range.1 hb
    have c1 := (climb h a hk (by omega)).1
    have c2 := (climb h b hk (by omega)).1
    rw [e] at c1
    omega) (fun x hx => by
    obtain ⟨i, hi, rfl⟩ := List.mem_map.1 hx
    have hi := List.mem_range.1 hi
    have := at_some (climb h i hk (by omega)).2
    exact List.mem_map.2 ⟨_, this.1, this.2⟩)
  simp only [List.length_map, List.length_range] at h1
  exact h1
def flatN (L : List Bytes) : Bytes := L.flatMap (fun p => 47 :: p)
theorem flatN_len : ∀ (L : List Bytes), (∀ p ∈ L, check p = 0) → (flatN L).length ≤ 65 * L.length
  | [], _ => by simp [flatN]
  | p :: r, h => by
    have := flatN_len r fun q hq => h q (List.mem_cons_of_mem _ hq)
    have hp := h p List.mem_cons_self
    have h64 : p.length ≤ 64 := by
      unfold M03.check at hp
      split at hp
      · cases hp
      · split at hp
        · cases hp
        · omega
    show (47 :: p ++ flatN r).length ≤ _
    rw [List.length_append, List.length_cons, List.length_cons]
    omega
theorem names_bound {t : Tr} (h : Right t) (hN : Named t) {n : Int} (hk : (nodeAt t.L n).kind ≠ 0) : (flatN (names t n)).length ≤ 65 * t.L.length := by
  have h1 := flatN_len (names t n) (names_checked h hN _ hk rfl)
  have h2 := names_len h _ hk rfl
  have h3 := height_le h hk
  omega
theorem flatN_next {t : Tr} (h : Right t) {n : Int} (hk : (nodeAt t.L n).kind ≠ 0) (h1 : n ≠ 1) : flatN (names t n) = flatN (names t (nodeAt t.L n).up) ++ 47 :: (nodeAt t.L n).name := by
  rw [names_next h hk h1]
  unfold flatN
  rw [List.flatMap_append]; simp
theorem text_flatN {L : List Bytes} (h : flatN L ≠ []) : text L = flatN L := by
  unfold text
  rw [if_neg (fun e => h (by rw [e]; rfl))]; rfl
theorem text_flat0 {L : List Bytes} (h : flatN L = []) : text L = [47] := by
  cases L with
  | nil => rfl
  | cons p r => exact absurd h (by simp [flatN])
end Go.Proofs.YtolhniepejhmfaaGreatDoor.M08
/-
  Layer 8 (seek): what the laws ask of the program's calls, as a structure of contracts over any reading of a tree ('Seeks'); the laws' nodes as records, Few; what Made makes. No condition but those that each theorem bears.
-/
namespace Go.Proofs.YtolhniepejhmfaaGreatDoor.W08
set_option maxRecDepth 100000
open Go Go.RowKit Go.Proofs.YtolhniepejhmfaaGreatDoor.Strs Go.Proofs.YtolhniepejhmfaaGreatDoor.Recs Go.Proofs.YtolhniepejhmfaaGreatDoor.Range
open Go.Proofs.YtolhniepejhmfaaGreatDoor.M07 (Tr nodeAt inDir Right put put_right)
open Go.Proofs.YtolhniepejhmfaaGreatDoor.M08
open Go.Proofs.YtolhniepejhmfaaGreatDoor.W07 (Small Trees)
open Go.Proofs.YtolhniepejhmfaaGreatDoor.Kit (ret_str ret_bool ret_int mk_of mk_bytes ba_ext below_draws on)

abbrev Bytes := List UInt8
/-- a tree of few nodes, few bytes, names that may be -/
structure Good (t : Tr) : Prop where
  small : Small t
  fit : Fit t
  named : Named t
structure Seeks (Rep : (Nat → Prop) → World → Value → Tr → Prop) : Prop where
  find : ∀ {F w v t}, Rep F w v t → Good t → ∀ (p : ByteArray) (last : Bool), p.size ≤ 1048576 → Calls Tryz.prog 85 #[v, .string p, .bool last] w fun e w' => e = .returned (.tuple #[.int .i64 (M08.find t p.data.toList last).1, .int .i64 (M08.find t p.data.toList last).2]) ∧ Below w.heap.size w w'
  spot : ∀ {F w v t}, Rep F w v t → Good t → ∀ (p : ByteArray), p.size ≤ 1048576 → Calls Tryz.prog 83 #[v, .string p] w fun e w' => e = .returned (.tuple #[.int .i64 (spot t p.data.toList).1, .string ⟨(spot t p.data.toList).2.1.toArray⟩, .int .i64 (spot t p.data.toList).2.2]) ∧ Below w.heap.size w w'
/-- the calls of a nil pointer -/
structure NoSeek : Prop where
  find : ∀ w (p : ByteArray) (last : Bool), Calls Tryz.prog 85 #[.pointer none, .string p, .bool last] w fun e w' => e = .returned (.tuple #[.int .i64 0, .int .i64 1]) ∧ Below w.heap.size w w'
  spot : ∀ w (p : ByteArray), Calls Tryz.prog 83 #[.pointer none, .string p] w fun e w' => e = .returned (.tuple #[.int .i64 0, .string ⟨#[]⟩, .int .i64 1]) ∧ Below w.heap.size w w'

/-! the laws' nodes -/
structure Sn where
  inn : Int
  name : Bytes
  kind : Int
  data : Bytes
def snC (x : Sn) : List Value := [.int .i64 x.inn, strV x.name, .int .i64 x.kind, strV x.data]
theorem snC_len (x : Sn) : (snC x).length = 4 := rfl
abbrev Snodes (B : Nat) (w : World) (v : Value) (L : List Sn) : Prop := Recs snC 4 B w v L
theorem Snodes.at_ {B : Nat} {w : World} {L : List Sn} {A : Option Addr} {n c : Nat} (h : Snodes B w (.slice A n c) L) {k : Nat} (hk : k < n) : ∃ (b o : Nat) (hl : k < L.length), A = some ⟨b, o, none⟩ ∧ b < B ∧ w.cell? ⟨b, o + k * 4, none⟩ = some (.int .i64 (L[k]).inn) ∧ w.cell? ⟨b, o + k * 4 + 1, none⟩ = some (.string ⟨(L[k]).name.toArray⟩) ∧ w.cell? ⟨b, o + k * 4 + 2, none⟩ = some (.int .i64 (L[k]).kind) ∧ w.cell? ⟨b, o + k * 4 + 3, none⟩ = some (.string ⟨(L[k]).data.toArray⟩) := by
  obtain ⟨b, o, hl, rfl, hb, hc⟩ := Recs.flat_ h snC_len (by omega) hk
  exact ⟨b, o, hl, rfl, hb, hc 0 (by omega), hc 1 (by omega), hc 2 (by omega), hc 3 (by omega)⟩
def isFew (l : List Sn) : Bool := l.all (fun x => decide (x.data.length ≤ 2000)) && decide (l.length ≤ 60)
def fewTo (l : List Sn) (k : Nat) : Prop := ∀ x ∈ l.take k, x.data.length ≤ 2000
theorem few_next {l : List Sn} {k : Nat} (hk : k < l.length) (h : fewTo l k) (h2 : (l[k]).data.length ≤ 2000) : fewTo l (k + 1) := by
  intro x hx
  rw [List.take_succ_eq_append_getElem hk] at hx
  rcases List.mem_append.1 hx with hx | hx
  · exact h x hx
  · rw [List.mem_singleton.1 hx]; exact h2
theorem few_end {l : List Sn} {k : Nat} (hk : ¬ k < l.length) (h : fewTo l k) : isFew l = decide (l.length ≤ 60) := by
  unfold fewTo at h
  rw [List.take_of_length_le (by omega)] at h
  unfold isFew
  rw [List.all_eq_true.2 (fun x hx => by simpa using h x hx), Bool.true_and]
theorem few_no {l : List Sn} {k : Nat} (hk : k < l.length) (h2 : ¬ (l[k]).data.length ≤ 2000) : isFew l = false := by
  unfold isFew
  rw [Bool.and_eq_false_iff]
  left
  rw [List.all_eq_false]
  exact ⟨l[k], List.getElem_mem hk, by simpa using h2⟩
theorem few_is {l : List Sn} (h : isFew l = true) : (∀ x ∈ l, x.data.length ≤ 2000) ∧ l.length ≤ 60 := by
  unfold isFew at h
  simp only [Bool.and_eq_true, decide_eq_true_eq, List.all_eq_true] at h
  exact h
set_option maxHeartbeats 1000000 in
theorem few_any (v : Value) (L : List Sn) (B : Nat) (w : World) (h : Snodes B w v L) : Calls Tryz.prog 5 #[v] w fun e w' => e = .returned (.bool (isFew L)) ∧ w' = w := by
  have H := Lib.hid h
  obtain ⟨A, c, rfl, hA1, hA2⟩ := h.form
  unfold maxLen at hA2
  clear h
  generalize hm : L.length = m at *
  have HM := Lib.hid hm
  clear hm
  go_enter Tryz.func5, Tryz.ntmps5
  go_wp2_with fail
  go_loop [3] (fun i => ∃ k : Nat, k ≤ m ∧ i = .int .i64 k ∧ Hid (fewTo L k)) (fun i => m - (intOf i).toNat)
  case atStart => exact ⟨0, Nat.zero_le _, rfl, fun x hx => by simp at hx⟩
  case round =>
    obtain ⟨k, hk, rfl, hr⟩ := hrel
    by_cases hlt : k < m
    · obtain ⟨b, o, hl1, rfl, hbl, hc0, hc1, hc2, hc3⟩ := Snodes.at_ H.out hlt
      by_cases hd : (L[k]).data.length ≤ 2000
      · have HX := Lib.hid (few_next hl1 hr.out hd)
        have td : ((L[k]).data.length : Int) ≤ 2000 := by omega
        clear hd
        go_wp2_with fail
        go_round
        case rel => exact ⟨k + 1, by omega, by go_num, HX⟩
        case measure => simp [intOf]; omega
      · have HX := Lib.hid (few_no hl1 hd)
        have td : (2000 : Int) < ((L[k]).data.length : Int) := by omega
        clear hd
        go_wp2_with fail
        go_ret
        exact ⟨ret_bool HX.out.symm, rfl⟩
    · have HX := Lib.hid (few_end (by rw [HM.out]; exact hlt) hr.out)
      rw [HM.out] at HX
      go_wp2_with fail
      go_ret
      exact ⟨ret_bool (by rw [HX.out]; congr 1; simp; omega), rfl⟩

/-! what Made makes -/
def madeDir (nums : List Int) (inn : Int) : Int := if 0 ≤ inn ∧ inn < (nums.length : Int) then nums.getD inn.toNat 0 else 1
def madeOn (st : Tr × List Int) (x : Sn) : Tr × List Int := ((put st.1 (madeDir st.2 x.inn) x.name x.kind x.data).1, st.2 ++ [(put st.1 (madeDir st.2 x.inn) x.name x.kind x.data).2.1])
def made (l : List Sn) : Tr × List Int := l.foldl madeOn (M07.new, [])
theorem made_next {l : List Sn} {k : Nat} (hk : k < l.length) : made (l.take (k + 1)) = madeOn (made (l.take k)) l[k] := by
  unfold made
  rw [List.take_succ_eq_append_getElem hk, List.foldl_append]; rfl
theorem put_more (t : Tr) (d : Int) (s : Bytes) (k : Int) (x : Bytes) : (put t d s k x).1.L.length ≤ t.L.length + 1 ∧ (put t d s k x).1.last ≤ t.last + 1 ∧ t.last ≤ (put t d s k x).1.last := by
  unfold M07.put
  split
  · exact ⟨by show t.L.length ≤ _; omega, by show t.last ≤ _; omega, Int.le_refl _⟩
  · exact ⟨by show (t.L ++ _).length ≤ _; simp, by show t.last + 1 ≤ _; omega, by show t.last ≤ t.last + 1; omega⟩
structure MadeIs (t : Tr) (nums : List Int) (k : Nat) : Prop where
  right : Right t
  fit : Fit t
  named : Named t
  len : t.L.length ≤ k + 1
  last : t.last ≤ k + 1
  count : nums.length = k
theorem MadeIs.start : MadeIs M07.new [] 0 := ⟨M07.new_right, fit_new, named_new, by decide, by decide, rfl⟩
theorem MadeIs.next {t : Tr} {nums : List Int} {k : Nat} (h : MadeIs t nums k) (x : Sn) : MadeIs (madeOn (t, nums) x).1 (madeOn (t, nums) x).2 (k + 1) := by
  have := put_more t (madeDir nums x.inn) x.name x.kind x.data
  have h1 := h.len
  have h2 := h.last
  exact ⟨put_right h.right, fit_put h.fit _ _ _ _, named_put h.named _ _ _ _, by show (put t (madeDir nums x.inn) x.name x.kind x.data).1.L.length ≤ _; omega, by show (put t (madeDir nums x.inn) x.name x.kind x.data).1.last ≤ _; omega, by show (nums ++ [_]).length = _; rw [List.length_append, h.count]; rfl⟩
theorem made_is (l : List Sn) : ∀ k, k ≤ l.length → MadeIs (made (l.take k)).1 (made (l.take k)).2 k
  | 0, _ => by rw [List.take_zero]; exact MadeIs.start
  | k + 1, hk => by
    rw [made_next (by omega)]
    exact (made_is l k (by omega)).next _
theorem made_good {l : List Sn} (h : l.length ≤ 60) : Good (made l).1 ∧ Right (made l).1 := by
  have := made_is l l.length (Nat.le_refl _)
  rw [List.take_length] at this
  have h1 := this.len
  have h2 := this.last
  exact ⟨⟨⟨by omega, by omega⟩, this.fit, this.named⟩, this.right⟩
end Go.Proofs.YtolhniepejhmfaaGreatDoor.W08
/-
  Arguments that are slices of layer 8's nodes, opened. For this program's types; no condition but those that each theorem bears.
-/
namespace Go.Proofs.YtolhniepejhmfaaGreatDoor.W08
open Go Go.RowKit Go.ChangeShapes Go.WideShapes Go.Deep Go.Joins
open Go.Proofs.YtolhniepejhmfaaGreatDoor.Strs (strV)
open Go.Proofs.YtolhniepejhmfaaGreatDoor.Recs
open Go.Proofs.YtolhniepejhmfaaGreatDoor.Kit (mk_bytes)

theorem sn_struct : ∃ f0 f1 f2 f3 : Field, Tryz.prog.underlying 59 = some (.struct #[f0, f1, f2, f3]) ∧ f0.type = 3 ∧ f1.type = 9 ∧ f2.type = 3 ∧ f3.type = 9 ∧ oneCellFields Tryz.prog #[f0, f1, f2, f3] = true :=
  ⟨_, _, _, _, Tryz.underlying59, rfl, rfl, rfl, rfl, by kernel_rfl⟩
theorem sn_cells : Tryz.prog.cellsOf 59 = 4 := by kernel_rfl
theorem four {α : Type} : ∀ {l : List α}, l.length = 4 → ∃ a b c d, l = [a, b, c, d]
  | [a, b, c, d], _ => ⟨a, b, c, d, rfl⟩
section
variable {H : Type} {enc : TypeId × Value → H} {W : World} {base : Nat}
theorem sn_read (n : Nat) (cs : List Value) (x : DataW H × List MemPlace) (hl : cs.length = 4) (h : DataW.trod enc Tryz.prog W 0 (fun _ => true) true n 59 cs = some x) : ∃ r : Sn, cs = snC r ∧ r.data.length ≤ maxLen := by
  obtain ⟨f0, f1, f2, f3, hs, e0, e1, e2, e3, hone⟩ := sn_struct
  obtain ⟨o0, k0⟩ := hone_of hone 0 f0 rfl
  obtain ⟨o1, k1⟩ := hone_of hone 1 f1 rfl
  obtain ⟨o2, k2⟩ := hone_of hone 2 f2 rfl
  obtain ⟨o3, k3⟩ := hone_of hone 3 f3 rfl
  obtain ⟨xs, m, _, _, _, hxl, hf⟩ := DataW.trod_struct hs h
  have hxl4 : xs.length = 4 := hxl
  have g0 := hf 0 f0 rfl
  have g1 := hf 1 f1 rfl
  have g2 := hf 2 f2 rfl
  have g3 := hf 3 f3 rfl
  rw [o0, k0, e0, List.getElem?_eq_getElem (by omega)] at g0
  rw [o1, k1, e1, List.getElem?_eq_getElem (by omega)] at g1
  rw [o2, k2, e2, List.getElem?_eq_getElem (by omega)] at g2
  rw [o3, k3, e3, List.getElem?_eq_getElem (by omega)] at g3
  obtain ⟨c0, c1, c2, c3, rfl⟩ := four hl
  obtain ⟨z0, q0, _, _⟩ := DataW.trod_int Tryz.underlying3 g0
  obtain ⟨s1, q1, _, _⟩ := DataW.trod_string Tryz.underlying9 g1
  obtain ⟨z2, q2, _, _⟩ := DataW.trod_int Tryz.underlying3 g2
  obtain ⟨s3, q3, _, hm⟩ := DataW.trod_string Tryz.underlying9 g3
  simp at q0 q1 q2 q3
  subst q0 q1 q2 q3
  refine ⟨⟨z0, s1.data.toList, z2, s3.data.toList⟩, ?_, by rw [← Lib.size_eq]; exact hm⟩
  show _ = [_, strV s1.data.toList, _, strV s3.data.toList]
  unfold strV
  rw [mk_bytes, mk_bytes]
set_option maxRecDepth 100000 in
theorem open_sns {v : Value} {d : DataW H} {p : List MemPlace} (hok : Value.okWide Tryz.prog W .any base 22 v) (h : DataW.Trod enc Tryz.prog W 0 (fun _ => true) true 22 v d p) (hlt : ∀ x ∈ p, x.block < W.heap.size) :
    ∃ L : List Sn, Snodes W.heap.size W v L ∧ ∀ r ∈ L, r.data.length ≤ maxLen :=
  open_recs Tryz.underlying22 sn_cells (by omega) sn_read hok h hlt
end
end Go.Proofs.YtolhniepejhmfaaGreatDoor.W08
