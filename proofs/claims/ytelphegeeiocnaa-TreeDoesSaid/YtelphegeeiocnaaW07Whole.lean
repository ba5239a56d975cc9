/-
  Plain mathematics for layer 7 (tree): what a directory's entries are in a right tree; going from Root through the directories, each node is come to once. Lists alone. No condition but those that each theorem bears.
-/
import Derived.Test.YtelphegeeiocnaaW07Right
namespace Go.Proofs.Ytelphegeeiocnaa.M07
open Go.Proofs.Ytelphegeeiocnaa.M03 (lt lt_trans lt_asymm)
open Go.Proofs.Ytelphegeeiocnaa.M06 (Ent)

theorem mem_put_iff {L : List Ent} {e x : Ent} (h : M06.right L = true) : x ∈ M06.put L e ↔ x = e ∨ (x ∈ L ∧ x.1 ≠ e.1) := by
  unfold M06.put M06.putL M06.cutL
  rw [M06.all_right h]
  simp only [List.mem_append, List.mem_filter, List.mem_cons, decide_eq_true_eq]
  constructor
  · rintro (⟨⟨h1, h2⟩, _⟩ | h1 | ⟨⟨h1, h2⟩, _⟩)
    · exact Or.inr ⟨h1, h2⟩
    · exact Or.inl h1
    · exact Or.inr ⟨h1, h2⟩
  · rintro (h1 | ⟨h1, h2⟩)
    · exact Or.inr (Or.inl h1)
    · rcases M03.lt_total x.1 e.1 with h3 | h3 | h3
      · exact Or.inl ⟨⟨h1, h2⟩, h3⟩
      · exact absurd h3 h2
      · exact Or.inr (Or.inr ⟨⟨h1, h2⟩, h3⟩)
theorem mem_fold : ∀ (l out : List Ent), M06.right out = true → l.Pairwise (fun a b => a.1 ≠ b.1) → (∀ a ∈ out, ∀ b ∈ l, a.1 ≠ b.1) → ∀ x, x ∈ l.foldl M06.put out ↔ x ∈ out ∨ x ∈ l
  | [], out, _, _, _, x => by simp
  | e :: l, out, hr, hp, hd, x => by
    rw [List.pairwise_cons] at hp
    rw [List.foldl_cons, mem_fold l (M06.put out e) (M06.right_put out e) hp.2 (fun a ha b hb => by
      rcases (mem_put_iff hr).1 ha with h1 | ⟨h1, _⟩
      · rw [h1]; exact hp.1 b hb
      · exact hd a h1 b (List.mem_cons_of_mem _ hb)) x, mem_put_iff hr, List.mem_cons]
    constructor
    · rintro ((h1 | ⟨h1, _⟩) | h1)
      · exact Or.inr (Or.inl h1)
      · exact Or.inl h1
      · exact Or.inr (Or.inr h1)
    · rintro (h1 | h1 | h1)
      · exact Or.inl (Or.inr ⟨h1, hd x h1 e List.mem_cons_self⟩)
      · exact Or.inl (Or.inl h1)
      · exact Or.inr h1
/-- a directory's entries are its nodes' -/
theorem mem_list {t : Tr} (h : Right t) {d : Int} {e : Ent} : e ∈ listDir t.L d ↔ ∃ a ∈ t.L, a.up = d ∧ a.num ≠ 1 ∧ entOf a = e := by
  unfold listDir
  have hp : ((t.L.filter (stands d)).map entOf).Pairwise (fun a b => a.1 ≠ b.1) := by
    rw [List.pairwise_map]
    refine List.Pairwise.imp_of_mem ?_ (h.rise.filter (stands d))
    intro a b ha hb hab he
    obtain ⟨ha1, ha2⟩ := List.mem_filter.1 ha
    obtain ⟨hb1, hb2⟩ := List.mem_filter.1 hb
    simp only [stands, Bool.and_eq_true, decide_eq_true_eq] at ha2 hb2
    have := h.once a ha1 b hb1 ha2.2 hb2.2 (by rw [ha2.1, hb2.1]) he
    rw [this] at hab
    omega
  rw [mem_fold _ [] rfl hp (fun a ha => by simp at ha)]
  simp only [List.not_mem_nil, false_or, List.mem_map, List.mem_filter, stands, Bool.and_eq_true, decide_eq_true_eq]
  constructor
  · rintro ⟨a, ⟨h1, h2, h3⟩, h4⟩; exact ⟨a, h1, h2, h3, h4⟩
  · rintro ⟨a, h1, h2, h3, h4⟩; exact ⟨a, ⟨h1, h2, h3⟩, h4⟩
theorem list_rises (L : List Nd) (d : Int) : (listDir L d).Pairwise (fun a b => lt a.1 b.1) := (M06.right_iff _).1 (M06.right_fold _ _ rfl)
/-- the numbers in a directory -/
def kids (t : Tr) (d : Int) : List Int := (listDir t.L d).map (·.2)
theorem mem_kids {t : Tr} (h : Right t) {d c : Int} : c ∈ kids t d ↔ ∃ a ∈ t.L, a.up = d ∧ a.num ≠ 1 ∧ a.num = c := by
  unfold kids
  rw [List.mem_map]
  constructor
  · rintro ⟨e, he, rfl⟩
    obtain ⟨a, h1, h2, h3, rfl⟩ := (mem_list h).1 he
    exact ⟨a, h1, h2, h3, rfl⟩
  · rintro ⟨a, h1, h2, h3, rfl⟩
    exact ⟨entOf a, (mem_list h).2 ⟨a, h1, h2, h3, rfl⟩, rfl⟩
theorem kids_nodup {t : Tr} (h : Right t) (d : Int) : (kids t d).Nodup := by
  unfold kids List.Nodup
  rw [List.pairwise_map]
  refine List.Pairwise.imp_of_mem ?_ (list_rises t.L d)
  intro a b ha hb hab he
  obtain ⟨x, x1, _, _, rfl⟩ := (mem_list h).1 ha
  obtain ⟨y, y1, _, _, rfl⟩ := (mem_list h).1 hb
  have : x = y := by rw [← h.at_ x1, ← h.at_ y1]; exact congrArg _ he
  rw [this] at hab
  exact lt_asymm hab hab

/-- what is held while one goes from Root through the directories: met are come to, the first i of them are gone through -/
structure Met (t : Tr) (met : List Int) (i : Nat) : Prop where
  once : met.Nodup
  root : (1 : Int) ∈ met
  are : ∀ n ∈ met, ∃ a ∈ t.L, a.num = n
  done : ∀ n ∈ met.take i, ∀ c ∈ kids t n, c ∈ met
  by_ : ∀ a ∈ t.L, a.num ∈ met → a.num ≠ 1 → a.up ∈ met.take i
theorem met_start {t : Tr} (h : Right t) : Met t [1] 0 where
  once := by simp
  root := by simp
  are := by
    intro n hn
    obtain ⟨r, hr⟩ := h.root
    rw [List.mem_singleton.1 hn]
    exact ⟨⟨1, 1, [], 1, []⟩, by rw [hr]; exact List.mem_cons_self, rfl⟩
  done := by simp
  by_ := fun a _ ha h1 => absurd (List.mem_singleton.1 ha) h1
theorem met_next {t : Tr} (h : Right t) {met : List Int} {i : Nat} (m : Met t met i) (hi : i < met.length) : Met t (met ++ kids t met[i]) (i + 1) := by
  have htake : (met ++ kids t met[i]).take (i + 1) = met.take i ++ [met[i]] := by
    rw [List.take_append_of_le_length (by omega), List.take_succ_eq_append_getElem hi]
  constructor
  · rw [List.nodup_append]
    refine ⟨m.once, kids_nodup h _, fun a ha b hb e => ?_⟩
    subst e
    obtain ⟨x, x1, x2, x3, x4⟩ := (mem_kids h).1 hb
    have h1 := m.by_ x x1 (by rw [x4]; exact ha) x3
    rw [x2] at h1
    obtain ⟨j, hj, e⟩ := List.mem_iff_getElem.1 h1
    rw [List.length_take] at hj
    rw [List.getElem_take] at e
    have hji : j < i := by omega
    exact (List.pairwise_iff_getElem.1 m.once) j i (by omega) hi hji e
  · exact List.mem_append_left _ m.root
  · intro n hn
    rcases List.mem_append.1 hn with h1 | h1
    · exact m.are n h1
    · obtain ⟨x, x1, _, _, x4⟩ := (mem_kids h).1 h1
      exact ⟨x, x1, x4⟩
  · intro n hn c hc
    rw [htake] at hn
    rcases List.mem_append.1 hn with h1 | h1
    · exact List.mem_append_left _ (m.done n h1 c hc)
    · rw [List.mem_singleton.1 h1] at hc
      exact List.mem_append_right _ hc
  · intro a ha hm h1
    rw [htake]
    rcases List.mem_append.1 hm with h2 | h2
    · exact List.mem_append_left _ (m.by_ a ha h2 h1)
    · obtain ⟨x, x1, x2, _, x4⟩ := (mem_kids h).1 h2
      have : x = a := by rw [← h.at_ x1, ← h.at_ ha, x4]
      rw [← this, x2]
      exact List.mem_append_right _ (by simp)
theorem met_all {t : Tr} (h : Right t) {met : List Int} (m : Met t met met.length) : ∀ (k : Nat) {a : Nd}, a ∈ t.L → upN t.L k a.num = 1 → a.num ∈ met
  | 0, a, _, hk => by have e : a.num = 1 := hk; rw [e]; exact m.root
  | k + 1, a, ha, hk => by
    by_cases h1 : a.num = 1
    · rw [h1]; exact m.root
    · obtain ⟨b, hb, eb, _⟩ := h.up_mem ha
      have hk2 : upN t.L k (upOf t.L a.num) = 1 := hk
      rw [h.upOf_ ha, ← eb] at hk2
      have ih := met_all h m k hb hk2
      exact m.done b.num (by rw [List.take_length]; exact ih) a.num ((mem_kids h).2 ⟨a, ha, eb.symm, h1, rfl⟩)
theorem nodup_len : ∀ (a b : List Int), a.Nodup → a ⊆ b → a.length ≤ b.length
  | [], _, _, _ => Nat.zero_le _
  | x :: a, b, hn, hs => by
    rw [List.nodup_cons] at hn
    obtain ⟨s, u, rfl⟩ := List.append_of_mem (hs List.mem_cons_self)
    have h1 := nodup_len a (s ++ u) hn.2 (fun y hy => by
      have := hs (List.mem_cons_of_mem _ hy)
      rcases List.mem_append.1 this with h | h
      · exact List.mem_append_left _ h
      · rcases List.mem_cons.1 h with h | h
        · rw [h] at hy; exact absurd hy hn.1
        · exact List.mem_append_right _ h)
    simp only [List.length_append, List.length_cons] at h1 ⊢
    omega
theorem nums_nodup {t : Tr} (h : Right t) : (t.L.map (·.num)).Nodup := by
  unfold List.Nodup
  rw [List.pairwise_map]
  exact h.rise.imp fun {_ _} hab => by omega
theorem met_len {t : Tr} (_h : Right t) {met : List Int} {i : Nat} (m : Met t met i) : met.length ≤ t.L.length := by
  have h1 : met ⊆ t.L.map (·.num) := fun n hn => by
    obtain ⟨a, ha, e⟩ := m.are n hn
    exact List.mem_map.2 ⟨a, ha, e⟩
  have := nodup_len _ _ m.once h1
  rwa [List.length_map] at this
/-- at the end all have been come to -/
theorem met_end {t : Tr} (h : Right t) {met : List Int} (m : Met t met met.length) : met.length = t.L.length := by
  refine Nat.le_antisymm (met_len h m) ?_
  have h1 : t.L.map (·.num) ⊆ met := fun n hn => by
    obtain ⟨a, ha, rfl⟩ := List.mem_map.1 hn
    obtain ⟨k, hk⟩ := h.low a ha
    exact met_all h m k ha hk
  have := nodup_len _ _ (nums_nodup h) h1
  rwa [List.length_map] at this
end Go.Proofs.Ytelphegeeiocnaa.M07
