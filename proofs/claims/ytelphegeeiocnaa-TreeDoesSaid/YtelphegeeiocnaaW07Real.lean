/-
  Layer 7 (tree): plain mathematics of the landed code: what is kept of each node by its number; what storing nodes, hanging them up and taking them off come to, for Put, Set, Cut and Move. Lists alone. No condition but those that each theorem bears.
-/
import Derived.Test.YtelphegeeiocnaaW07Abs
import Derived.Test.YtelphegeeiocnaaW07Whole
import Derived.Test.YtelphegeeiocnaaMaps
namespace Go.Proofs.Ytelphegeeiocnaa.W07
open Go Go.Proofs.Ytelphegeeiocnaa.M07 Go.Proofs.Ytelphegeeiocnaa.Maps
open Go.Proofs.Ytelphegeeiocnaa.M06 (Ent)
open Go.Proofs.Ytelphegeeiocnaa.M03 (check lt)

/-- what the program keeps of a node -/
structure Nod where
  kind : Int
  up : Int
  data : Bytes
  list : List Ent
def nod0 : Nod := ⟨0, 0, [], []⟩
def plainN (t : Tr) (n : Int) : Nod := ⟨(nodeAt t.L n).kind, (nodeAt t.L n).up, (nodeAt t.L n).data, listed t n⟩
def hangN (g : Int → Nod) (d : Int) (s : Bytes) (n : Int) : Int → Nod :=
  let g1 := upd g d { g d with list := M06.put (g d).list (s, n) }
  upd g1 n { g1 n with up := d }
def unhangN (g : Int → Nod) (d : Int) (s : Bytes) : Int → Nod := upd g d { g d with list := M06.cut (g d).list s }

theorem pair_ext {α : Type} {r : α → α → Prop} (irr : ∀ a, ¬ r a a) (asy : ∀ a b, r a b → ¬ r b a) : ∀ {a b : List α}, a.Pairwise r → b.Pairwise r → (∀ e, e ∈ a ↔ e ∈ b) → a = b
  | [], [], _, _, _ => rfl
  | [], y :: b, _, _, h => absurd ((h y).2 List.mem_cons_self) (by simp)
  | x :: a, [], _, _, h => absurd ((h x).1 List.mem_cons_self) (by simp)
  | x :: a, y :: b, ha, hb, h => by
    rw [List.pairwise_cons] at ha hb
    have e : x = y := by
      rcases List.mem_cons.1 ((h x).1 List.mem_cons_self) with e | h1
      · exact e
      · rcases List.mem_cons.1 ((h y).2 List.mem_cons_self) with e | h2
        · exact e.symm
        · exact absurd (ha.1 y h2) (asy _ _ (hb.1 x h1))
    subst e
    rw [pair_ext irr asy ha.2 hb.2 fun e => ?_]
    constructor
    · intro he
      rcases List.mem_cons.1 ((h e).1 (List.mem_cons_of_mem _ he)) with e2 | h2
      · rw [e2] at he; exact absurd (ha.1 x he) (irr x)
      · exact h2
    · intro he
      rcases List.mem_cons.1 ((h e).2 (List.mem_cons_of_mem _ he)) with e2 | h2
      · rw [e2] at he; exact absurd (hb.1 x he) (irr x)
      · exact h2
theorem right_ext {a b : List Ent} (ha : M06.right a = true) (hb : M06.right b = true) (h : ∀ e, e ∈ a ↔ e ∈ b) : a = b :=
  pair_ext (r := fun a b : Ent => lt a.1 b.1) (fun _ => M03.lt_irrefl _) (fun _ _ => M03.lt_asymm) ((M06.right_iff _).1 ha) ((M06.right_iff _).1 hb) h
theorem mem_cut_iff {L : List Ent} {s : Bytes} {x : Ent} (h : M06.right L = true) : x ∈ M06.cut L s ↔ x ∈ L ∧ x.1 ≠ s := by
  unfold M06.cut M06.cutL
  rw [M06.all_right h, List.mem_filter]
  simp

section
variable {t : Tr}
/-- whether a node stands in a directory by a name -/
def Stands (t : Tr) (d : Int) (s : Bytes) (m : Int) : Prop := (nodeAt t.L d).kind = 1 ∧ m ≠ 1 ∧ (nodeAt t.L m).kind ≠ 0 ∧ (nodeAt t.L m).up = d ∧ (nodeAt t.L m).name = s
theorem listed_right (t : Tr) (d : Int) : M06.right (listed t d) = true := by
  unfold listed
  split
  · exact (M06.right_iff _).2 (list_rises _ _)
  · rfl
theorem mem_listed (h : Right t) {d m : Int} {s : Bytes} : (s, m) ∈ listed t d ↔ Stands t d s m := by
  unfold listed Stands
  by_cases hk : (nodeAt t.L d).kind = 1
  · rw [if_pos hk, mem_list h]
    constructor
    · rintro ⟨a, ha, h1, h2, h3⟩
      have e1 : a.name = s := congrArg Prod.fst h3
      have e2 : a.num = m := congrArg Prod.snd h3
      have e3 := h.at_ ha
      rw [e2] at e3
      rw [e3]
      exact ⟨hk, by rw [← e2]; exact h2, h.kind a ha, h1, e1⟩
    · rintro ⟨-, h1, h2, h3, h4⟩
      have := at_some h2
      exact ⟨_, this.1, h3, by rw [this.2]; exact h1, Prod.ext h4 this.2⟩
  · rw [if_neg hk]
    constructor
    · intro e; cases e
    · rintro ⟨e, -⟩; exact absurd e hk
theorem zero_of {L : List Nd} {n : Int} (hk : ∀ a ∈ L, a.kind ≠ 0) (h : (nodeAt L n).kind = 0) : nodeAt L n = zero := by
  induction L with
  | nil => rfl
  | cons a r ih =>
    unfold nodeAt at h ⊢
    split at h <;> rename_i h1
    · exact absurd h (hk a List.mem_cons_self)
    · rw [if_neg h1]
      exact ih (fun b hb => hk b (List.mem_cons_of_mem _ hb)) h
/-- two right trees' worth: a table with the nodes' cells, and lists that hold what stands there, is the tree's -/
theorem plain_of (h : Right t) {g : Int → Nod} (hg : ∀ n, (g n).kind = (nodeAt t.L n).kind ∧ (g n).up = (nodeAt t.L n).up ∧ (g n).data = (nodeAt t.L n).data ∧ M06.right (g n).list = true ∧ ∀ s m, (s, m) ∈ (g n).list ↔ Stands t n s m) : plainN t = g := by
  funext n
  obtain ⟨h1, h2, h3, h4, h5⟩ := hg n
  have e : listed t n = (g n).list := right_ext (listed_right t n) h4 fun ⟨s, m⟩ => by rw [mem_listed h, h5]
  unfold plainN
  rw [e, ← h1, ← h2, ← h3]
theorem plain_right (t : Tr) (n : Int) : M06.right (plainN t n).list = true := listed_right t n
theorem mem_plain (h : Right t) {d m : Int} {s : Bytes} : (s, m) ∈ (plainN t d).list ↔ Stands t d s m := mem_listed h
theorem stands_once (h : Right t) {d a b : Int} {s : Bytes} (ha : Stands t d s a) (hb : Stands t d s b) : a = b := by
  obtain ⟨-, a1, a2, a3, a4⟩ := ha
  obtain ⟨-, b1, b2, b3, b4⟩ := hb
  have ea := at_some a2
  have eb := at_some b2
  have := h.once _ ea.1 _ eb.1 (by rw [ea.2]; exact a1) (by rw [eb.2]; exact b1) (by rw [a3, b3]) (by rw [a4, b4])
  rw [← ea.2, this, eb.2]
theorem up_is_dir (h : Right t) {m : Int} (hm : (nodeAt t.L m).kind ≠ 0) : (nodeAt t.L (nodeAt t.L m).up).kind = 1 := h.up _ (at_some hm).1
theorem find_first {L : List Ent} (h : M06.right L = true) {s : Bytes} {m : Int} (hm : (s, m) ∈ L) : M06.find L s = (m, true) := by
  have hp := (M06.right_iff _).1 h
  clear h
  induction L with
  | nil => cases hm
  | cons a r ih =>
    rw [List.pairwise_cons] at hp
    unfold M06.find
    by_cases e : a.1 = s
    · rw [if_pos e]
      rcases List.mem_cons.1 hm with e2 | h2
      · rw [← e2]
      · have := hp.1 _ h2
        rw [e] at this
        exact absurd this (M03.lt_irrefl _)
    · rw [if_neg e]
      rcases List.mem_cons.1 hm with e2 | h2
      · rw [← e2] at e; exact absurd rfl e
      · exact ih h2 hp.2
/-- the node of a name in a directory, as Find tells -/
theorem find_in (h : Right t) {d : Int} (s : Bytes) (hd : (nodeAt t.L d).kind = 1) : M06.find (M06.all (plainN t d).list) s = (inDir t.L d s, decide (inDir t.L d s ≠ 0)) := by
  rw [M06.all_right (plain_right t d)]
  by_cases h0 : inDir t.L d s = 0
  · have hno := in_not (fun a ha => (h.ends a ha).1) h0
    rw [M06.find_not fun x hx e => ?_, h0]; · rfl
    obtain ⟨x1, x2⟩ := x
    obtain ⟨-, h1, h2, h3, h4⟩ := (mem_plain h).1 hx
    have := at_some h2
    exact hno _ this.1 (by rw [this.2]; exact h1) ⟨h3, h4.trans e⟩
  · obtain ⟨a, ha, e1, e2, e3, e4⟩ := in_found h0
    rw [decide_eq_true h0]
    refine find_first (plain_right t d) ((mem_plain h).2 ⟨hd, by rw [← e1]; exact e4, ?_⟩)
    rw [← e1, h.at_ ha]
    exact ⟨h.kind a ha, e2, e3⟩
theorem in_stands (h : Right t) {d : Int} {s : Bytes} (hd : (nodeAt t.L d).kind = 1) (h0 : inDir t.L d s ≠ 0) : Stands t d s (inDir t.L d s) := by
  obtain ⟨a, ha, e1, e2, e3, e4⟩ := in_found h0
  refine ⟨hd, by rw [← e1]; exact e4, ?_⟩
  rw [← e1, h.at_ ha]
  exact ⟨h.kind a ha, e2, e3⟩
theorem in_none (h : Right t) {d m : Int} {s : Bytes} (h0 : inDir t.L d s = 0) : ¬ Stands t d s m := by
  rintro ⟨-, h1, h2, h3, h4⟩
  have := at_some h2
  exact in_not (fun a ha => (h.ends a ha).1) h0 _ this.1 (by rw [this.2]; exact h1) ⟨h3, h4⟩

/-! Put -/
theorem put_plain (h : Right t) {d kind : Int} {s x : Bytes} (he : putErr t d s kind x = 0) : plainN ⟨t.L ++ [⟨t.last + 1, d, s, kind, x⟩], t.last + 1⟩ = hangN (upd (plainN t) (t.last + 1) ⟨kind, 0, x, []⟩) d s (t.last + 1) := by
  have hR := put_right h (d := d) (kind := kind) (name := s) (data := x)
  rw [put_works he] at hR
  have hd : (nodeAt t.L d).kind = 1 := dir_zero (by unfold putErr at he; split at he; · rename_i h1; exact absurd he h1
                                                    · rename_i h1; simpa using h1)
  have hin : inDir t.L d s = 0 := by
    have := in_pos (L := t.L) (d := d) (s := s) (fun a ha => (h.ends a ha).1)
    unfold putErr at he
    split at he
    · omega
    · split at he
      · omega
      · split at he <;> omega
  have hnum : ∀ a ∈ t.L, a.num ≠ t.last + 1 := fun a ha => by have := (h.ends a ha).2; omega
  have hdk : d ≠ t.last + 1 := by
    have := at_some (L := t.L) (n := d) (by rw [hd]; decide)
    rw [← this.2]; exact hnum _ this.1
  have hl1 : 1 ≤ t.last := by
    obtain ⟨r, hr⟩ := h.root
    have := h.ends ⟨1, 1, [], 1, []⟩ (by rw [hr]; exact List.mem_cons_self)
    exact this.2
  have hz : nodeAt t.L (t.last + 1) = zero := at_none hnum
  have hat : ∀ n, n ≠ t.last + 1 → nodeAt (t.L ++ [⟨t.last + 1, d, s, kind, x⟩]) n = nodeAt t.L n := fun n hn => at_append hn
  have hlast : nodeAt (t.L ++ [⟨t.last + 1, d, s, kind, x⟩]) (t.last + 1) = ⟨t.last + 1, d, s, kind, x⟩ := at_last (x := ⟨t.last + 1, d, s, kind, x⟩) hnum
  generalize t.last + 1 = k at *
  have hkk : kind ≠ 0 := by
    have := hR.kind ⟨k, d, s, kind, x⟩ (by simp)
    exact this
  have hk1 : k ≠ 1 := by
    intro e
    obtain ⟨r, hr⟩ := h.root
    exact hnum ⟨1, 1, [], 1, []⟩ (by rw [hr]; exact List.mem_cons_self) e.symm
  have hns : ∀ n q m, Stands ⟨t.L ++ [⟨k, d, s, kind, x⟩], k⟩ n q m ↔ (m = k ∧ n = d ∧ q = s) ∨ Stands t n q m := by
    intro n q m
    unfold Stands
    show ((nodeAt (t.L ++ [⟨k, d, s, kind, x⟩]) n).kind = 1 ∧ m ≠ 1 ∧ (nodeAt (t.L ++ [⟨k, d, s, kind, x⟩]) m).kind ≠ 0 ∧ (nodeAt (t.L ++ [⟨k, d, s, kind, x⟩]) m).up = n ∧ (nodeAt (t.L ++ [⟨k, d, s, kind, x⟩]) m).name = q) ↔ _
    by_cases em : m = k
    · subst em
      rw [hlast, hz]
      constructor
      · rintro ⟨-, -, -, h4, h5⟩; exact Or.inl ⟨rfl, h4.symm, h5.symm⟩
      · rintro (⟨-, rfl, rfl⟩ | ⟨-, -, h3, -⟩)
        · exact ⟨by rw [hat _ hdk]; exact hd, hk1, hkk, rfl, rfl⟩
        · exact absurd rfl h3
    · rw [hat m em]
      by_cases en : n = k
      · subst en
        rw [hlast, hz]
        constructor
        · rintro ⟨-, h2, h3, h4, h5⟩
          obtain ⟨b, hb, e, -⟩ := h.up_mem (at_some h3).1
          exact absurd (e.trans h4) (hnum b hb)
        · rintro (⟨h1, -⟩ | ⟨h1, -⟩)
          · exact absurd h1 em
          · exact absurd h1 (by decide)
      · rw [hat n en]
        constructor
        · intro h1; exact Or.inr h1
        · rintro (⟨h1, -⟩ | h1)
          · exact absurd h1 em
          · exact h1
  refine plain_of hR fun n => ?_
  unfold hangN
  simp only []
  by_cases e1 : n = k
  · subst e1
    rw [upd_here, upd_other _ _ (Ne.symm hdk), upd_here]
    show kind = (nodeAt (t.L ++ _) n).kind ∧ d = (nodeAt (t.L ++ _) n).up ∧ x = (nodeAt (t.L ++ _) n).data ∧ _
    rw [hlast]
    refine ⟨rfl, rfl, rfl, rfl, fun q m => ?_⟩
    rw [hns]
    constructor
    · intro e; cases e
    · rintro (⟨-, e, -⟩ | ⟨e, -⟩)
      · exact absurd e.symm hdk
      · rw [hz] at e; exact absurd e (by decide)
  · rw [upd_other _ _ e1]
    by_cases e2 : n = d
    · subst e2
      rw [upd_here, upd_other _ _ hdk]
      show (nodeAt t.L n).kind = (nodeAt (t.L ++ _) n).kind ∧ (nodeAt t.L n).up = (nodeAt (t.L ++ _) n).up ∧ (nodeAt t.L n).data = (nodeAt (t.L ++ _) n).data ∧ M06.right (M06.put (plainN t n).list (s, k)) = true ∧ ∀ q m, (q, m) ∈ M06.put (plainN t n).list (s, k) ↔ _
      rw [hat n e1]
      refine ⟨rfl, rfl, rfl, M06.right_put _ _, fun q m => ?_⟩
      rw [mem_put_iff (plain_right t n), mem_plain h, hns]
      constructor
      · rintro (e | ⟨h1, -⟩)
        · cases e; exact Or.inl ⟨rfl, rfl, rfl⟩
        · exact Or.inr h1
      · rintro (⟨rfl, -, rfl⟩ | h1)
        · exact Or.inl rfl
        · exact Or.inr ⟨h1, fun e => in_none h hin (show Stands t n s m by rw [← show q = s from e]; exact h1)⟩
    · rw [upd_other _ _ e2, upd_other _ _ e1]
      show (nodeAt t.L n).kind = (nodeAt (t.L ++ _) n).kind ∧ (nodeAt t.L n).up = (nodeAt (t.L ++ _) n).up ∧ (nodeAt t.L n).data = (nodeAt (t.L ++ _) n).data ∧ _
      rw [hat n e1]
      refine ⟨rfl, rfl, rfl, plain_right t n, fun q m => ?_⟩
      rw [mem_plain h, hns]
      constructor
      · exact Or.inr
      · rintro (⟨-, e, -⟩ | h1)
        · exact absurd e e2
        · exact h1
/-! Set -/
theorem at_with {L : List Nd} {x : Nd} (hk : ∀ a ∈ L, a.kind ≠ 0) (n : Int) : nodeAt (L.map (fun a => if a.num = x.num then x else a)) n = if n = x.num ∧ (nodeAt L n).kind ≠ 0 then x else nodeAt L n := by
  have hn : ∀ a : Nd, (if a.num = x.num then x else a).num = a.num := by
    intro a
    by_cases e : a.num = x.num
    · rw [if_pos e]; exact e.symm
    · rw [if_neg e]
  induction L with
  | nil => rw [if_neg (by rintro ⟨-, e⟩; exact e rfl)]; rfl
  | cons a r ih =>
    rw [List.map_cons]
    unfold nodeAt
    rw [hn]
    by_cases e : a.num = n
    · rw [if_pos e, if_pos e]
      by_cases e2 : n = x.num
      · rw [if_pos (by rw [e]; exact e2), if_pos ⟨e2, hk a List.mem_cons_self⟩]
      · rw [if_neg (by rw [e]; exact e2), if_neg (by rintro ⟨e3, -⟩; exact e2 e3)]
    · rw [if_neg e, if_neg e]
      exact ih fun b hb => hk b (List.mem_cons_of_mem _ hb)
theorem set_plain (h : Right t) {n : Int} {x : Bytes} (hk : (nodeAt t.L n).kind ≠ 0) (hk1 : (nodeAt t.L n).kind ≠ 1) (hm : mayErr (nodeAt t.L n).kind x = 0) : plainN (withNode t { nodeAt t.L n with data := x }) = upd (plainN t) n { plainN t n with data := x } := by
  have hR := set_right h (n := n) (data := x)
  unfold M07.set at hR
  rw [if_neg hk, if_neg hk1, if_neg (by rw [hm]; decide)] at hR
  have hnum := (at_some hk).2
  have hat : ∀ m, nodeAt (withNode t { nodeAt t.L n with data := x }).L m = if m = n then { nodeAt t.L n with data := x } else nodeAt t.L m := by
    intro m
    show nodeAt (t.L.map _) m = _
    rw [at_with h.kind]
    show (if m = (nodeAt t.L n).num ∧ _ then _ else _) = _
    rw [hnum]
    by_cases e : m = n
    · subst e; rw [if_pos ⟨rfl, hk⟩, if_pos rfl]
    · rw [if_neg (fun e2 => e e2.1), if_neg e]
  have hns : ∀ d q m, Stands (withNode t { nodeAt t.L n with data := x }) d q m ↔ Stands t d q m := by
    intro d q m
    unfold Stands
    rw [hat m, hat d]
    by_cases e1 : m = n <;> by_cases e2 : d = n <;> simp [e1, e2]
  refine plain_of hR fun m => ?_
  rw [hat m]
  by_cases e : m = n
  · subst e
    rw [upd_here, if_pos rfl]
    exact ⟨rfl, rfl, rfl, plain_right t m, fun q i => by rw [hns]; exact mem_plain h⟩
  · rw [upd_other _ _ e, if_neg e]
    exact ⟨rfl, rfl, rfl, plain_right t m, fun q i => by rw [hns]; exact mem_plain h⟩
/-! Cut -/
theorem cut_plain (h : Right t) {d : Int} {s : Bytes} (hd : (nodeAt t.L d).kind = 1) (h0 : inDir t.L d s ≠ 0) (hv : listDir t.L (inDir t.L d s) = []) :
    plainN ⟨t.L.filter (fun a => decide (a.num ≠ inDir t.L d s)), t.last⟩ = upd (unhangN (plainN t) d s) (inDir t.L d s) nod0 := by
  have hR := cut_right h (d := d) (name := s)
  have hst := in_stands h hd h0
  have hw : (cut t d s).1 = ⟨t.L.filter (fun a => decide (a.num ≠ inDir t.L d s)), t.last⟩ := by
    unfold M07.cut
    rw [if_neg (by unfold dirErr; rw [hd]; decide), if_neg h0, if_neg (by rw [hv]; simp)]
  rw [hw] at hR
  have hvoid := list_void hv
  generalize inDir t.L d s = n at *
  have hat : ∀ m, nodeAt (t.L.filter (fun a => decide (a.num ≠ n))) m = if m = n then zero else nodeAt t.L m := by
    intro m
    by_cases e : m = n
    · subst e
      rw [if_pos rfl]
      exact at_none fun a ha => by have := (List.mem_filter.1 ha).2; simpa using this
    · rw [if_neg e]; exact at_filter e
  have hdn : d ≠ n := by
    intro e
    have := at_some hst.2.2.1
    exact hvoid _ this.1 (by rw [this.2]; exact hst.2.1) (by rw [hst.2.2.2.1]; exact e)
  have hns : ∀ i q m, Stands ⟨t.L.filter (fun a => decide (a.num ≠ n)), t.last⟩ i q m ↔ Stands t i q m ∧ m ≠ n := by
    intro i q m
    unfold Stands
    show ((nodeAt (t.L.filter _) i).kind = 1 ∧ m ≠ 1 ∧ (nodeAt (t.L.filter _) m).kind ≠ 0 ∧ (nodeAt (t.L.filter _) m).up = i ∧ (nodeAt (t.L.filter _) m).name = q) ↔ _
    rw [hat, hat]
    by_cases e1 : m = n
    · rw [if_pos e1]
      constructor
      · rintro ⟨-, -, e, -⟩; exact absurd rfl e
      · rintro ⟨-, e⟩; exact absurd e1 e
    · rw [if_neg e1]
      by_cases e2 : i = n
      · subst e2
        rw [if_pos rfl]
        constructor
        · rintro ⟨e, -⟩; exact absurd e (by decide)
        · rintro ⟨⟨-, a2, a3, a4, a5⟩, -⟩
          have := at_some a3
          exact absurd a4 (hvoid _ this.1 (by rw [this.2]; exact a2))
      · rw [if_neg e2]
        constructor
        · intro e; exact ⟨e, e1⟩
        · rintro ⟨e, -⟩; exact e
  refine plain_of hR fun m => ?_
  show _ = (nodeAt (t.L.filter _) m).kind ∧ _ = (nodeAt (t.L.filter _) m).up ∧ _ = (nodeAt (t.L.filter _) m).data ∧ _
  rw [hat m]
  by_cases e : m = n
  · subst e
    rw [upd_here, if_pos rfl]
    refine ⟨rfl, rfl, rfl, rfl, fun q i => ?_⟩
    rw [hns]
    constructor
    · intro e; cases e
    · rintro ⟨⟨-, a2, a3, a4, a5⟩, -⟩
      have := at_some a3
      exact absurd a4 (hvoid _ this.1 (by rw [this.2]; exact a2))
  · rw [upd_other _ _ e, if_neg e]
    unfold unhangN
    by_cases e2 : m = d
    · subst e2
      rw [upd_here]
      refine ⟨rfl, rfl, rfl, M06.right_cut _ _, fun q i => ?_⟩
      show (q, i) ∈ M06.cut (plainN t m).list s ↔ _
      rw [mem_cut_iff (plain_right t m), mem_plain h, hns]
      constructor
      · rintro ⟨h1, h2⟩
        refine ⟨h1, fun e3 => h2 ?_⟩
        rw [e3] at h1
        exact h1.2.2.2.2.symm.trans hst.2.2.2.2
      · rintro ⟨h1, h2⟩
        refine ⟨h1, fun e3 => h2 ?_⟩
        have e3 : q = s := e3
        rw [e3] at h1
        exact stands_once h h1 hst
    · rw [upd_other _ _ e2]
      refine ⟨rfl, rfl, rfl, plain_right t m, fun q i => ?_⟩
      rw [mem_plain h, hns]
      constructor
      · intro h1
        refine ⟨h1, fun e3 => e2 ?_⟩
        rw [e3] at h1
        exact h1.2.2.2.1.symm.trans hst.2.2.2.1
      · exact And.left
/-! Move -/
theorem placed_plain (h : Right t) {n dst src : Int} {s : Bytes} {al : Bytes} (hst : Stands t src s n) (hd : (nodeAt t.L dst).kind = 1) (hne : dst ≠ n) (hno : inDir t.L dst al = 0) (hin : (nodeAt t.L n).kind = 1 → ¬ Inside t.L n dst) :
    plainN (placed t (nodeAt t.L n) dst al) = hangN (unhangN (plainN t) src s) dst al n := by
  have hm := at_some hst.2.2.1
  have hR := placed_right h hm.1 (by rw [hm.2]; exact hst.2.1) hd hno (by rw [hm.2]; exact hin)
  have hat : ∀ m, nodeAt (placed t (nodeAt t.L n) dst al).L m = if m = n then { nodeAt t.L n with up := dst, name := al } else nodeAt t.L m := by
    intro m
    show nodeAt (t.L.map _) m = _
    rw [at_with h.kind]
    show (if m = (nodeAt t.L n).num ∧ _ then _ else _) = _
    by_cases e : m = n
    · rw [if_pos ⟨e.trans hm.2.symm, by rw [e]; exact hst.2.2.1⟩, if_pos e]
    · rw [if_neg (fun e2 => e (e2.1.trans hm.2)), if_neg e]
  have hsn : src ≠ n := by
    intro e
    have := never_self h hm.1 (by rw [hm.2]; exact hst.2.1)
    rw [hm.2, hst.2.2.2.1] at this
    exact this e
  have hns : ∀ i q m, Stands (placed t (nodeAt t.L n) dst al) i q m ↔ (m = n ∧ i = dst ∧ q = al) ∨ (m ≠ n ∧ Stands t i q m) := by
    intro i q m
    unfold Stands
    have hik : (nodeAt (placed t (nodeAt t.L n) dst al).L i).kind = (nodeAt t.L i).kind := by
      rw [hat]
      split
      · rename_i e; rw [e]
      · rfl
    rw [hik, hat]
    by_cases e1 : m = n
    · subst e1
      rw [if_pos rfl]
      constructor
      · rintro ⟨-, -, -, a, b⟩
        exact Or.inl ⟨rfl, a.symm, b.symm⟩
      · rintro (⟨-, rfl, rfl⟩ | ⟨e, -⟩)
        · exact ⟨hd, hst.2.1, hst.2.2.1, rfl, rfl⟩
        · exact absurd rfl e
    · rw [if_neg e1]
      constructor
      · intro e; exact Or.inr ⟨e1, e⟩
      · rintro (⟨e, -⟩ | ⟨-, e⟩)
        · exact absurd e e1
        · exact e
  -- what the lists hold
  have hsrc : ∀ q m, (q, m) ∈ M06.cut (plainN t src).list s ↔ Stands t src q m ∧ m ≠ n := by
    intro q m
    rw [mem_cut_iff (plain_right t src), mem_plain h]
    constructor
    · rintro ⟨h1, h2⟩
      refine ⟨h1, fun e3 => h2 ?_⟩
      rw [e3] at h1
      exact h1.2.2.2.2.symm.trans hst.2.2.2.2
    · rintro ⟨h1, h2⟩
      refine ⟨h1, fun e3 => h2 ?_⟩
      have e3 : q = s := e3
      rw [e3] at h1
      exact stands_once h h1 hst
  have hoth : ∀ i q m, i ≠ src → Stands t i q m → m ≠ n := by
    intro i q m hi h1 e
    rw [e] at h1
    exact hi (h1.2.2.2.1.symm.trans hst.2.2.2.1)
  have hput : ∀ (i : Int) (L : List Ent), i = dst → M06.right L = true → (∀ q m, (q, m) ∈ L ↔ Stands t i q m ∧ m ≠ n) → M06.right (M06.put L (al, n)) = true ∧ ∀ q m, (q, m) ∈ M06.put L (al, n) ↔ Stands (placed t (nodeAt t.L n) dst al) i q m := by
    intro i L hi hr hL
    refine ⟨M06.right_put _ _, fun q m => ?_⟩
    rw [mem_put_iff hr, hL, hns]
    constructor
    · rintro (e | ⟨⟨h1, h2⟩, -⟩)
      · cases e; exact Or.inl ⟨rfl, hi, rfl⟩
      · exact Or.inr ⟨h2, h1⟩
    · rintro (⟨rfl, -, rfl⟩ | ⟨h1, h2⟩)
      · exact Or.inl rfl
      · refine Or.inr ⟨⟨h2, h1⟩, fun e => ?_⟩
        have e : q = al := e
        rw [e, hi] at h2
        exact in_none h hno h2
  refine plain_of hR fun m => ?_
  rw [hat m]
  unfold hangN
  simp only []
  by_cases e : m = n
  · subst e
    rw [upd_here, if_pos rfl, upd_other _ _ (Ne.symm hne)]
    unfold unhangN
    rw [upd_other _ _ (Ne.symm hsn)]
    refine ⟨rfl, rfl, rfl, plain_right t m, fun q i => ?_⟩
    show (q, i) ∈ (plainN t m).list ↔ _
    rw [mem_plain h, hns]
    constructor
    · intro h1; exact Or.inr ⟨hoth _ _ _ (Ne.symm hsn) h1, h1⟩
    · rintro (⟨-, e, -⟩ | ⟨-, h1⟩)
      · exact absurd e.symm hne
      · exact h1
  · rw [upd_other _ _ e, if_neg e]
    by_cases e2 : m = dst
    · subst e2
      rw [upd_here]
      unfold unhangN
      by_cases e3 : m = src
      · subst e3
        rw [upd_here]
        have := hput m _ rfl (M06.right_cut _ _) hsrc
        exact ⟨rfl, rfl, rfl, this.1, this.2⟩
      · rw [upd_other _ _ e3]
        have := hput m _ rfl (plain_right t m) (fun q i => by
          rw [mem_plain h]
          exact ⟨fun h1 => ⟨h1, hoth _ _ _ e3 h1⟩, And.left⟩)
        exact ⟨rfl, rfl, rfl, this.1, this.2⟩
    · rw [upd_other _ _ e2]
      unfold unhangN
      by_cases e3 : m = src
      · subst e3
        rw [upd_here]
        refine ⟨rfl, rfl, rfl, M06.right_cut _ _, fun q i => ?_⟩
        rw [hns]
        show (q, i) ∈ M06.cut (plainN t m).list s ↔ _
        rw [hsrc]
        constructor
        · rintro ⟨h1, h2⟩; exact Or.inr ⟨h2, h1⟩
        · rintro (⟨-, e4, -⟩ | ⟨h2, h1⟩)
          · exact absurd e4 e2
          · exact ⟨h1, h2⟩
      · rw [upd_other _ _ e3]
        refine ⟨rfl, rfl, rfl, plain_right t m, fun q i => ?_⟩
        rw [mem_plain h, hns]
        constructor
        · intro h1; exact Or.inr ⟨hoth _ _ _ e3 h1, h1⟩
        · rintro (⟨-, e4, -⟩ | ⟨-, h1⟩)
          · exact absurd e4 e2
          · exact h1
theorem put_cut {L : List Ent} (h : M06.right L = true) (s : Bytes) (n : Int) : M06.put (M06.cut L s) (s, n) = M06.put L (s, n) :=
  right_ext (M06.right_put _ _) (M06.right_put _ _) fun e => by
    rw [mem_put_iff (M06.right_cut _ _), mem_put_iff h, mem_cut_iff h]
    constructor
    · rintro (h1 | ⟨⟨h1, -⟩, h2⟩)
      · exact Or.inl h1
      · exact Or.inr ⟨h1, h2⟩
    · rintro (h1 | ⟨h1, h2⟩)
      · exact Or.inl h1
      · exact Or.inr ⟨⟨h1, h2⟩, h2⟩
theorem cut_cut {L : List Ent} (h : M06.right L = true) (s q : Bytes) : M06.cut (M06.cut L s) q = M06.cut (M06.cut L q) s :=
  right_ext (M06.right_cut _ _) (M06.right_cut _ _) fun e => by
    rw [mem_cut_iff (M06.right_cut _ _), mem_cut_iff h, mem_cut_iff (M06.right_cut _ _), mem_cut_iff h]
    constructor
    · rintro ⟨⟨a, b⟩, c⟩; exact ⟨⟨a, c⟩, b⟩
    · rintro ⟨⟨a, b⟩, c⟩; exact ⟨⟨a, c⟩, b⟩
/-- what stood there is gone, and the node takes its name over -/
theorem replace_plain {g : Int → Nod} (hg : ∀ m, M06.right (g m).list = true) {src dst th n : Int} {s : Bytes} {al : Bytes} (h1 : th ≠ src) (h2 : th ≠ dst) (h3 : th ≠ n) (h4 : dst ≠ n) :
    hangN (unhangN (upd (unhangN g dst al) th nod0) src s) dst al n = hangN (unhangN (upd g th nod0) src s) dst al n := by
  funext m
  unfold hangN unhangN
  simp only []
  by_cases e1 : m = n
  · subst e1
    rw [upd_here, upd_here, upd_other _ _ (Ne.symm h4), upd_other _ _ (Ne.symm h4)]
    by_cases e2 : m = src
    · subst e2
      rw [upd_here, upd_here, upd_other _ _ (Ne.symm h3), upd_other _ _ (Ne.symm h3), upd_other _ _ (Ne.symm h4)]
    · rw [upd_other _ _ e2, upd_other _ _ e2, upd_other _ _ (Ne.symm h3), upd_other _ _ (Ne.symm h3), upd_other _ _ (Ne.symm h4)]
  · rw [upd_other _ _ e1, upd_other _ _ e1]
    by_cases e2 : m = dst
    · subst e2
      rw [upd_here, upd_here]
      by_cases e3 : m = src
      · subst e3
        rw [upd_here, upd_here, upd_other _ _ (Ne.symm h2), upd_other _ _ (Ne.symm h2), upd_here]
        show (⟨_, _, _, M06.put (M06.cut (M06.cut (g m).list al) s) (al, n)⟩ : Nod) = ⟨_, _, _, M06.put (M06.cut (g m).list s) (al, n)⟩
        rw [cut_cut (hg m), put_cut (M06.right_cut _ _)]
      · rw [upd_other _ _ e3, upd_other _ _ e3, upd_other _ _ (Ne.symm h2), upd_other _ _ (Ne.symm h2), upd_here]
        show (⟨_, _, _, M06.put (M06.cut (g m).list al) (al, n)⟩ : Nod) = ⟨_, _, _, M06.put (g m).list (al, n)⟩
        rw [put_cut (hg m)]
    · rw [upd_other _ _ e2, upd_other _ _ e2]
      by_cases e3 : m = src
      · subst e3
        rw [upd_here, upd_here, upd_other _ _ (Ne.symm h1), upd_other _ _ (Ne.symm h1), upd_other _ _ e2]
      · rw [upd_other _ _ e3, upd_other _ _ e3]
        by_cases e4 : m = th
        · subst e4; rw [upd_here, upd_here]
        · rw [upd_other _ _ e4, upd_other _ _ e4, upd_other _ _ e2]
end
end Go.Proofs.Ytelphegeeiocnaa.W07
