/-
  Texts joined, in build order, each with its own comment and its own conditions: W07Real, W06Place, W06Look, W06Around, W06Concat.
-/
import Derived.Test.YtmbpgjncioegdaaGreatDoorJ06
import Derived.Test.YtmbpgjncioegdaaGreatDoorJ13
import Derived.Test.YtmbpgjncioegdaaGreatDoorJ01
import Derived.Test.YtmbpgjncioegdaaGreatDoorJ03
import Derived.Test.YtmbpgjncioegdaaGreatDoorJ07
import Derived.Test.YtmbpgjncioegdaaGreatDoorJ11
import Derived.Deep.LoopGhost
import Derived.Lib.AppendZeros
import Derived.Lib.Walk
/-
  Layer 7 (tree): plain mathematics of the landed code: what is kept of each node by its number; what storing nodes, hanging them up and taking them off come to, for Put, Set, Cut and Move. Lists alone. No condition but those that each theorem bears.
-/
namespace Go.Proofs.YtmbpgjncioegdaaGreatDoor.W07
open Go Go.Proofs.YtmbpgjncioegdaaGreatDoor.M07 Go.Proofs.YtmbpgjncioegdaaGreatDoor.Maps
open Go.Proofs.YtmbpgjncioegdaaGreatDoor.M06 (Ent)
open Go.Proofs.YtmbpgjncioegdaaGreatDoor.M03 (check lt)

/-- what the program keeps of a node -/
structure Nod where
  kind : Int
  up : Int
  data : Bytes
  list : List Ent
def nod0 : Nod := ⟨0, 0, [], []⟩
def plainN (t : Tr) (n : Int) : Nod := ⟨(nodeAt t.L n).kind, (nodeAt t.L n).up, (nodeAt t.L n).data, listed t n⟩
def hangN (g : Int → Nod) (d : Int) (s : Bytes) (n : Int) : Int → Nod :=
  let g1 := upd g d { g d with list := M06.put (g d).list (s, n) }
  upd g1 n { g1 n with up := d }
def unhangN (g : Int → Nod) (d : Int) (s : Bytes) : Int → Nod := upd g d { g d with list := M06.cut (g d).list s }

theorem pair_ext {α : Type} {r : α → α → Prop} (irr : ∀ a, ¬ r a a) (asy : ∀ a b, r a b → ¬ r b a) : ∀ {a b : List α}, a.Pairwise r → b.Pairwise r → (∀ e, e ∈ a ↔ e ∈ b) → a = b
  | [], [], _, _, _ => rfl
  | [], y :: b, _, _, h => absurd ((h y).2 List.mem_cons_self) (by simp)
  | x :: a, [], _, _, h => absurd ((h x).1 List.mem_cons_self) (by simp)
  | x :: a, y :: b, ha, hb, h => by
    rw [List.pairwise_cons] at ha hb
    have e : x = y := by
      rcases List.mem_cons.1 ((h x).1 List.mem_cons_self) with e | h1
      · exact e
      · rcases List.mem_cons.1 ((h y).2 List.mem_cons_self) with e | h2
        · exact e.symm
        · exact absurd (ha.1 y h2) (asy _ _ (hb.1 x h1))
    subst e
    rw [pair_ext irr asy ha.2 hb.2 fun e => ?_]
    constructor
    · intro he
      rcases List.mem_cons.1 ((h e).1 (List.mem_cons_of_mem _ he)) with e2 | h2
      · rw [e2] at he; exact absurd (ha.1 x he) (irr x)
      · exact h2
    · intro he
      rcases List.mem_cons.1 ((h e).2 (List.mem_cons_of_mem _ he)) with e2 | h2
      · rw [e2] at he; exact absurd (hb.1 x he) (irr x)
      · exact h2
theorem right_ext {a b : List Ent} (ha : M06.right a = true) (hb : M06.right b = true) (h : ∀ e, e ∈ a ↔ e ∈ b) : a = b :=
  pair_ext (r := fun a b : Ent => lt a.1 b.1) (fun _ => M03.lt_irrefl _) (fun _ _ => M03.lt_asymm) ((M06.right_iff _).1 ha) ((M06.right_iff _).1 hb) h
theorem mem_cut_iff {L : List Ent} {s : Bytes} {x : Ent} (h : M06.right L = true) : x ∈ M06.cut L s ↔ x ∈ L ∧ x.1 ≠ s := by
  unfold M06.cut M06.cutL
  rw [M06.all_right h, List.mem_filter]
  simp

section
variable {t : Tr}
/-- whether a node stands in a directory by a name -/
def Stands (t : Tr) (d : Int) (s : Bytes) (m : Int) : Prop := (nodeAt t.L d).kind = 1 ∧ m ≠ 1 ∧ (nodeAt t.L m).kind ≠ 0 ∧ (nodeAt t.L m).up = d ∧ (nodeAt t.L m).name = s
theorem listed_right (t : Tr) (d : Int) : M06.right (listed t d) = true := by
  unfold listed
  split
  · exact (M06.right_iff _).2 (list_rises _ _)
  · rfl
theorem mem_listed (h : Right t) {d m : Int} {s : Bytes} : (s, m) ∈ listed t d ↔ Stands t d s m := by
  unfold listed Stands
  by_cases hk : (nodeAt t.L d).kind = 1
  · rw [if_pos hk, mem_list h]
    constructor
    · rintro ⟨a, ha, h1, h2, h3⟩
      have e1 : a.name = s := congrArg Prod.fst h3
      have e2 : a.num = m := congrArg Prod.snd h3
      have e3 := h.at_ ha
      rw [e2] at e3
      rw [e3]
      exact ⟨hk, by rw [← e2]; exact h2, h.kind a ha, h1, e1⟩
    · rintro ⟨-, h1, h2, h3, h4⟩
      have := at_some h2
      exact ⟨_, this.1, h3, by rw [this.2]; exact h1, Prod.ext h4 this.2⟩
  · rw [if_neg hk]
    constructor
    · intro e; cases e
    · rintro ⟨e, -⟩; exact absurd e hk
/-- two right trees' worth: a table with the nodes' cells, and lists that hold what stands there, is the tree's -/
theorem plain_of (h : Right t) {g : Int → Nod} (hg : ∀ n, (g n).kind = (nodeAt t.L n).kind ∧ (g n).up = (nodeAt t.L n).up ∧ (g n).data = (nodeAt t.L n).data ∧ M06.right (g n).list = true ∧ ∀ s m, (s, m) ∈ (g n).list ↔ Stands t n s m) : plainN t = g := by
  funext n
  obtain ⟨h1, h2, h3, h4, h5⟩ := hg n
  have e : listed t n = (g n).list := right_ext (listed_right t n) h4 fun ⟨s, m⟩ => by rw [mem_listed h, h5]
  unfold plainN
  rw [e, ← h1, ← h2, ← h3]
theorem plain_right (t : Tr) (n : Int) : M06.right (plainN t n).list = true := listed_right t n
theorem mem_plain (h : Right t) {d m : Int} {s : Bytes} : (s, m) ∈ (plainN t d).list ↔ Stands t d s m := mem_listed h
theorem stands_once (h : Right t) {d a b : Int} {s : Bytes} (ha : Stands t d s a) (hb : Stands t d s b) : a = b := by
  obtain ⟨-, a1, a2, a3, a4⟩ := ha
  obtain ⟨-, b1, b2, b3, b4⟩ := hb
  have ea := at_some a2
  have eb := at_some b2
  have := h.once _ ea.1 _ eb.1 (by rw [ea.2]; exact a1) (by rw [eb.2]; exact b1) (by rw [a3, b3]) (by rw [a4, b4])
  rw [← ea.2, this, eb.2]
theorem find_first {L : List Ent} (h : M06.right L = true) {s : Bytes} {m : Int} (hm : (s, m) ∈ L) : M06.find L s = (m, true) := by
  have hp := (M06.right_iff _).1 h
  clear h
  induction L with
  | nil => cases hm
  | cons a r ih =>
    rw [List.pairwise_cons] at hp
    unfold M06.find
    by_cases e : a.1 = s
    · rw [if_pos e]
      rcases List.mem_cons.1 hm with e2 | h2
      · rw [← e2]
      · have := hp.1 _ h2
        rw [e] at this
        exact absurd this (M03.lt_irrefl _)
    · rw [if_neg e]
      rcases List.mem_cons.1 hm with e2 | h2
      · rw [← e2] at e; exact absurd rfl e
      · exact ih h2 hp.2
/-- the node of a name in a directory, as Find tells -/
theorem find_in (h : Right t) {d : Int} (s : Bytes) (hd : (nodeAt t.L d).kind = 1) : M06.find (M06.all (plainN t d).list) s = (inDir t.L d s, decide (inDir t.L d s ≠ 0)) := by
  rw [M06.all_right (plain_right t d)]
  by_cases h0 : inDir t.L d s = 0
  · have hno := in_not (fun a ha => (h.ends a ha).1) h0
    rw [M06.find_not fun x hx e => ?_, h0]; · rfl
    obtain ⟨x1, x2⟩ := x
    obtain ⟨-, h1, h2, h3, h4⟩ := (mem_plain h).1 hx
    have := at_some h2
    exact hno _ this.1 (by rw [this.2]; exact h1) ⟨h3, h4.trans e⟩
  · obtain ⟨a, ha, e1, e2, e3, e4⟩ := in_found h0
    rw [decide_eq_true h0]
    refine find_first (plain_right t d) ((mem_plain h).2 ⟨hd, by rw [← e1]; exact e4, ?_⟩)
    rw [← e1, h.at_ ha]
    exact ⟨h.kind a ha, e2, e3⟩
theorem in_stands (h : Right t) {d : Int} {s : Bytes} (hd : (nodeAt t.L d).kind = 1) (h0 : inDir t.L d s ≠ 0) : Stands t d s (inDir t.L d s) := by
  obtain ⟨a, ha, e1, e2, e3, e4⟩ := in_found h0
  refine ⟨hd, by rw [← e1]; exact e4, ?_⟩
  rw [← e1, h.at_ ha]
  exact ⟨h.kind a ha, e2, e3⟩
theorem in_none (h : Right t) {d m : Int} {s : Bytes} (h0 : inDir t.L d s = 0) : ¬ Stands t d s m := by
  rintro ⟨-, h1, h2, h3, h4⟩
  have := at_some h2
  exact in_not (fun a ha => (h.ends a ha).1) h0 _ this.1 (by rw [this.2]; exact h1) ⟨h3, h4⟩

/-! Put -/
theorem put_plain (h : Right t) {d kind : Int} {s x : Bytes} (he : putErr t d s kind x = 0) : plainN ⟨t.L ++ [⟨t.last + 1, d, s, kind, x⟩], t.last + 1⟩ = hangN (upd (plainN t) (t.last + 1) ⟨kind, 0, x, []⟩) d s (t.last + 1) := by
  have hR := put_right h (d := d) (kind := kind) (name := s) (data := x)
  rw [put_works he] at hR
  have hd : (nodeAt t.L d).kind = 1 := dir_zero (by unfold putErr at he; split at he; · rename_i h1; exact absurd he h1
                                                    · rename_i h1; simpa using h1)
  have hin : inDir t.L d s = 0 := by
    have := in_pos (L := t.L) (d := d) (s := s) (fun a ha => (h.ends a ha).1)
    unfold putErr at he
    split at he
    · omega
    · split at he
      · omega
      · split at he <;> omega
  have hnum : ∀ a ∈ t.L, a.num ≠ t.last + 1 := fun a ha => by have := (h.ends a ha).2; omega
  have hdk : d ≠ t.last + 1 := by
    have := at_some (L := t.L) (n := d) (by rw [hd]; decide)
    rw [← this.2]; exact hnum _ this.1
  have hl1 : 1 ≤ t.last := by
    obtain ⟨r, hr⟩ := h.root
    have := h.ends ⟨1, 1, [], 1, []⟩ (by rw [hr]; exact List.mem_cons_self)
    exact this.2
  have hz : nodeAt t.L (t.last + 1) = zero := at_none hnum
  have hat : ∀ n, n ≠ t.last + 1 → nodeAt (t.L ++ [⟨t.last + 1, d, s, kind, x⟩]) n = nodeAt t.L n := fun n hn => at_append hn
  have hlast : nodeAt (t.L ++ [⟨t.last + 1, d, s, kind, x⟩]) (t.last + 1) = ⟨t.last + 1, d, s, kind, x⟩ := at_last (x := ⟨t.last + 1, d, s, kind, x⟩) hnum
  generalize t.last + 1 = k at *
  have hkk : kind ≠ 0 := by
    have := hR.kind ⟨k, d, s, kind, x⟩ (by simp)
    exact this
  have hk1 : k ≠ 1 := by
    intro e
    obtain ⟨r, hr⟩ := h.root
    exact hnum ⟨1, 1, [], 1, []⟩ (by rw [hr]; exact List.mem_cons_self) e.symm
  have hns : ∀ n q m, Stands ⟨t.L ++ [⟨k, d, s, kind, x⟩], k⟩ n q m ↔ (m = k ∧ n = d ∧ q = s) ∨ Stands t n q m := by
    intro n q m
    unfold Stands
    show ((nodeAt (t.L ++ [⟨k, d, s, kind, x⟩]) n).kind = 1 ∧ m ≠ 1 ∧ (nodeAt (t.L ++ [⟨k, d, s, kind, x⟩]) m).kind ≠ 0 ∧ (nodeAt (t.L ++ [⟨k, d, s, kind, x⟩]) m).up = n ∧ (nodeAt (t.L ++ [⟨k, d, s, kind, x⟩]) m).name = q) ↔ _
    by_cases em : m = k
    · subst em
      rw [hlast, hz]
      constructor
      · rintro ⟨-, -, -, h4, h5⟩; exact Or.inl ⟨rfl, h4.symm, h5.symm⟩
      · rintro (⟨-, rfl, rfl⟩ | ⟨-, -, h3, -⟩)
        · exact ⟨by rw [hat _ hdk]; exact hd, hk1, hkk, rfl, rfl⟩
        · exact absurd rfl h3
    · rw [hat m em]
      by_cases en : n = k
      · subst en
        rw [hlast, hz]
        constructor
        · rintro ⟨-, h2, h3, h4, h5⟩
          obtain ⟨b, hb, e, -⟩ := h.up_mem (at_some h3).1
          exact absurd (e.trans h4) (hnum b hb)
        · rintro (⟨h1, -⟩ | ⟨h1, -⟩)
          · exact absurd h1 em
          · exact absurd h1 (by decide)
      · rw [hat n en]
        constructor
        · intro h1; exact Or.inr h1
        · rintro (⟨h1, -⟩ | h1)
          · exact absurd h1 em
          · exact h1
  refine plain_of hR fun n => ?_
  unfold hangN
  simp only []
  by_cases e1 : n = k
  · subst e1
    rw [upd_here, upd_other _ _ (Ne.symm hdk), upd_here]
    show kind = (nodeAt (t.L ++ _) n).kind ∧ d = (nodeAt (t.L ++ _) n).up ∧ x = (nodeAt (t.L ++ _) n).data ∧ _
    rw [hlast]
    refine ⟨rfl, rfl, rfl, rfl, fun q m => ?_⟩
    rw [hns]
    constructor
    · intro e; cases e
    · rintro (⟨-, e, -⟩ | ⟨e, -⟩)
      · exact absurd e.symm hdk
      · rw [hz] at e; exact absurd e (by decide)
  · rw [upd_other _ _ e1]
    by_cases e2 : n = d
    · subst e2
      rw [upd_here, upd_other _ _ hdk]
      show (nodeAt t.L n).kind = (nodeAt (t.L ++ _) n).kind ∧ (nodeAt t.L n).up = (nodeAt (t.L ++ _) n).up ∧ (nodeAt t.L n).data = (nodeAt (t.L ++ _) n).data ∧ M06.right (M06.put (plainN t n).list (s, k)) = true ∧ ∀ q m, (q, m) ∈ M06.put (plainN t n).list (s, k) ↔ _
      rw [hat n e1]
      refine ⟨rfl, rfl, rfl, M06.right_put _ _, fun q m => ?_⟩
      rw [mem_put_iff (plain_right t n), mem_plain h, hns]
      constructor
      · rintro (e | ⟨h1, -⟩)
        · cases e; exact Or.inl ⟨rfl, rfl, rfl⟩
        · exact Or.inr h1
      · rintro (⟨rfl, -, rfl⟩ | h1)
        · exact Or.inl rfl
        · exact Or.inr ⟨h1, fun e => in_none h hin (show Stands t n s m by rw [← show q = s from e]; exact h1)⟩
    · rw [upd_other _ _ e2, upd_other _ _ e1]
      show (nodeAt t.L n).kind = (nodeAt (t.L ++ _) n).kind ∧ (nodeAt t.L n).up = (nodeAt (t.L ++ _) n).up ∧ (nodeAt t.L n).data = (nodeAt (t.L ++ _) n).data ∧ _
      rw [hat n e1]
      refine ⟨rfl, rfl, rfl, plain_right t n, fun q m => ?_⟩
      rw [mem_plain h, hns]
      constructor
      · exact Or.inr
      · rintro (⟨-, e, -⟩ | h1)
        · exact absurd e e2
        · exact h1
/-! Set -/
theorem at_with {L : List Nd} {x : Nd} (hk : ∀ a ∈ L, a.kind ≠ 0) (n : Int) : nodeAt (L.map (fun a => if a.num = x.num then x else a)) n = if n = x.num ∧ (nodeAt L n).kind ≠ 0 then x else nodeAt L n := by
  have hn : ∀ a : Nd, (if a.num = x.num then x else a).num = a.num := by
    intro a
    by_cases e : a.num = x.num
    · rw [if_pos e]; exact e.symm
    · rw [if_neg e]
  induction L with
  | nil => rw [if_neg (by rintro ⟨-, e⟩; exact e rfl)]; rfl
  | cons a r ih =>
    rw [List.map_cons]
    unfold nodeAt
    rw [hn]
    by_cases e : a.num = n
    · rw [if_pos e, if_pos e]
      by_cases e2 : n = x.num
      · rw [if_pos (by rw [e]; exact e2), if_pos ⟨e2, hk a List.mem_cons_self⟩]
      · rw [if_neg (by rw [e]; exact e2), if_neg (by rintro ⟨e3, -⟩; exact e2 e3)]
    · rw [if_neg e, if_neg e]
      exact ih fun b hb => hk b (List.mem_cons_of_mem _ hb)
theorem set_plain (h : Right t) {n : Int} {x : Bytes} (hk : (nodeAt t.L n).kind ≠ 0) (hk1 : (nodeAt t.L n).kind ≠ 1) (hm : mayErr (nodeAt t.L n).kind x = 0) : plainN (withNode t { nodeAt t.L n with data := x }) = upd (plainN t) n { plainN t n with data := x } := by
  have hR := set_right h (n := n) (data := x)
  unfold M07.set at hR
  rw [if_neg hk, if_neg hk1, if_neg (by rw [hm]; decide)] at hR
  have hnum := (at_some hk).2
  have hat : ∀ m, nodeAt (withNode t { nodeAt t.L n with data := x }).L m = if m = n then { nodeAt t.L n with data := x } else nodeAt t.L m := by
    intro m
    show nodeAt (t.L.map _) m = _
    rw [at_with h.kind]
    show (if m = (nodeAt t.L n).num ∧ _ then _ else _) = _
    rw [hnum]
    by_cases e : m = n
    · subst e; rw [if_pos ⟨rfl, hk⟩, if_pos rfl]
    · rw [if_neg (fun e2 => e e2.1), if_neg e]
  have hns : ∀ d q m, Stands (withNode t { nodeAt t.L n with data := x }) d q m ↔ Stands t d q m := by
    intro d q m
    unfold Stands
    rw [hat m, hat d]
    by_cases e1 : m = n <;> by_cases e2 : d = n <;> simp [e1, e2]
  refine plain_of hR fun m => ?_
  rw [hat m]
  by_cases e : m = n
  · subst e
    rw [upd_here, if_pos rfl]
    exact ⟨rfl, rfl, rfl, plain_right t m, fun q i => by rw [hns]; exact mem_plain h⟩
  · rw [upd_other _ _ e, if_neg e]
    exact ⟨rfl, rfl, rfl, plain_right t m, fun q i => by rw [hns]; exact mem_plain h⟩
/-! Cut -/
theorem cut_plain (h : Right t) {d : Int} {s : Bytes} (hd : (nodeAt t.L d).kind = 1) (h0 : inDir t.L d s ≠ 0) (hv : listDir t.L (inDir t.L d s) = []) :
    plainN ⟨t.L.filter (fun a => decide (a.num ≠ inDir t.L d s)), t.last⟩ = upd (unhangN (plainN t) d s) (inDir t.L d s) nod0 := by
  have hR := cut_right h (d := d) (name := s)
  have hst := in_stands h hd h0
  have hw : (cut t d s).1 = ⟨t.L.filter (fun a => decide (a.num ≠ inDir t.L d s)), t.last⟩ := by
    unfold M07.cut
    rw [if_neg (by unfold dirErr; rw [hd]; decide), if_neg h0, if_neg (by rw [hv]; simp)]
  rw [hw] at hR
  have hvoid := list_void hv
  generalize inDir t.L d s = n at *
  have hat : ∀ m, nodeAt (t.L.filter (fun a => decide (a.num ≠ n))) m = if m = n then zero else nodeAt t.L m := by
    intro m
    by_cases e : m = n
    · subst e
      rw [if_pos rfl]
      exact at_none fun a ha => by have := (List.mem_filter.1 ha).2; simpa using this
    · rw [if_neg e]; exact at_filter e
  have hdn : d ≠ n := by
    intro e
    have := at_some hst.2.2.1
    exact hvoid _ this.1 (by rw [this.2]; exact hst.2.1) (by rw [hst.2.2.2.1]; exact e)
  have hns : ∀ i q m, Stands ⟨t.L.filter (fun a => decide (a.num ≠ n)), t.last⟩ i q m ↔ Stands t i q m ∧ m ≠ n := by
    intro i q m
    unfold Stands
    show ((nodeAt (t.L.filter _) i).kind = 1 ∧ m ≠ 1 ∧ (nodeAt (t.L.filter _) m).kind ≠ 0 ∧ (nodeAt (t.L.filter _) m).up = i ∧ (nodeAt (t.L.filter _) m).name = q) ↔ _
    rw [hat, hat]
    by_cases e1 : m = n
    · rw [if_pos e1]
      constructor
      · rintro ⟨-, -, e, -⟩; exact absurd rfl e
      · rintro ⟨-, e⟩; exact absurd e1 e
    · rw [if_neg e1]
      by_cases e2 : i = n
      · subst e2
        rw [if_pos rfl]
        constructor
        · rintro ⟨e, -⟩; exact absurd e (by decide)
        · rintro ⟨⟨-, a2, a3, a4, a5⟩, -⟩
          have := at_some a3
          exact absurd a4 (hvoid _ this.1 (by rw [this.2]; exact a2))
      · rw [if_neg e2]
        constructor
        · intro e; exact ⟨e, e1⟩
        · rintro ⟨e, -⟩; exact e
  refine plain_of hR fun m => ?_
  show _ = (nodeAt (t.L.filter _) m).kind ∧ _ = (nodeAt (t.L.filter _) m).up ∧ _ = (nodeAt (t.L.filter _) m).data ∧ _
  rw [hat m]
  by_cases e : m = n
  · subst e
    rw [upd_here, if_pos rfl]
    refine ⟨rfl, rfl, rfl, rfl, fun q i => ?_⟩
    rw [hns]
    constructor
    · intro e; cases e
    · rintro ⟨⟨-, a2, a3, a4, a5⟩, -⟩
      have := at_some a3
      exact absurd a4 (hvoid _ this.1 (by rw [this.2]; exact a2))
  · rw [upd_other _ _ e, if_neg e]
    unfold unhangN
    by_cases e2 : m = d
    · subst e2
      rw [upd_here]
      refine ⟨rfl, rfl, rfl, M06.right_cut _ _, fun q i => ?_⟩
      show (q, i) ∈ M06.cut (plainN t m).list s ↔ _
      rw [mem_cut_iff (plain_right t m), mem_plain h, hns]
      constructor
      · rintro ⟨h1, h2⟩
        refine ⟨h1, fun e3 => h2 ?_⟩
        rw [e3] at h1
        exact h1.2.2.2.2.symm.trans hst.2.2.2.2
      · rintro ⟨h1, h2⟩
        refine ⟨h1, fun e3 => h2 ?_⟩
        have e3 : q = s := e3
        rw [e3] at h1
        exact stands_once h h1 hst
    · rw [upd_other _ _ e2]
      refine ⟨rfl, rfl, rfl, plain_right t m, fun q i => ?_⟩
      rw [mem_plain h, hns]
      constructor
      · intro h1
        refine ⟨h1, fun e3 => e2 ?_⟩
        rw [e3] at h1
        exact h1.2.2.2.1.symm.trans hst.2.2.2.1
      · exact And.left
/-! Move -/
theorem placed_plain (h : Right t) {n dst src : Int} {s : Bytes} {al : Bytes} (hst : Stands t src s n) (hd : (nodeAt t.L dst).kind = 1) (hne : dst ≠ n) (hno : inDir t.L dst al = 0) (hin : (nodeAt t.L n).kind = 1 → ¬ Inside t.L n dst) :
    plainN (placed t (nodeAt t.L n) dst al) = hangN (unhangN (plainN t) src s) dst al n := by
  have hm := at_some hst.2.2.1
  have hR := placed_right h hm.1 (by rw [hm.2]; exact hst.2.1) hd hno (by rw [hm.2]; exact hin)
  have hat : ∀ m, nodeAt (placed t (nodeAt t.L n) dst al).L m = if m = n then { nodeAt t.L n with up := dst, name := al } else nodeAt t.L m := by
    intro m
    show nodeAt (t.L.map _) m = _
    rw [at_with h.kind]
    show (if m = (nodeAt t.L n).num ∧ _ then _ else _) = _
    by_cases e : m = n
    · rw [if_pos ⟨e.trans hm.2.symm, by rw [e]; exact hst.2.2.1⟩, if_pos e]
    · rw [if_neg (fun e2 => e (e2.1.trans hm.2)), if_neg e]
  have hsn : src ≠ n := by
    intro e
    have := never_self h hm.1 (by rw [hm.2]; exact hst.2.1)
    rw [hm.2, hst.2.2.2.1] at this
    exact this e
  have hns : ∀ i q m, Stands (placed t (nodeAt t.L n) dst al) i q m ↔ (m = n ∧ i = dst ∧ q = al) ∨ (m ≠ n ∧ Stands t i q m) := by
    intro i q m
    unfold Stands
    have hik : (nodeAt (placed t (nodeAt t.L n) dst al).L i).kind = (nodeAt t.L i).kind := by
      rw [hat]
      split
      · rename_i e; rw [e]
      · rfl
    rw [hik, hat]
    by_cases e1 : m = n
    · subst e1
      rw [if_pos rfl]
      constructor
      · rintro ⟨-, -, -, a, b⟩
        exact Or.inl ⟨rfl, a.symm, b.symm⟩
      · rintro (⟨-, rfl, rfl⟩ | ⟨e, -⟩)
        · exact ⟨hd, hst.2.1, hst.2.2.1, rfl, rfl⟩
        · exact absurd rfl e
    · rw [if_neg e1]
      constructor
      · intro e; exact Or.inr ⟨e1, e⟩
      · rintro (⟨e, -⟩ | ⟨-, e⟩)
        · exact absurd e e1
        · exact e
  -- what the lists hold
  have hsrc : ∀ q m, (q, m) ∈ M06.cut (plainN t src).list s ↔ Stands t src q m ∧ m ≠ n := by
    intro q m
    rw [mem_cut_iff (plain_right t src), mem_plain h]
    constructor
    · rintro ⟨h1, h2⟩
      refine ⟨h1, fun e3 => h2 ?_⟩
      rw [e3] at h1
      exact h1.2.2.2.2.symm.trans hst.2.2.2.2
    · rintro ⟨h1, h2⟩
      refine ⟨h1, fun e3 => h2 ?_⟩
      have e3 : q = s := e3
      rw [e3] at h1
      exact stands_once h h1 hst
  have hoth : ∀ i q m, i ≠ src → Stands t i q m → m ≠ n := by
    intro i q m hi h1 e
    rw [e] at h1
    exact hi (h1.2.2.2.1.symm.trans hst.2.2.2.1)
  have hput : ∀ (i : Int) (L : List Ent), i = dst → M06.right L = true → (∀ q m, (q, m) ∈ L ↔ Stands t i q m ∧ m ≠ n) → M06.right (M06.put L (al, n)) = true ∧ ∀ q m, (q, m) ∈ M06.put L (al, n) ↔ Stands (placed t (nodeAt t.L n) dst al) i q m := by
    intro i L hi hr hL
    refine ⟨M06.right_put _ _, fun q m => ?_⟩
    rw [mem_put_iff hr, hL, hns]
    constructor
    · rintro (e | ⟨⟨h1, h2⟩, -⟩)
      · cases e; exact Or.inl ⟨rfl, hi, rfl⟩
      · exact Or.inr ⟨h2, h1⟩
    · rintro (⟨rfl, -, rfl⟩ | ⟨h1, h2⟩)
      · exact Or.inl rfl
      · refine Or.inr ⟨⟨h2, h1⟩, fun e => ?_⟩
        have e : q = al := e
        rw [e, hi] at h2
        exact in_none h hno h2
  refine plain_of hR fun m => ?_
  rw [hat m]
  unfold hangN
  simp only []
  by_cases e : m = n
  · subst e
    rw [upd_here, if_pos rfl, upd_other _ _ (Ne.symm hne)]
    unfold unhangN
    rw [upd_other _ _ (Ne.symm hsn)]
    refine ⟨rfl, rfl, rfl, plain_right t m, fun q i => ?_⟩
    show (q, i) ∈ (plainN t m).list ↔ _
    rw [mem_plain h, hns]
    constructor
    · intro h1; exact Or.inr ⟨hoth _ _ _ (Ne.symm hsn) h1, h1⟩
    · rintro (⟨-, e, -⟩ | ⟨-, h1⟩)
      · exact absurd e.symm hne
      · exact h1
  · rw [upd_other _ _ e, if_neg e]
    by_cases e2 : m = dst
    · subst e2
      rw [upd_here]
      unfold unhangN
      by_cases e3 : m = src
      · subst e3
        rw [upd_here]
        have := hput m _ rfl (M06.right_cut _ _) hsrc
        exact ⟨rfl, rfl, rfl, this.1, this.2⟩
      · rw [upd_other _ _ e3]
        have := hput m _ rfl (plain_right t m) (fun q i => by
          rw [mem_plain h]
          exact ⟨fun h1 => ⟨h1, hoth _ _ _ e3 h1⟩, And.left⟩)
        exact ⟨rfl, rfl, rfl, this.1, this.2⟩
    · rw [upd_other _ _ e2]
      unfold unhangN
      by_cases e3 : m = src
      · subst e3
        rw [upd_here]
        refine ⟨rfl, rfl, rfl, M06.right_cut _ _, fun q i => ?_⟩
        rw [hns]
        show (q, i) ∈ M06.cut (plainN t m).list s ↔ _
        rw [hsrc]
        constructor
        · rintro ⟨h1, h2⟩; exact Or.inr ⟨h2, h1⟩
        · rintro (⟨-, e4, -⟩ | ⟨h2, h1⟩)
          · exact absurd e4 e2
          · exact ⟨h1, h2⟩
      · rw [upd_other _ _ e3]
        refine ⟨rfl, rfl, rfl, plain_right t m, fun q i => ?_⟩
        rw [mem_plain h, hns]
        constructor
        · intro h1; exact Or.inr ⟨hoth _ _ _ e3 h1, h1⟩
        · rintro (⟨-, e4, -⟩ | ⟨-, h1⟩)
          · exact absurd e4 e2
          · exact h1
theorem put_cut {L : List Ent} (h : M06.right L = true) (s : Bytes) (n : Int) : M06.put (M06.cut L s) (s, n) = M06.put L (s, n) :=
  right_ext (M06.right_put _ _) (M06.right_put _ _) fun e => by
    rw [mem_put_iff (M06.right_cut _ _), mem_put_iff h, mem_cut_iff h]
    constructor
    · rintro (h1 | ⟨⟨h1, -⟩, h2⟩)
      · exact Or.inl h1
      · exact Or.inr ⟨h1, h2⟩
    · rintro (h1 | ⟨h1, h2⟩)
      · exact Or.inl h1
      · exact Or.inr ⟨⟨h1, h2⟩, h2⟩
theorem cut_cut {L : List Ent} (h : M06.right L = true) (s q : Bytes) : M06.cut (M06.cut L s) q = M06.cut (M06.cut L q) s :=
  right_ext (M06.right_cut _ _) (M06.right_cut _ _) fun e => by
    rw [mem_cut_iff (M06.right_cut _ _), mem_cut_iff h, mem_cut_iff (M06.right_cut _ _), mem_cut_iff h]
    constructor
    · rintro ⟨⟨a, b⟩, c⟩; exact ⟨⟨a, c⟩, b⟩
    · rintro ⟨⟨a, b⟩, c⟩; exact ⟨⟨a, c⟩, b⟩
/-- what stood there is gone, and the node takes its name over -/
theorem replace_plain {g : Int → Nod} (hg : ∀ m, M06.right (g m).list = true) {src dst th n : Int} {s : Bytes} {al : Bytes} (h1 : th ≠ src) (h2 : th ≠ dst) (h3 : th ≠ n) (h4 : dst ≠ n) :
    hangN (unhangN (upd (unhangN g dst al) th nod0) src s) dst al n = hangN (unhangN (upd g th nod0) src s) dst al n := by
  funext m
  unfold hangN unhangN
  simp only []
  by_cases e1 : m = n
  · subst e1
    rw [upd_here, upd_here, upd_other _ _ (Ne.symm h4), upd_other _ _ (Ne.symm h4)]
    by_cases e2 : m = src
    · subst e2
      rw [upd_here, upd_here, upd_other _ _ (Ne.symm h3), upd_other _ _ (Ne.symm h3), upd_other _ _ (Ne.symm h4)]
    · rw [upd_other _ _ e2, upd_other _ _ e2, upd_other _ _ (Ne.symm h3), upd_other _ _ (Ne.symm h3), upd_other _ _ (Ne.symm h4)]
  · rw [upd_other _ _ e1, upd_other _ _ e1]
    by_cases e2 : m = dst
    · subst e2
      rw [upd_here, upd_here]
      by_cases e3 : m = src
      · subst e3
        rw [upd_here, upd_here, upd_other _ _ (Ne.symm h2), upd_other _ _ (Ne.symm h2), upd_here]
        show (⟨_, _, _, M06.put (M06.cut (M06.cut (g m).list al) s) (al, n)⟩ : Nod) = ⟨_, _, _, M06.put (M06.cut (g m).list s) (al, n)⟩
        rw [cut_cut (hg m), put_cut (M06.right_cut _ _)]
      · rw [upd_other _ _ e3, upd_other _ _ e3, upd_other _ _ (Ne.symm h2), upd_other _ _ (Ne.symm h2), upd_here]
        show (⟨_, _, _, M06.put (M06.cut (g m).list al) (al, n)⟩ : Nod) = ⟨_, _, _, M06.put (g m).list (al, n)⟩
        rw [put_cut (hg m)]
    · rw [upd_other _ _ e2, upd_other _ _ e2]
      by_cases e3 : m = src
      · subst e3
        rw [upd_here, upd_here, upd_other _ _ (Ne.symm h1), upd_other _ _ (Ne.symm h1), upd_other _ _ e2]
      · rw [upd_other _ _ e3, upd_other _ _ e3]
        by_cases e4 : m = th
        · subst e4; rw [upd_here, upd_here]
        · rw [upd_other _ _ e4, upd_other _ _ e4, upd_other _ _ e2]
end
end Go.Proofs.YtmbpgjncioegdaaGreatDoor.W07
/-
  Plain mathematics for layer 6 (ents), as the landed code goes: a name's place in entries that rise; those ahead of it, the one that has it, those behind; what is put, cut, merged, found next, told by these. Lists alone; no condition but those that each theorem bears.
-/
namespace Go.Proofs.YtmbpgjncioegdaaGreatDoor.M06
open Go.Proofs.YtmbpgjncioegdaaGreatDoor.M03

def low (L : List Ent) (s : List UInt8) : List Ent := L.filter (fun a => decide (lt a.1 s))
def mid (L : List Ent) (s : List UInt8) : List Ent := L.filter (fun a => decide (a.1 = s))
def high (L : List Ent) (s : List UInt8) : List Ent := L.filter (fun a => decide (lt s a.1))
/-- where a name stands: how many are ahead, and whether it is there -/
def place : List Ent → List UInt8 → Nat × Bool
  | [], _ => (0, false)
  | a :: r, s => if lt a.1 s then ((place r s).1 + 1, (place r s).2) else (0, decide (a.1 = s))
def wide (f : Bool) : Nat := if f = true then 1 else 0
theorem high_all : ∀ {L : List Ent} {s : List UInt8}, (∀ a ∈ L, lt s a.1) → low L s = [] ∧ mid L s = [] ∧ high L s = L := by
  intro L s h
  refine ⟨List.filter_eq_nil_iff.2 fun a ha => ?_, List.filter_eq_nil_iff.2 fun a ha => ?_, List.filter_eq_self.2 fun a ha => ?_⟩
  · simpa using lt_asymm (h a ha)
  · simpa using fun e : a.1 = s => lt_irrefl s (by have := h a ha; rwa [e] at this)
  · simpa using h a ha
theorem place_len : ∀ (L : List Ent) (s : List UInt8), (place L s).1 + wide (place L s).2 ≤ L.length
  | [], s => by simp [place, wide]
  | a :: r, s => by
    have ih := place_len r s
    unfold place
    by_cases h : lt a.1 s
    · rw [if_pos h]; simp only [List.length_cons]; omega
    · rw [if_neg h]; simp only [List.length_cons]; unfold wide; split <;> omega
theorem place_parts : ∀ {L : List Ent} (s : List UInt8), right L = true → low L s = L.take (place L s).1 ∧ mid L s = (L.take ((place L s).1 + wide (place L s).2)).drop (place L s).1 ∧ high L s = L.drop ((place L s).1 + wide (place L s).2)
  | [], s, _ => ⟨rfl, rfl, rfl⟩
  | a :: r, s, hr => by
    have hp := (right_iff _).1 hr
    rw [List.pairwise_cons] at hp
    have hr2 : right r = true := (right_iff _).2 hp.2
    obtain ⟨i1, i2, i3⟩ := place_parts s hr2
    unfold low at i1 ⊢
    unfold mid at i2 ⊢
    unfold high at i3 ⊢
    unfold place
    by_cases h : lt a.1 s
    · rw [if_pos h, List.filter_cons_of_pos (by simpa using h), List.filter_cons_of_neg (by simpa using fun e : a.1 = s => lt_irrefl s (by rwa [e] at h)), List.filter_cons_of_neg (by simpa using lt_asymm h), i1, i2, i3]
      refine ⟨rfl, ?_, ?_⟩
      · show _ = List.drop ((place r s).1 + 1) (List.take ((place r s).1 + 1 + wide (place r s).2) (a :: r))
        rw [show (place r s).1 + 1 + wide (place r s).2 = (place r s).1 + wide (place r s).2 + 1 by omega, List.take_succ_cons, List.drop_succ_cons]
      · show _ = List.drop ((place r s).1 + 1 + wide (place r s).2) (a :: r)
        rw [show (place r s).1 + 1 + wide (place r s).2 = (place r s).1 + wide (place r s).2 + 1 by omega, List.drop_succ_cons]
    · rw [if_neg h]
      by_cases e : a.1 = s
      · obtain ⟨q1, q2, q3⟩ := high_all (L := r) (s := s) (fun b hb => by rw [← e]; exact hp.1 b hb)
        unfold low at q1; unfold mid at q2; unfold high at q3
        rw [List.filter_cons_of_neg (by simpa using h), List.filter_cons_of_pos (by simpa using e), List.filter_cons_of_neg (by rw [e]; simpa using lt_irrefl s), q1, q2, q3]
        simp [e, wide]
      · have hs : lt s a.1 := by
          rcases lt_total a.1 s with q | q | q
          · exact absurd q h
          · exact absurd q e
          · exact q
        obtain ⟨q1, q2, q3⟩ := high_all (L := a :: r) (s := s) (fun b hb => by
          rcases List.mem_cons.1 hb with q | q
          · rw [q]; exact hs
          · exact lt_trans hs (hp.1 b q))
        unfold low at q1; unfold mid at q2; unfold high at q3
        rw [q1, q2, q3]
        simp [e, wide]
/-- a place, told by what is below and what isn't -/
theorem place_at : ∀ (L : List Ent) (s : List UInt8) (i : Nat), i ≤ L.length → (∀ k (h : k < L.length), k < i → lt (L[k]).1 s) → (∀ h : i < L.length, ¬ lt (L[i]).1 s) → place L s = (i, if h : i < L.length then decide ((L[i]).1 = s) else false)
  | [], s, i, hi, _, _ => by
    have : i = 0 := by simpa using hi
    subst this; simp [place]
  | a :: L, s, 0, _, _, h2 => by
    have := h2 (by simp)
    simp only [List.getElem_cons_zero] at this
    simp [place, this]
  | a :: L, s, i + 1, hi, h1, h2 => by
    have ha := h1 0 (by simp) (by omega)
    simp only [List.getElem_cons_zero] at ha
    have ih := place_at L s i (by simpa using hi) (fun k hk hki => by have := h1 (k + 1) (by simpa using hk) (by omega); simpa using this) (fun hk => by have := h2 (by simpa using hk); simpa using this)
    rw [place, if_pos ha, ih]
    simp
theorem rises_low {L : List Ent} (h : right L = true) {a b : Nat} {s : List UInt8} (hab : a ≤ b) (hb : b < L.length) (ha : a < L.length) (hs : lt (L[b]).1 s) : lt (L[a]).1 s := by
  rcases Nat.lt_or_ge a b with h1 | h1
  · exact lt_trans (List.pairwise_iff_getElem.1 ((right_iff _).1 h) a b ha hb h1) hs
  · obtain rfl : a = b := by omega
    exact hs
theorem rises_high {L : List Ent} (h : right L = true) {a b : Nat} {s : List UInt8} (hab : a ≤ b) (hb : b < L.length) (ha : a < L.length) (hs : ¬ lt (L[a]).1 s) : ¬ lt (L[b]).1 s := fun e => hs (rises_low h hab hb ha e)

theorem low_cut (L : List Ent) (s : List UInt8) : (cutL L s).filter (fun a => decide (lt a.1 s)) = low L s := by
  unfold cutL low
  rw [List.filter_filter]
  apply List.filter_congr
  intro a _
  by_cases h : lt a.1 s
  · have : ¬ a.1 = s := fun e => lt_irrefl s (by rwa [e] at h)
    simp [h, this]
  · simp [h]
theorem high_cut (L : List Ent) (s : List UInt8) : (cutL L s).filter (fun a => decide (lt s a.1)) = high L s := by
  unfold cutL high
  rw [List.filter_filter]
  apply List.filter_congr
  intro a _
  by_cases h : lt s a.1
  · have : ¬ a.1 = s := fun e => lt_irrefl s (by rwa [e] at h)
    simp [h, this]
  · simp [h]
theorem put_parts (L : List Ent) (e : Ent) : put L e = low (all L) e.1 ++ e :: high (all L) e.1 := by
  unfold put putL
  rw [low_cut, high_cut]
theorem cutL_parts : ∀ {L : List Ent} (s : List UInt8), right L = true → cutL L s = low L s ++ high L s
  | [], s, _ => rfl
  | a :: r, s, hr => by
    have hp := (right_iff _).1 hr
    rw [List.pairwise_cons] at hp
    have ih := cutL_parts s ((right_iff _).2 hp.2)
    unfold cutL low high at ih ⊢
    rcases lt_total a.1 s with h | h | h
    · have : ¬ a.1 = s := fun e => lt_irrefl s (by rwa [e] at h)
      rw [List.filter_cons_of_pos (by simpa using this), List.filter_cons_of_pos (by simpa using h), List.filter_cons_of_neg (by simpa using lt_asymm h), ih]; rfl
    · rw [List.filter_cons_of_neg (by simpa using h), List.filter_cons_of_neg (by rw [h]; simpa using lt_irrefl s), List.filter_cons_of_neg (by rw [h]; simpa using lt_irrefl s), ih]
    · have : ¬ a.1 = s := fun e => lt_irrefl s (by rwa [e] at h)
      obtain ⟨q1, q2, q3⟩ := high_all (L := r) (s := s) (fun b hb => lt_trans h (hp.1 b hb))
      unfold low at q1; unfold mid at q2; unfold high at q3
      rw [List.filter_cons_of_pos (by simpa using this), List.filter_cons_of_neg (by simpa using lt_asymm h), List.filter_cons_of_pos (by simpa using h), ih, q1, q3]; rfl
theorem cut_parts (L : List Ent) (s : List UInt8) : cut L s = low (all L) s ++ high (all L) s := cutL_parts s (right_all L)
def first : List Ent → Int × Bool
  | [] => (0, false)
  | a :: _ => (a.2, true)
theorem find_parts : ∀ (L : List Ent) (s : List UInt8), find L s = first (mid L s)
  | [], s => rfl
  | a :: r, s => by
    have ih := find_parts r s
    unfold mid at ih ⊢
    by_cases h : a.1 = s
    · rw [find, if_pos h, List.filter_cons_of_pos (by simpa using h)]; rfl
    · rw [find, if_neg h, List.filter_cons_of_neg (by simpa using h), ih]
theorem low_high_len : ∀ (L : List Ent) (s : List UInt8), (low L s).length + (high L s).length ≤ L.length
  | [], s => by simp [low, high]
  | a :: r, s => by
    have ih := low_high_len r s
    unfold low high at ih ⊢
    by_cases h : lt a.1 s
    · rw [List.filter_cons_of_pos (by simpa using h), List.filter_cons_of_neg (by simpa using lt_asymm h)]
      simp only [List.length_cons]; omega
    · rw [List.filter_cons_of_neg (by simpa using h)]
      have h1 : (List.filter (fun a => decide (lt s a.1)) (a :: r)).length ≤ (List.filter (fun a => decide (lt s a.1)) r).length + 1 := by
        rw [List.filter_cons]; split <;> simp
      simp only [List.length_cons]; omega
end Go.Proofs.YtmbpgjncioegdaaGreatDoor.M06
/-
  Layer 6 (ents), walks: the landed code's search: the order of an entry and a name, slices.BinarySearchFunc with it: a name's place in entries that rise, and whether it is there; new memory may be laid, nothing that was there is changed.
-/
namespace Go.Proofs.YtmbpgjncioegdaaGreatDoor.W06
set_option maxRecDepth 100000
open Go Go.RowKit Go.Proofs.YtmbpgjncioegdaaGreatDoor.Strs Go.Proofs.YtmbpgjncioegdaaGreatDoor.Recs Go.Proofs.YtmbpgjncioegdaaGreatDoor.M06
open Go.Proofs.YtmbpgjncioegdaaGreatDoor.M03 (lt)
open Go.Proofs.YtmbpgjncioegdaaGreatDoor.W03 (less_bytes same_bytes ret_place)
open Go.Proofs.YtmbpgjncioegdaaGreatDoor.Kit (ret_str ret_bool ret_int mk_of mk_bytes ba_ext below_draws on)

theorem order_any (t s : ByteArray) (z : Int) (w : World) :
    Calls Tryz.prog 103 #[.agg #[.string t, .int .i64 z], .string s] w fun e w' => e = .returned (.int .i64 (Lib.compareBytes t.data.toList s.data.toList)) ∧ Below w.heap.size w w' := by
  have HC := Lib.hid (Tryz.strings_Compare t s)
  generalize Lib.compareBytes t.data.toList s.data.toList = r at *
  go_enter Tryz.func103, Tryz.ntmps103
  go_wp2_with fail
  refine (HC.out _).mono ?_
  rintro e w' ⟨rfl, rfl⟩
  go_wp2_with fail
  go_ret
  exact ⟨rfl, (Below.refl w.heap.size w).alloc (Nat.le_refl _) _⟩
/-- what the order says, in words -/
theorem cmp_neg {a b : List UInt8} (h : lt a b) : decide (Lib.compareBytes a b < 0) = true := by rw [decide_eq_true_eq]; unfold M03.lt at h; omega
theorem cmp_pos {a b : List UInt8} (h : ¬ lt a b) : decide (Lib.compareBytes a b < 0) = false := by
  rw [decide_eq_false_iff_not]; intro q
  unfold M03.lt at h
  rcases M03.cmp_three a b with e | e | e <;> omega
theorem cmp_nil (a b : List UInt8) : (Lib.compareBytes a b == 0) = decide (a = b) := by
  by_cases h : a = b
  · subst h; rw [M03.cmp_self]; simp
  · have : ¬ Lib.compareBytes a b = 0 := fun e => h (M03.cmp_zero e)
    simp [h, this]
theorem ret_found {a b : Int} {c d : Bool} (h : a = b) (h2 : c = d) : Ending.returned (.tuple #[.int .i64 a, .bool c]) = .returned (.tuple #[.int .i64 b, .bool d]) := by rw [h, h2]

set_option maxHeartbeats 2000000 in
set_option maxRecDepth 100000 in
theorem search_any (v : Value) (L : List Ent) (s : ByteArray) (w : World) (h : Ents w.heap.size w v L) (hr : right L = true) (hn : L.length ≤ 1099511627776) :
    Calls Tryz.prog 105 #[v, .string s, .func (.func 103) #[] #[]] w fun e w' => e = .returned (.tuple #[.int .i64 ((place L s.data.toList).1 : Nat), .bool (place L s.data.toList).2]) ∧ Below w.heap.size w w' := by
  obtain ⟨A, c, rfl, hA1, hA2⟩ := h.form
  have H := Lib.hid h
  have HR := Lib.hid hr
  unfold maxLen at hA2
  clear h hr
  generalize hm : L.length = n at *
  have HM := Lib.hid hm
  clear hm
  go_enter Tryz.func105, Tryz.ntmps105
  go_wp2
  go_loopg [9, 10] n (fun g s9 s10 wr => ∃ lo hi : Nat, s9 = .int .i64 lo ∧ s10 = .int .i64 hi ∧ lo ≤ hi ∧ hi ≤ n ∧ hi - lo ≤ g ∧ Below w.heap.size w wr ∧ Hid (∀ k (h : k < L.length), k < lo → lt (L[k]).1 s.data.toList) ∧ Hid (∀ k (h : k < L.length), hi ≤ k → ¬ lt (L[k]).1 s.data.toList))
  case atStart => exact ⟨0, n, rfl, rfl, Nat.zero_le _, Nat.le_refl _, by omega, Below.refl _ _, fun t _ ht => absurd ht (Nat.not_lt_zero _), fun t h1 h2 => by rw [HM.out] at h1; omega⟩
  case round =>
    obtain ⟨lo, hi, rfl, rfl, hlh, hin, hg, hb, h1, h2⟩ := hrel
    by_cases hlt : lo < hi
    · obtain ⟨b, o, hl1, t, rfl, hbl, ht, hc0, hc1⟩ := Ents.at_ (H.out.below hb) (k := (lo + hi) / 2) (by omega)
      have HT := Lib.hid ht
      have HC := Lib.hid (order_any t s (L[(lo + hi) / 2]).2 wr)
      have HB := Lib.hid hb
      clear ht hb
      by_cases hl : lt t.data.toList s.data.toList
      · have HL : Hid (∀ k (h : k < L.length), k < (lo + hi) / 2 + 1 → lt (L[k]).1 s.data.toList) := fun k hk hk2 => rises_low HR.out (show k ≤ (lo + hi) / 2 by omega) hl1 hk (by rw [← HT.out]; exact hl)
        have t1 := cmp_neg hl
        clear hl
        generalize Lib.compareBytes t.data.toList s.data.toList = r at *
        go_wp2_with fail
        refine (HC.out).mono ?_
        rintro e w' ⟨rfl, hb2⟩
        have B2 := Lib.hid (HB.out.trans (hb2.mono HB.out.size))
        clear hb2
        go_wp2_with fail
        go_roundg (hi - ((lo + hi) / 2 + 1))
        case measure => omega
        case rel => exact ⟨(lo + hi) / 2 + 1, hi, by rw [show ((lo : Int) + (hi : Int)) / 2 + 1 = (((lo + hi) / 2 + 1 : Nat) : Int) by omega], rfl, by omega, hin, Nat.le_refl _, B2.out, HL, h2⟩
      · have HL : Hid (∀ k (h : k < L.length), (lo + hi) / 2 ≤ k → ¬ lt (L[k]).1 s.data.toList) := fun k hk hk2 => rises_high HR.out hk2 hk hl1 (by rw [← HT.out]; exact hl)
        have t1 := cmp_pos hl
        clear hl
        generalize Lib.compareBytes t.data.toList s.data.toList = r at *
        go_wp2_with fail
        refine (HC.out).mono ?_
        rintro e w' ⟨rfl, hb2⟩
        have B2 := Lib.hid (HB.out.trans (hb2.mono HB.out.size))
        clear hb2
        go_wp2_with fail
        go_roundg ((lo + hi) / 2 - lo)
        case measure => omega
        case rel => exact ⟨lo, (lo + hi) / 2, rfl, by rw [show ((lo : Int) + (hi : Int)) / 2 = (((lo + hi) / 2 : Nat) : Int) by omega], by omega, by omega, Nat.le_refl _, B2.out, h1, HL⟩
    · obtain rfl : hi = lo := by omega
      have HF := Lib.hid (place_at L s.data.toList hi (by rw [HM.out]; exact hin) h1.out (fun hk => h2.out hi hk (Nat.le_refl _)))
      by_cases hnn : hi < n
      · obtain ⟨b, o, hl1, t, rfl, hbl, ht, hc0, hc1⟩ := Ents.at_ (H.out.below hb) hnn
        have HT := Lib.hid ht
        have HC := Lib.hid (order_any t s (L[hi]).2 wr)
        have HB := Lib.hid hb
        have HQ := Lib.hid (cmp_nil t.data.toList s.data.toList)
        have HE : Hid ((place L s.data.toList).2 = (Lib.compareBytes t.data.toList s.data.toList == 0)) := by
          show _ = _
          rw [HF.out, HQ.out, HT.out]; simp only [dif_pos hl1]
        clear ht hb HQ
        generalize Lib.compareBytes t.data.toList s.data.toList = r at *
        go_wp2_with fail
        refine (HC.out).mono ?_
        rintro e w' ⟨rfl, hb2⟩
        have B2 := Lib.hid (HB.out.trans (hb2.mono HB.out.size))
        clear hb2
        go_wp2_with fail
        go_ret2
        exact ⟨ret_found (by rw [HF.out]) HE.out.symm, B2.out⟩
      · have HE : Hid ((place L s.data.toList).2 = false) := by
          show _ = _
          rw [HF.out]; simp only; rw [dif_neg (by rw [HM.out]; exact hnn)]
        go_wp2_with fail
        go_ret2
        exact ⟨ret_found (by rw [HF.out]) HE.out.symm, hb⟩
end Go.Proofs.YtmbpgjncioegdaaGreatDoor.W06
/-
  Layer 6 (ents), walks: the landed code's Right, usable and around: whether names rise; the entries, or none; those ahead of a name, the one that has it, those behind; new memory may be laid, nothing that was there is changed.
-/
namespace Go.Proofs.YtmbpgjncioegdaaGreatDoor.W06
set_option maxRecDepth 100000
open Go Go.RowKit Go.Proofs.YtmbpgjncioegdaaGreatDoor.Strs Go.Proofs.YtmbpgjncioegdaaGreatDoor.Recs Go.Proofs.YtmbpgjncioegdaaGreatDoor.M06
open Go.Proofs.YtmbpgjncioegdaaGreatDoor.M03 (lt)
open Go.Proofs.YtmbpgjncioegdaaGreatDoor.W03 (less_bytes same_bytes ret_place)
open Go.Proofs.YtmbpgjncioegdaaGreatDoor.Kit (ret_str ret_bool ret_int mk_of mk_bytes ba_ext below_draws on)

set_option maxHeartbeats 400000 in
theorem codeRight_any (v : Value) (L : List Ent) (B : Nat) (w : World) (h : Ents B w v L) (hn : L.length ≤ 1099511627776) :
    Calls Tryz.prog 106 #[v] w fun e w' => e = .returned (.bool (right L)) ∧ ∃ n, w' = w.drewN n := by
  obtain ⟨A, c, rfl, hA1, hA2⟩ := h.form
  have H := Lib.hid h
  unfold maxLen at hA2
  clear h
  generalize hm : L.length = n at *
  have HM := Lib.hid hm
  clear hm
  go_enter Tryz.func106, Tryz.ntmps106
  go_wp2
  go_loopw [3] (fun i wr => ∃ k : Nat, k ≤ n ∧ i = .int .i64 (k + 1) ∧ Hid (right L = right (L.drop k)) ∧ ∃ q, wr = w.drewN q) (fun i _ => n + 1 - (intOf i).toNat)
  case atStart => exact ⟨0, Nat.zero_le _, rfl, rfl, 0, rfl⟩
  case round =>
    obtain ⟨k, hk, rfl, hr, q, rfl⟩ := hrel
    have hk1 : IntKind.i64.wrap ((k : Int) + 1 - 1) = k := by rw [IntKind.wrap_i64]; omega
    by_cases hlt : k + 1 < n
    · obtain ⟨b, o, hl1, s, rfl, hbl, hs, hc0, hc1⟩ := Ents.at_ H.out (k := k) (by omega)
      obtain ⟨b', o', hl2, t, he, hbl2, ht, hd0, hd1⟩ := Ents.at_ H.out (k := k + 1) hlt
      cases he
      have HS := Lib.hid (right_step (L := L) (k := k) hl2)
      rw [← hs, ← ht, ← hr.out] at HS
      have hlb := less_bytes t s
      have hsb := same_bytes t s
      clear hs ht
      by_cases hl : lt s.data.toList t.data.toList
      · have t1 : Op.bytesLess t.toList s.toList = false := by rw [hlb]; simpa using M03.lt_asymm hl
        have t2 : (t.toList == s.toList) = false := by rw [hsb]; simpa using fun e : t.data.toList = s.data.toList => M03.lt_irrefl _ (e ▸ hl)
        have HX : Hid (right L = right (L.drop (k + 1))) := by have := HS.out; rw [decide_eq_true hl, Bool.true_and] at this; exact this
        clear hlb hsb hl
        go_wp2_with fail
        go_quiet (fail)
        go_wp2_with fail
        go_roundw
        case rel => exact ⟨k + 1, by omega, by go_num, HX, q + nq, by first | rfl | rw [World.drewN_drewN]⟩
        case measure => simp [intOf]; omega
      · have HX : Hid (right L = false) := by have := HS.out; rw [decide_eq_false hl, Bool.false_and] at this; exact this
        by_cases hl2 : lt t.data.toList s.data.toList
        · have t1 : Op.bytesLess t.toList s.toList = true := by rw [hlb]; simpa using hl2
          clear hlb hsb hl hl2
          go_wp2_with fail
          go_quiet (fail)
          go_wp2_with fail
          go_ret
          exact ⟨ret_bool HX.out.symm, q + nq, by first | rfl | rw [World.drewN_drewN]⟩
        · have t1 : Op.bytesLess t.toList s.toList = false := by rw [hlb]; simpa using hl2
          have t2 : (t.toList == s.toList) = true := by
            rw [hsb]
            rcases M03.lt_total t.data.toList s.data.toList with e | e | e
            · exact absurd e hl2
            · simpa using e
            · exact absurd e hl
          clear hlb hsb hl hl2
          go_wp2_with fail
          go_quiet (fail)
          go_wp2_with fail
          go_ret
          exact ⟨ret_bool HX.out.symm, q + nq, by first | rfl | rw [World.drewN_drewN]⟩
    · have HX := Lib.hid (hr.out.trans (right_last (by rw [HM.out]; exact hlt)))
      go_wp2_with fail
      go_ret
      exact ⟨ret_bool HX.out.symm, q, rfl⟩
theorem usable_any (v : Value) (L : List Ent) (B : Nat) (w : World) (h : Ents B w v L) (hn : L.length ≤ 1099511627776) :
    Calls Tryz.prog 83 #[v] w fun e w' => (∃ u, e = .returned u ∧ Ents B w u (all L)) ∧ ∃ n, w' = w.drewN n := by
  have HR := Lib.hid (codeRight_any v L B w h hn)
  have H := Lib.hid h
  obtain ⟨A, c, rfl, hA1, hA2⟩ := h.form
  clear h
  cases hr : right L with
  | true =>
    have HA := Lib.hid (all_right hr)
    rw [hr] at HR
    clear hr
    go_enter Tryz.func83, Tryz.ntmps83
    go_wp2_with fail
    refine HR.out.mono ?_
    rintro e w1 ⟨rfl, q, rfl⟩
    go_wp2_with fail
    go_ret
    exact ⟨⟨_, rfl, by rw [HA.out]; exact H.out⟩, q, rfl⟩
  | false =>
    have HA : Hid (all L = []) := by show _ = _; unfold all; rw [hr]; rfl
    rw [hr] at HR
    clear hr
    go_enter Tryz.func83, Tryz.ntmps83
    go_wp2_with fail
    refine HR.out.mono ?_
    rintro e w1 ⟨rfl, q, rfl⟩
    go_wp2_with fail
    go_ret
    exact ⟨⟨_, rfl, by rw [HA.out]; exact recs_nil _ _ _ _⟩, q, rfl⟩
/-- what around hands out -/
def Parts3 (B : Nat) (w : World) (L : List Ent) (s : List UInt8) (e : Ending) (w' : World) : Prop :=
  ∃ v1 v2 v3, e = .returned (.tuple #[v1, v2, v3]) ∧ Ents B w' v1 (low L s) ∧ Ents B w' v2 (M06.mid L s) ∧ Ents B w' v3 (high L s) ∧ Below w.heap.size w w'
set_option maxHeartbeats 1000000 in
theorem around_any (v : Value) (L : List Ent) (B : Nat) (s : ByteArray) (w : World) (h : Ents B w v L) (hB : B ≤ w.heap.size) (hr : right L = true) (hn : L.length ≤ 1099511627776) :
    Calls Tryz.prog 82 #[v, .string s] w (Parts3 B w L s.data.toList) := by
  have HS := Lib.hid (search_any v L s w (h.more hB) hr hn)
  obtain ⟨p1, p2, p3⟩ := place_parts s.data.toList hr
  have P1 := Lib.hid p1
  have P2 := Lib.hid p2
  have P3 := Lib.hid p3
  have hpl := place_len L s.data.toList
  have H := Lib.hid h
  obtain ⟨A, c, rfl, hA1, hA2⟩ := h.form
  unfold maxLen at hA2
  clear h hr p1 p2 p3
  generalize place L s.data.toList = pf at *
  obtain ⟨p, f⟩ := pf
  generalize hm : L.length = n at *
  clear hm
  cases f with
  | true =>
    simp only [wide, if_true] at hpl P2 P3
    by_cases hc : c = p + 1
    · subst hc
      go_enter Tryz.func82, Tryz.ntmps82
      go_wp2_with fail
      refine HS.out.mono ?_
      rintro e w1 ⟨rfl, hb1⟩
      have B1 := Lib.hid hb1
      clear hb1
      go_wp2_with fail
      go_quiet (fail)
      go_wp2_with fail
      go_ret3
      refine ⟨_, _, _, rfl, ?_, ?_, ?_, B1.out.trans ((below_draws w1 _).mono B1.out.size)⟩
      · rw [P1.out]; exact (H.out.below (B1.out.mono hB)).take (by omega)
      · rw [P2.out]; exact (H.out.below (B1.out.mono hB)).one_last entC_len (by omega) hpl
      · rw [P3.out]; exact (H.out.below (B1.out.mono hB)).drop_last hpl
    · have hc2 : ¬ p + 1 = c := fun e => hc e.symm
      go_enter Tryz.func82, Tryz.ntmps82
      go_wp2_with fail
      refine HS.out.mono ?_
      rintro e w1 ⟨rfl, hb1⟩
      have B1 := Lib.hid hb1
      clear hb1
      go_wp2_with fail
      go_quiet (fail)
      go_wp2_with fail
      go_ret3
      refine ⟨_, _, _, rfl, ?_, ?_, ?_, B1.out.trans ((below_draws w1 _).mono B1.out.size)⟩
      · rw [P1.out]; exact (H.out.below (B1.out.mono hB)).take (by omega)
      · rw [P2.out]; exact (H.out.below (B1.out.mono hB)).one entC_len (by omega) hpl
      · rw [P3.out]; exact (H.out.below (B1.out.mono hB)).drop entC_len (by omega) hpl
  | false =>
    simp only [wide, Bool.false_eq_true, if_false, Nat.add_zero] at hpl P2 P3
    by_cases hc : c = p
    · subst hc
      go_enter Tryz.func82, Tryz.ntmps82
      go_wp2_with fail
      refine HS.out.mono ?_
      rintro e w1 ⟨rfl, hb1⟩
      have B1 := Lib.hid hb1
      clear hb1
      go_wp2_with fail
      go_quiet (fail)
      go_wp2_with fail
      go_ret3
      refine ⟨_, _, _, rfl, ?_, ?_, ?_, B1.out.trans ((below_draws w1 _).mono B1.out.size)⟩
      · rw [P1.out]; exact (H.out.below (B1.out.mono hB)).take (by omega)
      · rw [P2.out]; exact Recs.void (Nat.zero_le _)
      · rw [P3.out]; exact (H.out.below (B1.out.mono hB)).drop_last hpl
    · have hc2 : ¬ p = c := fun e => hc e.symm
      go_enter Tryz.func82, Tryz.ntmps82
      go_wp2_with fail
      refine HS.out.mono ?_
      rintro e w1 ⟨rfl, hb1⟩
      have B1 := Lib.hid hb1
      clear hb1
      go_wp2_with fail
      go_quiet (fail)
      go_wp2_with fail
      go_ret3
      refine ⟨_, _, _, rfl, ?_, ?_, ?_, B1.out.trans ((below_draws w1 _).mono B1.out.size)⟩
      · rw [P1.out]; exact (H.out.below (B1.out.mono hB)).take (by omega)
      · rw [P2.out]; exact Recs.void (c' := c - p) (by unfold maxLen; omega)
      · rw [P3.out]; exact (H.out.below (B1.out.mono hB)).drop entC_len (by omega) hpl
end Go.Proofs.YtmbpgjncioegdaaGreatDoor.W06
/-
  Walks of Go's library on slices of entries: slices.Grow of nil, slices.Concat: all the entries, one slice behind the other, in new memory; nothing that was there is changed. The conditions stand in the statements.
-/
namespace Go.Proofs.YtmbpgjncioegdaaGreatDoor.W06
set_option maxRecDepth 100000
open Go Go.RowKit Go.Proofs.YtmbpgjncioegdaaGreatDoor.Strs Go.Proofs.YtmbpgjncioegdaaGreatDoor.Recs Go.Proofs.YtmbpgjncioegdaaGreatDoor.M06
open Go.Proofs.YtmbpgjncioegdaaGreatDoor.Kit (ret_str ret_bool ret_int mk_of mk_bytes ba_ext below_draws on)

theorem entC_one (r : Ent) : ∀ c ∈ entC r, c.oneCell' = true := by intro c hc; simp [entC, strV] at hc; rcases hc with rfl | rfl <;> rfl
theorem grow_none (n : Nat) (w : World) (hn : n ≤ 4398046511104) :
    Calls Tryz.prog 107 #[.slice none 0 0, .int .i64 n] w (MakesE w []) := by
  obtain ⟨i0, hi, hz0, hz1, hz2⟩ := info_parts ent_info
  have h1 : ¬ ((n : Int) < 0) := by omega
  rcases Nat.eq_zero_or_pos n with h0 | h0
  · subst h0
    go_enter Tryz.func107, Tryz.ntmps107
    go_wp2_with fail
    go_ret
    exact ⟨_, rfl, own_ents_nil _ _, Below.refl _ _⟩
  · have HR := Lib.hid (fun ty => Lib.run_append_nil_zeros (P := Tryz.prog) w 73 3 ty 103 i0 (.agg #[.string ⟨#[]⟩, .int .i64 0]) .i64 .i64 Tryz.underlying73 Tryz.underlying3 hi hz0 n h0 (by rw [hz1]; omega) (by omega) (by rw [hz2]; omega))
    have hG1 := grownCap_ge w n 0 103
    have hG2 := grownCap_le_maxLen w n 0 103 (by unfold maxLen; omega)
    generalize grownCap w n 0 103 = G at *
    have HZ : Hid ((Builtin.zeroCells (Value.agg #[.string ⟨#[]⟩, .int .i64 0]).cells n ++ Builtin.zeroCells (Value.agg #[.string ⟨#[]⟩, .int .i64 0]).cells (G - n)).size = G * 2) := by
      show _ = _
      simp [Builtin.zeroCells]
      rw [show (Value.agg #[.string ⟨#[]⟩, .int .i64 0]).cells.size = 2 from rfl]
      omega
    unfold maxLen at hG2
    generalize Builtin.zeroCells (Value.agg #[.string ⟨#[]⟩, .int .i64 0]).cells n ++ Builtin.zeroCells (Value.agg #[.string ⟨#[]⟩, .int .i64 0]).cells (G - n) = Z at *
    go_enter Tryz.func107, Tryz.ntmps107
    go_wp2_with (at_builtin; refine Lib.wpList_append_run _ rfl _ _ _ _ rfl _ _ rfl rfl _ _ (HR.out _) ?_)
    go_ret
    refine ⟨_, rfl, ⟨rfl, Or.inr ⟨w.heap.size, G, Z, rfl, Nat.le_refl _, ?_, Nat.zero_le _, ?_, HZ.out, by simp⟩⟩, ?_⟩
    · show (w.heap.push _)[w.heap.size]? = _
      simp
    · unfold maxLen; omega
    · exact ((Below.refl w.heap.size w).alloc (Nat.le_refl _) _).drew
/-- a row of slices of entries -/
def Lists (B : Nat) (w : World) (b o : Nat) (Ls : List (List Ent)) : Prop := ∀ j (h : j < Ls.length), ∃ A c, w.cell? ⟨b, o + j, none⟩ = some (.slice A (Ls[j]).length c) ∧ Ents B w (.slice A (Ls[j]).length c) Ls[j]
theorem Lists.below {B : Nat} {w w' : World} {b o : Nat} {Ls : List (List Ent)} (h : Lists B w b o Ls) (hb : b < B) (hw : Below B w w') : Lists B w' b o Ls := fun j hj => by
  obtain ⟨A, c, h1, h2⟩ := h j hj
  exact ⟨A, c, by rw [hw.cell hb]; exact h1, h2.below hw⟩
theorem flat_next {Ls : List (List Ent)} {k : Nat} (hk : k < Ls.length) : (Ls.take (k + 1)).flatten = (Ls.take k).flatten ++ Ls[k] := by
  rw [List.take_succ_eq_append_getElem hk, List.flatten_append]; simp
theorem flat_all {Ls : List (List Ent)} {k : Nat} (hk : ¬ k < Ls.length) : (Ls.take k).flatten = Ls.flatten := by rw [List.take_of_length_le (by omega)]
theorem flat_upto (Ls : List (List Ent)) (k : Nat) : (Ls.take k).flatten.length ≤ Ls.flatten.length := by
  have : Ls.flatten = (Ls.take k).flatten ++ (Ls.drop k).flatten := by rw [← List.flatten_append, List.take_append_drop]
  rw [this, List.length_append]; omega
theorem own_ents_all {w : World} {base : Nat} {v : Value} {out L : List Ent} (h : w.ownsRow base 103 2 v (out.length + L.length) (out.flatMap entC ++ L.flatMap entC)) : OwnEnts w base v (out ++ L) := by
  unfold OwnEnts
  rw [List.length_append, List.flatMap_append]
  exact h
set_option maxHeartbeats 1000000 in
theorem concat_any (b o m cap B : Nat) (Ls : List (List Ent)) (w : World) (hm : Ls.length = m) (hL : Lists B w b o Ls) (hb : b < B) (hB : B ≤ w.heap.size) (hm2 : m ≤ 1099511627776) (ht : Ls.flatten.length ≤ 4398046511104) :
    Calls Tryz.prog 84 #[.slice (some ⟨b, o, none⟩) m cap] w (MakesE w Ls.flatten) := by
  obtain ⟨i0, hi, hz0, hz1, hz2⟩ := info_parts ent_info
  have H := Lib.hid hL
  have HM := Lib.hid hm
  clear hL hm
  have HI := Lib.hid hi
  go_enter Tryz.func84, Tryz.ntmps84
  go_wp2_with fail
  go_loopw [3, 11] (fun u i wr => ∃ k z : Nat, k ≤ m ∧ i = .int .i64 k ∧ u = .int .i64 z ∧ Hid (z = (Ls.take k).flatten.length) ∧ wr = w) (fun _ i _ => m - (intOf i).toNat)
  case atStart => exact ⟨0, 0, Nat.zero_le _, rfl, rfl, rfl, rfl⟩
  case round =>
    obtain ⟨k, z, hk, rfl, rfl, hz, hwr⟩ := hrel
    have hwr := hwr.symm
    subst hwr
    by_cases hlt : k < m
    · have hk2 : k < Ls.length := by rw [HM.out]; exact hlt
      obtain ⟨A, c, hc, hE⟩ := H.out k hk2
      have hup := flat_upto Ls (k + 1)
      rw [flat_next hk2, List.length_append, ← hz.out] at hup
      have HZ : Hid (z + (Ls[k]).length = (Ls.take (k + 1)).flatten.length) := by show _ = _; rw [flat_next hk2, List.length_append, ← hz.out]
      clear hE
      generalize (Ls[k]).length = n at *
      have h0 : ¬ ((z : Int) + (n : Int) < 0) := by omega
      go_wp2_with fail
      go_roundw
      case rel => exact ⟨k + 1, z + n, by omega, by go_num, by go_num, HZ, by trivial⟩
      case measure => simp [intOf]; omega
    · have HZ : Hid (z = Ls.flatten.length) := hz.out.trans (by rw [flat_all (by rw [HM.out]; exact hlt)])
      have hzz : z ≤ 4398046511104 := by rw [HZ.out]; exact ht
      go_wp2_with fail
      refine (grow_none z w hzz).mono ?_
      rintro e w1 ⟨u, rfl, hu, hb1⟩
      have U := Lib.hid hu
      have B1 := Lib.hid hb1
      clear hu hb1
      clear hzz HZ hz
      go_wp2_with fail
      go_loopw [6, 27] (fun u i wr => ∃ k : Nat, k ≤ m ∧ i = .int .i64 k ∧ Hid (OwnEnts wr w.heap.size u (Ls.take k).flatten) ∧ Below w.heap.size w wr) (fun _ i _ => m - (intOf i).toNat)
      case atStart => exact ⟨0, Nat.zero_le _, rfl, U.out, B1.out⟩
      case round =>
        clear U B1
        obtain ⟨k, hk, rfl, hown, hb1⟩ := hrel
        have hbs := hb1.size
        by_cases hlt : k < m
        · have hk2 : k < Ls.length := by rw [HM.out]; exact hlt
          obtain ⟨A, c, hc, hE⟩ := (H.out.below hb (hb1.mono hB)) k hk2
          have hup := flat_upto Ls (k + 1)
          have HN := Lib.hid (flat_next hk2)
          rw [HN.out, List.length_append] at hup
          have HE := Lib.hid hE
          have HT := Lib.hid ht
          clear hE ht
          generalize (Ls.take k).flatten = out at *
          generalize Ls[k] = L at *
          have a1 : out.length + L.length ≤ maxLen := by have := HT.out; unfold maxLen; omega
          have a2 : (out.length + L.length) * 24 ≤ 140737488355328 := by have := HT.out; omega
          go_wp2_with (at_builtin; refine wpList_append_recs rfl (.tmp 31) (.tmp 32) 73 rfl w.heap.size 103 i0 (.agg #[.string ⟨#[]⟩, .int .i64 0]) 2 24 Tryz.underlying73 HI.out hz0 hz1 hz2 rfl (by decide) _ _ _ rfl hown.out _ L B rfl HE.out entC_len entC_one a1 a2 hbs ?_; intro v1 w2 hown1 hg2 _)
          have O2 := Lib.hid (own_ents_all hown1)
          have B2 := Lib.hid (hb1.grown hg2 hbs (fun k hk => (hown.out.lt k hk).1))
          clear hown1 hg2 a1 a2
          rw [← HN.out] at O2
          go_wp2
          go_roundw
          case rel => exact ⟨k + 1, by omega, by go_num, O2, B2.out⟩
          case measure => simp [intOf]; omega
        · have HX := Lib.hid (flat_all (Ls := Ls) (k := k) (by rw [HM.out]; exact hlt))
          rw [HX.out] at hown
          go_wp2_with fail
          go_ret
          exact ⟨_, rfl, hown.out, hb1⟩
end Go.Proofs.YtmbpgjncioegdaaGreatDoor.W06
