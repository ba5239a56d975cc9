/-
  Texts joined, in build order, each with its own comment and its own conditions: W12Math, W12More, W11Rows, W11Ref, W11Less, RecFull, W11Sort, RangeG, W12Collect, W12Below, W12Ref, W12RefLay, W12Rows, W12Paths, W11Right, W11Word, W12Put, W12Make.
-/
import Derived.Test.YtmbpgjncioegdaaGreatDoorJ06
import Derived.Test.YtmbpgjncioegdaaGreatDoorJ07
import Derived.Test.YtmbpgjncioegdaaGreatDoorJ09
import Derived.Test.YtmbpgjncioegdaaGreatDoorJ12
import Derived.Test.YtmbpgjncioegdaaGreatDoorJ02
import Derived.Deep.RegionHeld3
import Derived.RangeFuncBox
import Derived.Shelf.Abstract
import Derived.Shelf.RegionOpen
import Derived.WalkKit
import Derived.OwnWalkIn
import Derived.TacticsInMore
import Derived.LoopNIn
import Derived.LoopIn
import Derived.Maps.AppendAt
import Derived.Deep.Onto
import Derived.Test.YtmbpgjncioegdaaGreatDoorJ15
import Derived.Laws.Concat
import Derived.Test.YtmbpgjncioegdaaGreatDoorJ23
import Derived.Test.YtmbpgjncioegdaaGreatDoorJ24
import Derived.Test.YtmbpgjncioegdaaGreatDoorJ11
import Derived.Test.YtmbpgjncioegdaaGreatDoorJ13
import Derived.Laws.Runes
import Derived.WalkMore
import Derived.Lib.Small
import Derived.Lib.IndexAny
import Derived.Test.YtmbpgjncioegdaaGreatDoorJ16
/-
  Plain mathematics for layer 12 (dump): rows; an order of paths part by part; rows one by one in their places; what stands below a node, told from the node down and told node by node, is the same. Lists alone. No condition but those that each theorem bears.
-/
namespace Go.Proofs.YtmbpgjncioegdaaGreatDoor.M12
open Go.Proofs.YtmbpgjncioegdaaGreatDoor.M07 hiding Bytes
open Go.Proofs.YtmbpgjncioegdaaGreatDoor.M04
open Go.Proofs.YtmbpgjncioegdaaGreatDoor.M08
open Go.Proofs.YtmbpgjncioegdaaGreatDoor.M03 (check lt lt_trans lt_asymm lt_total)

structure Rw where
  path : Bytes
  kind : Int
  data : Bytes
deriving DecidableEq

/-! an order of lists of names -/
def lessP : List Bytes → List Bytes → Bool
  | [], [] => false
  | [], _ :: _ => true
  | _ :: _, [] => false
  | a :: r, b :: s => if a = b then lessP r s else decide (lt a b)
def less (p q : Bytes) : Bool := lessP (parts p) (parts q)
theorem lt_irrefl (a : Bytes) : ¬ lt a a := fun h => lt_asymm h h
theorem lessP_self : ∀ a : List Bytes, lessP a a = false
  | [] => rfl
  | a :: r => by rw [lessP, if_pos rfl]; exact lessP_self r
theorem lessP_trans : ∀ {a b c : List Bytes}, lessP a b = true → lessP b c = true → lessP a c = true
  | [], [], _, h, _ => by cases h
  | [], _ :: _, [], _, h => by cases h
  | [], _ :: _, _ :: _, _, _ => rfl
  | _ :: _, [], _, h, _ => by cases h
  | _ :: _, _ :: _, [], _, h => by cases h
  | a :: r, b :: s, c :: u, h, k => by
    rw [lessP] at h k ⊢
    by_cases e : a = b
    · subst e
      rw [if_pos rfl] at h
      by_cases e2 : a = c
      · rw [if_pos e2] at k ⊢; exact lessP_trans h k
      · rw [if_neg e2] at k ⊢; exact k
    · rw [if_neg e] at h
      have h1 : lt a b := by simpa using h
      by_cases e2 : b = c
      · subst e2; rw [if_neg e]; exact h
      · rw [if_neg e2] at k
        have h2 : lt b c := by simpa using k
        have h3 := lt_trans h1 h2
        rw [if_neg (fun e3 => by subst e3; exact lt_irrefl _ h3)]
        simpa using h3
theorem lessP_total : ∀ {a b : List Bytes}, a ≠ b → lessP a b = false → lessP b a = true
  | [], [], h, _ => absurd rfl h
  | [], _ :: _, _, h => by cases h
  | _ :: _, [], _, _ => rfl
  | a :: r, b :: s, h, k => by
    rw [lessP] at k ⊢
    by_cases e : a = b
    · subst e
      rw [if_pos rfl] at k
      rw [if_pos rfl]
      exact lessP_total (fun e => h (by rw [e])) k
    · rw [if_neg e] at k
      rw [if_neg (fun e2 => e e2.symm)]
      rcases lt_total a b with h1 | h1 | h1
      · exact absurd h1 (by simpa using k)
      · exact absurd h1 e
      · simpa using h1
theorem lessP_head {P : List Bytes} {a b : Bytes} {s u : List Bytes} (h : lt a b) : lessP (P ++ a :: s) (P ++ b :: u) = true := by
  induction P with
  | nil =>
    show lessP (a :: s) (b :: u) = true
    rw [lessP, if_neg (fun e => by subst e; exact lt_irrefl _ h)]; simpa using h
  | cons q P ih => show (if q = q then _ else _) = true; rw [if_pos rfl]; exact ih
theorem lessP_more {P : List Bytes} {s : List Bytes} (h : s ≠ []) : lessP P (P ++ s) = true := by
  induction P with
  | nil =>
    cases s with
    | nil => exact absurd rfl h
    | cons a s => rfl
  | cons q P ih => show (if q = q then _ else _) = true; rw [if_pos rfl]; exact ih

/-! lists that rise -/
theorem rise_ext {α : Type} {R : α → α → Prop} (irr : ∀ a, ¬ R a a) (tr : ∀ {a b c}, R a b → R b c → R a c) : ∀ {l m : List α}, l.Pairwise R → m.Pairwise R → (∀ x, x ∈ l ↔ x ∈ m) → l = m
  | [], [], _, _, _ => rfl
  | [], b :: m, _, _, h => absurd ((h b).2 List.mem_cons_self) (by simp)
  | a :: l, [], _, _, h => absurd ((h a).1 List.mem_cons_self) (by simp)
  | a :: l, b :: m, hl, hm, h => by
    rw [List.pairwise_cons] at hl hm
    have e : a = b := by
      rcases List.mem_cons.1 ((h a).1 List.mem_cons_self) with e | e
      · exact e
      · rcases List.mem_cons.1 ((h b).2 List.mem_cons_self) with e2 | e2
        · exact e2.symm
        · exact absurd (tr (hl.1 b e2) (hm.1 a e)) (irr a)
    subst e
    rw [rise_ext irr tr hl.2 hm.2 (fun x => by
      constructor
      · intro hx
        rcases List.mem_cons.1 ((h x).1 (List.mem_cons_of_mem _ hx)) with e | e
        · subst e; exact absurd (hl.1 x hx) (irr x)
        · exact e
      · intro hx
        rcases List.mem_cons.1 ((h x).2 (List.mem_cons_of_mem _ hx)) with e | e
        · subst e; exact absurd (hm.1 x hx) (irr x)
        · exact e)]
def ahead (a b : Rw) : Prop := less a.path b.path = true
theorem ahead_irr (a : Rw) : ¬ ahead a a := by unfold ahead less; rw [lessP_self]; simp
theorem ahead_trans {a b c : Rw} (h : ahead a b) (k : ahead b c) : ahead a c := lessP_trans h k

/-! rows one by one in their places -/
/-- where a row goes, the first k being looked at from behind -/
def seat (out : List Rw) (x : Rw) : Nat → Nat
  | 0 => 0
  | k + 1 => match out[k]? with
    | some y => if less x.path y.path = true then seat out x k else k + 1
    | none => k + 1
def ins (out : List Rw) (x : Rw) : List Rw := out.take (seat out x out.length) ++ x :: out.drop (seat out x out.length)
def sortR (l : List Rw) : List Rw := l.foldl ins []
theorem seat_go {out : List Rw} {x : Rw} {k : Nat} (hk : k < out.length) (h : less x.path (out[k]).path = true) : seat out x (k + 1) = seat out x k := by
  rw [seat, List.getElem?_eq_getElem hk]; simp only; rw [if_pos h]
theorem seat_stop {out : List Rw} {x : Rw} {k : Nat} (hk : k < out.length) (h : less x.path (out[k]).path = false) : seat out x (k + 1) = k + 1 := by
  rw [seat, List.getElem?_eq_getElem hk]; simp only; rw [if_neg (by rw [h]; simp)]
theorem seat_spec (out : List Rw) (x : Rw) : ∀ k, k ≤ out.length → seat out x k ≤ k ∧ (∀ j (hj : j < out.length), seat out x k ≤ j → j < k → less x.path (out[j]).path = true) ∧ (∀ j (hj : j < out.length), j + 1 = seat out x k → less x.path (out[j]).path = false)
  | 0, _ => ⟨Nat.le_refl _, fun j _ _ h => absurd h (by omega), fun j _ h => by rw [seat] at h; omega⟩
  | k + 1, hk => by
    have hk' : k < out.length := by omega
    cases h : less x.path (out[k]).path with
    | true =>
      rw [seat_go hk' h]
      obtain ⟨h1, h2, h3⟩ := seat_spec out x k (by omega)
      refine ⟨by omega, fun j hj hs hjk => ?_, h3⟩
      rcases Nat.lt_or_ge j k with hlt | hge
      · exact h2 j hj hs hlt
      · have : j = k := by omega
        subst this; exact h
    | false =>
      rw [seat_stop hk' h]
      refine ⟨Nat.le_refl _, fun j _ _ _ => by omega, fun j hj e => ?_⟩
      have : j = k := by omega
      subst this; exact h
theorem seat_le (out : List Rw) (x : Rw) : seat out x out.length ≤ out.length := (seat_spec out x _ (Nat.le_refl _)).1
theorem mem_ins {out : List Rw} {x y : Rw} : y ∈ ins out x ↔ y = x ∨ y ∈ out := by
  unfold ins
  rw [List.mem_append, List.mem_cons]
  conv => rhs; rw [← List.take_append_drop (seat out x out.length) out, List.mem_append]
  constructor
  · rintro (h | h | h)
    · exact Or.inr (Or.inl h)
    · exact Or.inl h
    · exact Or.inr (Or.inr h)
  · rintro (h | h | h)
    · exact Or.inr (Or.inl h)
    · exact Or.inl h
    · exact Or.inr (Or.inr h)
theorem ins_len (out : List Rw) (x : Rw) : (ins out x).length = out.length + 1 := by
  unfold ins
  have := seat_le out x
  simp only [List.length_append, List.length_take, List.length_cons, List.length_drop]; omega
theorem ins_rise {out : List Rw} {x : Rw} (h : out.Pairwise ahead) (hd : ∀ y ∈ out, parts y.path ≠ parts x.path) : (ins out x).Pairwise ahead := by
  unfold ins
  obtain ⟨h1, h2, h3⟩ := seat_spec out x out.length (Nat.le_refl _)
  generalize seat out x out.length = s at *
  have hbe : ∀ y ∈ out.drop s, ahead x y := fun y hy => by
    obtain ⟨j, hj, rfl⟩ := List.mem_iff_getElem.1 hy
    rw [List.length_drop] at hj
    rw [List.getElem_drop]
    exact h2 (s + j) (by omega) (by omega) (by omega)
  have hfr : ∀ y ∈ out.take s, ahead y x := fun y hy => by
    obtain ⟨j, hj, rfl⟩ := List.mem_iff_getElem.1 hy
    rw [List.length_take] at hj
    rw [List.getElem_take]
    have hl := h3 (s - 1) (by omega) (by omega)
    have hlast : ahead (out[s - 1]'(by omega)) x := lessP_total (fun e => hd _ (List.getElem_mem _) e.symm) hl
    rcases Nat.lt_or_ge j (s - 1) with hlt | hge
    · exact ahead_trans ((List.pairwise_iff_getElem.1 h) j (s - 1) (by omega) (by omega) hlt) hlast
    · have : j = s - 1 := by omega
      subst this; exact hlast
  have hw := h
  rw [← List.take_append_drop s out, List.pairwise_append] at hw
  rw [List.pairwise_append, List.pairwise_cons]
  refine ⟨hw.1, ⟨hbe, hw.2.1⟩, fun a ha b hb => ?_⟩
  rcases List.mem_cons.1 hb with e | e
  · subst e; exact hfr a ha
  · exact hw.2.2 a ha b e
theorem fold_rise : ∀ (l out : List Rw), out.Pairwise ahead → l.Pairwise (fun a b => parts a.path ≠ parts b.path) → (∀ a ∈ out, ∀ b ∈ l, parts a.path ≠ parts b.path) → (l.foldl ins out).Pairwise ahead
  | [], _, h, _, _ => h
  | x :: l, out, h, hp, hd => by
    rw [List.pairwise_cons] at hp
    refine fold_rise l (ins out x) (ins_rise h (fun y hy => hd y hy x List.mem_cons_self)) hp.2 (fun a ha b hb => ?_)
    rcases mem_ins.1 ha with e | e
    · subst e; exact hp.1 b hb
    · exact hd a e b (List.mem_cons_of_mem _ hb)
theorem mem_foldR : ∀ (l out : List Rw) (x : Rw), x ∈ l.foldl ins out ↔ x ∈ out ∨ x ∈ l
  | [], out, x => by simp
  | y :: l, out, x => by
    rw [List.foldl_cons, mem_foldR l, mem_ins, List.mem_cons]
    constructor
    · rintro ((h | h) | h)
      · exact Or.inr (Or.inl h)
      · exact Or.inl h
      · exact Or.inr (Or.inr h)
    · rintro (h | h | h)
      · exact Or.inl (Or.inr h)
      · exact Or.inl (Or.inl h)
      · exact Or.inr h
theorem fold_lenR : ∀ (l out : List Rw), (l.foldl ins out).length = out.length + l.length
  | [], out => by simp
  | x :: l, out => by rw [List.foldl_cons, fold_lenR l, ins_len, List.length_cons]; omega
theorem sort_rise {l : List Rw} (h : l.Pairwise (fun a b => parts a.path ≠ parts b.path)) : (sortR l).Pairwise ahead := fold_rise l [] List.Pairwise.nil h (fun a ha => by simp at ha)
theorem mem_sort {l : List Rw} {x : Rw} : x ∈ sortR l ↔ x ∈ l := by unfold sortR; rw [mem_foldR]; simp

/-! what stands below a node -/
/-- does one come from n upwards to d, ahead of Root or there? -/
def Under (t : Tr) (n d : Int) : Prop := ∃ j, upN t.L (j + 1) n = d ∧ ∀ i, i ≤ j → upN t.L i n ≠ 1
open Classical in
noncomputable def isUnd (t : Tr) (n d : Int) : Bool := decide (Under t n d)
/-- a node's row -/
noncomputable def nodeRow (t : Tr) (a : Nd) : Rw := ⟨text (names t a.num), a.kind, a.data⟩
/-- told node by node -/
noncomputable def nodesBelow (t : Tr) (d : Int) : List Nd := t.L.filter (fun a => decide (a.num ≠ 1) && isUnd t a.num d)
noncomputable def rowsBelow (t : Tr) (d : Int) : List Rw := sortR ((nodesBelow t d).map (nodeRow t))
/-- told from the node down: the path of the node is p -/
def down (t : Tr) : Nat → Int → Bytes → List Rw
  | 0, _, _ => []
  | k + 1, d, p => (listDir t.L d).flatMap (fun e => ⟨p ++ 47 :: e.1, (nodeAt t.L e.2).kind, (nodeAt t.L e.2).data⟩ :: down t k e.2 (p ++ 47 :: e.1))
theorem names_inj {t : Tr} (h : Right t) (hN : Named t) {n m : Int} (hn : (nodeAt t.L n).kind ≠ 0) (hm : (nodeAt t.L m).kind ≠ 0) (e : names t n = names t m) : n = m := by
  have h1 := go_to_names h hN hn
  have h2 := go_to_names h hN hm
  rw [e, h2] at h1
  exact (congrArg Prod.fst h1).symm
/-- a node in a directory's list -/
structure Kid (t : Tr) (d : Int) (e : M06.Ent) (a : Nd) : Prop where
  mem : a ∈ t.L
  up : a.up = d
  not1 : a.num ≠ 1
  name : e.1 = a.name
  num : e.2 = a.num
  at_ : nodeAt t.L a.num = a
  kind : (nodeAt t.L a.num).kind ≠ 0
theorem kid_of {t : Tr} (h : Right t) {d : Int} {e : M06.Ent} (he : e ∈ listDir t.L d) : ∃ a, Kid t d e a := by
  obtain ⟨a, h1, h2, h3, rfl⟩ := (mem_list h).1 he
  exact ⟨a, h1, h2, h3, rfl, rfl, h.at_ h1, by rw [h.at_ h1]; exact h.kind a h1⟩
theorem Kid.names_ {t : Tr} (h : Right t) {d : Int} {e : M06.Ent} {a : Nd} (k : Kid t d e a) : names t a.num = names t d ++ [a.name] := by
  rw [names_next h k.kind k.not1, k.at_, k.up]
theorem Kid.flat_ {t : Tr} (h : Right t) {d : Int} {e : M06.Ent} {a : Nd} (k : Kid t d e a) : flatN (names t a.num) = flatN (names t d) ++ 47 :: a.name := by
  rw [flatN_next h k.kind k.not1, k.at_, k.up]
theorem Kid.text_ {t : Tr} (h : Right t) {d : Int} {e : M06.Ent} {a : Nd} (k : Kid t d e a) : text (names t a.num) = flatN (names t d) ++ 47 :: a.name := by
  rw [← k.flat_ h]
  exact text_flatN (by rw [k.flat_ h]; simp)
theorem Kid.height_ {t : Tr} (h : Right t) {d : Int} {e : M06.Ent} {a : Nd} (k : Kid t d e a) : height t.L a.num = height t.L d + 1 := by
  rw [height_next (h.reach k.kind) k.not1]
  have : upOf t.L a.num = d := by unfold upOf; rw [k.at_, k.up]
  rw [this]
/-- whoever is told of stands below, by a longer path -/
theorem down_sound {t : Tr} (h : Right t) : ∀ (k : Nat) (d : Int) (r : Rw), r ∈ down t k d (flatN (names t d)) → ∃ a ∈ t.L, a.num ≠ 1 ∧ Under t a.num d ∧ r = nodeRow t a ∧ ∃ s, s ≠ [] ∧ names t a.num = names t d ++ s
  | 0, _, _, hr => by simp [down] at hr
  | k + 1, d, r, hr => by
    rw [down, List.mem_flatMap] at hr
    obtain ⟨e, he, hr⟩ := hr
    obtain ⟨a, ha⟩ := kid_of h he
    have hu0 : upN t.L 1 a.num = d := by show upOf t.L a.num = d; unfold upOf; rw [ha.at_, ha.up]
    rcases List.mem_cons.1 hr with hr | hr
    · refine ⟨a, ha.mem, ha.not1, ⟨0, hu0, fun i hi => by have : i = 0 := by omega
                                                          subst this; exact ha.not1⟩, ?_, [a.name], by simp, ha.names_ h⟩
      rw [hr, ha.name, ha.num, ha.at_]
      unfold nodeRow
      rw [ha.text_ h]
    · rw [ha.name, ha.num, ← ha.flat_ h] at hr
      obtain ⟨b, hb, hb1, ⟨j, hj, hj2⟩, hb3, s, hs, hb4⟩ := down_sound h k a.num r hr
      refine ⟨b, hb, hb1, ⟨j + 1, ?_, fun i hi => ?_⟩, hb3, a.name :: s, by simp, ?_⟩
      · have up_more : ∀ (m : Nat) (n : Int), upN t.L (m + 1) n = upOf t.L (upN t.L m n) := by
          intro m
          induction m with
          | zero => intro n; rfl
          | succ m ih => intro n; show upN t.L (m + 1) (upOf t.L n) = _; rw [ih]; rfl
        rw [up_more, hj]; exact hu0
      · rcases Nat.lt_or_ge j i with hlt | hge
        · have : i = j + 1 := by omega
          subst this; rw [hj]; exact ha.not1
        · exact hj2 i hge
      · rw [hb4, ha.names_ h, List.append_assoc]; rfl
/-- and whoever stands below is told of -/
theorem up_last {t : Tr} : ∀ (m : Nat) (n : Int), upN t.L (m + 1) n = upOf t.L (upN t.L m n)
  | 0, _ => rfl
  | m + 1, n => by show upN t.L (m + 1) (upOf t.L n) = _; rw [up_last m]; rfl
theorem down_whole {t : Tr} (h : Right t) {a : Nd} (ha : a ∈ t.L) : ∀ (j k : Nat) (d : Int), j < k → upN t.L (j + 1) a.num = d → (∀ i, i ≤ j → upN t.L i a.num ≠ 1) → nodeRow t a ∈ down t k d (flatN (names t d))
  | _, 0, _, hk, _, _ => absurd hk (by omega)
  | 0, k + 1, d, _, hj, hn => by
    have h1 : a.num ≠ 1 := hn 0 (Nat.le_refl _)
    have hu : a.up = d := by have : upOf t.L a.num = d := hj; unfold upOf at this; rw [h.at_ ha] at this; exact this
    rw [down, List.mem_flatMap]
    have kd : Kid t d (a.name, a.num) a := ⟨ha, hu, h1, rfl, rfl, h.at_ ha, by rw [h.at_ ha]; exact h.kind a ha⟩
    refine ⟨(a.name, a.num), (mem_list h).2 ⟨a, ha, hu, h1, rfl⟩, List.mem_cons.2 (Or.inl ?_)⟩
    unfold nodeRow
    rw [kd.text_ h, h.at_ ha]
  | j + 1, k + 1, d, hk, hj, hn => by
    obtain ⟨c, hc⟩ : ∃ c, upN t.L (j + 1) a.num = c := ⟨_, rfl⟩
    have hc1 : c ≠ 1 := by rw [← hc]; exact hn (j + 1) (Nat.le_refl _)
    have hcd : upOf t.L c = d := by rw [← hc, ← up_last]; exact hj
    have ih := down_whole h ha j k c (by omega) hc (fun i hi => hn i (by omega))
    have hck : (nodeAt t.L c).kind ≠ 0 := by
      have hlow := h.low a ha
      have hk0 : (nodeAt t.L a.num).kind ≠ 0 := by rw [h.at_ ha]; exact h.kind a ha
      have hle : j + 1 ≤ height t.L a.num := by
        rcases Nat.lt_or_ge (height t.L a.num) (j + 1) with hlt | hge
        · exact absurd (height_spec hlow).1 (hn _ (by omega))
        · exact hge
      have := (climb h (j + 1) hk0 hle).2
      rw [hc] at this; exact this
    have hm := at_some hck
    have hu : (nodeAt t.L c).up = d := hcd
    have kd : Kid t d ((nodeAt t.L c).name, c) (nodeAt t.L c) := ⟨hm.1, hu, by rw [hm.2]; exact hc1, rfl, hm.2.symm, by rw [hm.2], by rw [hm.2]; exact hck⟩
    rw [down, List.mem_flatMap]
    refine ⟨((nodeAt t.L c).name, c), (mem_list h).2 ⟨_, hm.1, hu, by rw [hm.2]; exact hc1, by unfold entOf; rw [hm.2]⟩, List.mem_cons.2 (Or.inr ?_)⟩
    have := kd.flat_ h
    rw [hm.2] at this
    simp only
    rw [← this]; exact ih
/-- rows told from a node down rise -/
theorem row_parts {t : Tr} (h : Right t) (hN : Named t) {a : Nd} (ha : a ∈ t.L) : parts (nodeRow t a).path = names t a.num := names_parts h hN (by rw [h.at_ ha]; exact h.kind a ha)
theorem down_rise {t : Tr} (h : Right t) (hN : Named t) : ∀ (k : Nat) (d : Int), (down t k d (flatN (names t d))).Pairwise ahead
  | 0, _ => List.Pairwise.nil
  | k + 1, d => by
    have hin : ∀ e ∈ listDir t.L d, ∀ r, r ∈ (⟨flatN (names t d) ++ 47 :: e.1, (nodeAt t.L e.2).kind, (nodeAt t.L e.2).data⟩ :: down t k e.2 (flatN (names t d) ++ 47 :: e.1) : List Rw) → ∃ s, parts r.path = names t d ++ e.1 :: s := by
      intro e he r hr
      obtain ⟨a, ha⟩ := kid_of h he
      rcases List.mem_cons.1 hr with hr | hr
      · refine ⟨[], ?_⟩
        rw [hr]
        show parts (flatN (names t d) ++ 47 :: e.1) = _
        rw [ha.name, ← ha.text_ h]
        exact (row_parts h hN ha.mem).trans (ha.names_ h)
      · rw [ha.name, ha.num, ← ha.flat_ h] at hr
        obtain ⟨b, hb, -, -, hb3, s, -, hb4⟩ := down_sound h k a.num r hr
        refine ⟨s, ?_⟩
        rw [hb3, row_parts h hN hb, hb4, ha.names_ h, ha.name, List.append_assoc]; rfl
    rw [down, List.pairwise_flatMap]
    refine ⟨fun e he => ?_, ?_⟩
    · obtain ⟨a, ha⟩ := kid_of h he
      rw [List.pairwise_cons]
      constructor
      · intro r hr
        show lessP _ _ = true
        have e1 : parts (flatN (names t d) ++ 47 :: e.1) = names t a.num := by rw [ha.name, ← ha.text_ h]; exact row_parts h hN ha.mem
        rw [ha.name, ha.num, ← ha.flat_ h] at hr
        obtain ⟨b, hb, -, -, hb3, s, hs, hb4⟩ := down_sound h k a.num r hr
        have e2 : parts r.path = names t a.num ++ s := by rw [hb3, row_parts h hN hb, hb4]
        show lessP (parts (flatN (names t d) ++ 47 :: e.1)) (parts r.path) = true
        rw [e1, e2]; exact lessP_more hs
      · rw [ha.name, ha.num, ← ha.flat_ h]; exact down_rise h hN k a.num
    · refine List.Pairwise.imp_of_mem ?_ (list_rises t.L d)
      intro e f he hf hlt r hr s hs
      obtain ⟨s1, e1⟩ := hin e he r hr
      obtain ⟨s2, e2⟩ := hin f hf s hs
      show lessP _ _ = true
      rw [e1, e2]; exact lessP_head hlt
/-- how far down it may go -/
theorem under_fuel {t : Tr} (h : Right t) {a : Nd} (ha : a ∈ t.L) {d : Int} {j : Nat} (hj : upN t.L (j + 1) a.num = d) (hn : ∀ i, i ≤ j → upN t.L i a.num ≠ 1) : height t.L d + (j + 1) ≤ t.L.length := by
  have hk0 : (nodeAt t.L a.num).kind ≠ 0 := by rw [h.at_ ha]; exact h.kind a ha
  have hle : j + 1 ≤ height t.L a.num := by
    rcases Nat.lt_or_ge (height t.L a.num) (j + 1) with hlt | hge
    · exact absurd (height_spec (h.low a ha)).1 (hn _ (by omega))
    · exact hge
  have h1 := (climb h (j + 1) hk0 hle).1
  have h2 := height_le h hk0
  rw [hj] at h1
  omega
/-- BOTH ARE THE SAME -/
theorem down_rows {t : Tr} (h : Right t) (hN : Named t) (d : Int) (k : Nat) (hk : t.L.length ≤ height t.L d + k) : down t k d (flatN (names t d)) = rowsBelow t d := by
  have hmem : ∀ a ∈ nodesBelow t d, a ∈ t.L := fun a ha => (List.mem_filter.1 ha).1
  refine rise_ext ahead_irr ahead_trans (down_rise h hN k d) (sort_rise ?_) (fun r => ?_)
  · rw [List.pairwise_map]
    refine List.Pairwise.imp_of_mem ?_ (h.rise.filter _)
    intro a b ha hb hab e
    have ha' := hmem a ha
    have hb' := hmem b hb
    rw [row_parts h hN ha', row_parts h hN hb'] at e
    have := names_inj h hN (by rw [h.at_ ha']; exact h.kind a ha') (by rw [h.at_ hb']; exact h.kind b hb') e
    omega
  · unfold rowsBelow
    rw [mem_sort, List.mem_map]
    constructor
    · intro hr
      obtain ⟨a, ha, h1, hu, e, -⟩ := down_sound h k d r hr
      refine ⟨a, List.mem_filter.2 ⟨ha, ?_⟩, e.symm⟩
      unfold isUnd
      simp only [Bool.and_eq_true, decide_eq_true_eq]
      exact ⟨h1, hu⟩
    · rintro ⟨a, ha, rfl⟩
      obtain ⟨ha1, ha2⟩ := List.mem_filter.1 ha
      unfold isUnd at ha2
      simp only [Bool.and_eq_true, decide_eq_true_eq] at ha2
      obtain ⟨h1, j, hj, hn⟩ := ha2
      have := under_fuel h ha1 hj hn
      exact down_whole h ha1 j k d (by omega) hj hn
theorem below_len (t : Tr) (d : Int) : (rowsBelow t d).length ≤ t.L.length := by
  unfold rowsBelow sortR
  rw [fold_lenR, List.length_map]
  have : (nodesBelow t d).length ≤ t.L.length := List.length_filter_le _ _
  simp; omega
/-- what Rows tells -/
noncomputable def rowsAt (t : Tr) (p : Bytes) : List Rw × Int := if (find t p true).2 ≠ 0 then ([], (find t p true).2) else (rowsBelow t (find t p true).1, 0)
noncomputable def allOf (t : Tr) : List Rw := (rowsAt t [47]).1
end Go.Proofs.YtmbpgjncioegdaaGreatDoor.M12
/-
  Plain mathematics for layer 12 (dump): which rows may be, what laying rows makes; two trees have the same rows just if the same stands below their Roots; a tree's rows, laid, make a tree of these rows. Lists alone. No condition but those that each theorem bears.
-/
namespace Go.Proofs.YtmbpgjncioegdaaGreatDoor.M12
open Go.Proofs.YtmbpgjncioegdaaGreatDoor.M07 hiding Bytes
open Go.Proofs.YtmbpgjncioegdaaGreatDoor.M04
open Go.Proofs.YtmbpgjncioegdaaGreatDoor.M08
open Go.Proofs.YtmbpgjncioegdaaGreatDoor.M09 (putAt write)
open Go.Proofs.YtmbpgjncioegdaaGreatDoor.M03 (check lt lt_trans lt_asymm lt_total)

/-! the same below two nodes -/
def eqL (f : Int → Int → Bool) (t u : Tr) : List M06.Ent → List M06.Ent → Bool
  | [], [] => true
  | e :: r, g :: s => decide (e.1 = g.1) && decide ((nodeAt t.L e.2).kind = (nodeAt u.L g.2).kind) && decide ((nodeAt t.L e.2).data = (nodeAt u.L g.2).data) && f e.2 g.2 && eqL f t u r s
  | _, _ => false
def eqT (t u : Tr) : Nat → Int → Int → Bool
  | 0, n, m => eqL (fun _ _ => false) t u (listDir t.L n) (listDir u.L m)
  | k + 1, n, m => eqL (eqT t u k) t u (listDir t.L n) (listDir u.L m)
theorem no_list {t : Tr} (h : Right t) {n : Int} (hk : t.L.length ≤ height t.L n) : listDir t.L n = [] := by
  cases he : listDir t.L n with
  | nil => rfl
  | cons e r =>
    obtain ⟨a, ha⟩ := kid_of h (d := n) (e := e) (by rw [he]; exact List.mem_cons_self)
    have h1 := ha.height_ h
    have h2 := height_le h ha.kind
    omega
theorem down_path {t : Tr} : ∀ (k : Nat) (d : Int) (q : Bytes) (r : Rw), r ∈ down t k d q → ∃ s, r.path = q ++ 47 :: s
  | 0, _, _, _, h => by simp [down] at h
  | k + 1, d, q, r, h => by
    rw [down, List.mem_flatMap] at h
    obtain ⟨e, -, h⟩ := h
    rcases List.mem_cons.1 h with h | h
    · exact ⟨e.1, by rw [h]⟩
    · obtain ⟨s, hs⟩ := down_path k e.2 _ r h
      exact ⟨e.1 ++ 47 :: s, by rw [hs]; simp⟩
theorem split_eq {P : Rw → Bool} : ∀ {X Y R S : List Rw}, (∀ x ∈ X, P x = true) → (∀ x ∈ Y, P x = true) → (∀ x, R.head? = some x → P x = false) → (∀ x, S.head? = some x → P x = false) → X ++ R = Y ++ S → X = Y ∧ R = S
  | [], [], _, _, _, _, _, _, h => ⟨rfl, h⟩
  | [], y :: Y, R, S, _, hY, hR, _, h => by
    have := hR y (by rw [List.nil_append] at h; rw [h]; rfl)
    rw [hY y List.mem_cons_self] at this; cases this
  | x :: X, [], R, S, hX, _, _, hS, h => by
    have := hS x (by rw [List.nil_append] at h; rw [← h]; rfl)
    rw [hX x List.mem_cons_self] at this; cases this
  | x :: X, y :: Y, R, S, hX, hY, hR, hS, h => by
    rw [List.cons_append, List.cons_append, List.cons.injEq] at h
    obtain ⟨h1, h2⟩ := split_eq (fun z hz => hX z (List.mem_cons_of_mem _ hz)) (fun z hz => hY z (List.mem_cons_of_mem _ hz)) hR hS h.2
    exact ⟨by rw [h.1, h1], h2⟩
/-- below a name of the directory whose path is p -/
def deep (p : Bytes) (r : Rw) : Bool := decide ((47 : UInt8) ∈ r.path.drop (p.length + 1))
theorem deep_below {t : Tr} {k : Nat} {d : Int} {p s : Bytes} {r : Rw} (h : r ∈ down t k d (p ++ 47 :: s)) : deep p r = true := by
  obtain ⟨u, hu⟩ := down_path k d _ r h
  unfold deep
  rw [hu]
  have : (p ++ 47 :: s ++ 47 :: u).drop (p.length + 1) = s ++ 47 :: u := by
    rw [show p ++ 47 :: s ++ 47 :: u = (p ++ [47]) ++ (s ++ 47 :: u) by simp]
    rw [show p.length + 1 = (p ++ [47]).length by simp, List.drop_left]
  rw [this]; simp
theorem deep_here {p s : Bytes} {k : Int} {x : Bytes} (h : (47 : UInt8) ∉ s) : deep p ⟨p ++ 47 :: s, k, x⟩ = false := by
  unfold deep
  have : (p ++ 47 :: s).drop (p.length + 1) = s := by
    rw [show p ++ 47 :: s = (p ++ [47]) ++ s by simp]
    rw [show p.length + 1 = (p ++ [47]).length by simp, List.drop_left]
  show decide ((47 : UInt8) ∈ (p ++ 47 :: s).drop (p.length + 1)) = false
  rw [this]; simpa using h
def blockOf (t : Tr) (k : Nat) (p : Bytes) (e : M06.Ent) : List Rw := ⟨p ++ 47 :: e.1, (nodeAt t.L e.2).kind, (nodeAt t.L e.2).data⟩ :: down t k e.2 (p ++ 47 :: e.1)
theorem block_head {t : Tr} (h : Right t) (hN : Named t) {k : Nat} {p : Bytes} {n : Int} {l : List M06.Ent} (hl : ∀ e ∈ l, e ∈ listDir t.L n) : ∀ x, (l.flatMap (blockOf t k p)).head? = some x → deep p x = false := by
  intro x hx
  cases l with
  | nil => simp at hx
  | cons e r =>
    simp only [List.flatMap_cons, blockOf, List.cons_append, List.head?_cons, Option.some.injEq] at hx
    subst hx
    obtain ⟨a, ha⟩ := kid_of h (hl e List.mem_cons_self)
    exact deep_here (by rw [ha.name]; exact (check_part (hN a ha.mem ha.not1)).1)
theorem eqL_blocks {t u : Tr} (ht : Right t) (hu : Right u) (nt : Named t) (nu : Named u) {n m : Int} {k j : Nat} {p : Bytes} {f : Int → Int → Bool}
    (hf : ∀ e ∈ listDir t.L n, ∀ g ∈ listDir u.L m, f e.2 g.2 = true ↔ down t k e.2 (p ++ 47 :: e.1) = down u j g.2 (p ++ 47 :: e.1)) :
    ∀ (l s : List M06.Ent), (∀ e ∈ l, e ∈ listDir t.L n) → (∀ e ∈ s, e ∈ listDir u.L m) → (eqL f t u l s = true ↔ l.flatMap (blockOf t k p) = s.flatMap (blockOf u j p))
  | [], [], _, _ => by simp [eqL]
  | [], g :: s, _, _ => by simp [eqL, blockOf]
  | e :: r, [], _, _ => by simp [eqL, blockOf]
  | e :: r, g :: s, hl, hs => by
    have ih := eqL_blocks ht hu nt nu hf r s (fun x hx => hl x (List.mem_cons_of_mem _ hx)) (fun x hx => hs x (List.mem_cons_of_mem _ hx))
    have hfe := hf e (hl e List.mem_cons_self) g (hs g List.mem_cons_self)
    rw [eqL, List.flatMap_cons, List.flatMap_cons]
    simp only [Bool.and_eq_true, decide_eq_true_eq]
    constructor
    · rintro ⟨⟨⟨⟨h1, h2⟩, h3⟩, h4⟩, h5⟩
      rw [ih.1 h5]
      unfold blockOf
      rw [hfe.1 h4, h1, h2, h3]
    · intro hh
      unfold blockOf at hh
      rw [List.cons_append, List.cons_append, List.cons.injEq] at hh
      obtain ⟨h0, hh⟩ := hh
      rw [Rw.mk.injEq] at h0
      obtain ⟨h1, h2, h3⟩ := h0
      have h1 : e.1 = g.1 := by simpa using h1
      rw [← h1] at hh
      obtain ⟨h4, h5⟩ := split_eq (P := deep p) (fun x hx => deep_below hx) (fun x hx => deep_below hx) (block_head ht nt (fun x hx => hl x (List.mem_cons_of_mem _ hx))) (block_head hu nu (fun x hx => hs x (List.mem_cons_of_mem _ hx))) hh
      exact ⟨⟨⟨⟨h1, h2⟩, h3⟩, hfe.2 h4⟩, ih.2 h5⟩
theorem eq_down {t u : Tr} (ht : Right t) (hu : Right u) (nt : Named t) (nu : Named u) : ∀ (k j : Nat) (n m : Int) (p : Bytes), t.L.length ≤ height t.L n + k → u.L.length ≤ height u.L m + j → (eqT t u k n m = true ↔ down t k n p = down u j m p)
  | 0, j, n, m, p, hk, hj => by
    have e1 := no_list ht (n := n) (by omega)
    rw [eqT, e1]
    show _ ↔ [] = _
    cases j with
    | zero => rw [no_list hu (n := m) (by omega)]; simp [eqL, down]
    | succ j =>
      rw [down]
      cases listDir u.L m with
      | nil => simp [eqL]
      | cons g s => simp [eqL]
  | k + 1, 0, n, m, p, hk, hj => by
    rw [eqT, no_list hu (n := m) (by omega), down, down]
    cases listDir t.L n with
    | nil => simp [eqL]
    | cons g s => simp [eqL]
  | k + 1, j + 1, n, m, p, hk, hj => by
    rw [eqT, down, down]
    refine eqL_blocks ht hu nt nu (n := n) (m := m) (fun e he g hg => ?_) _ _ (fun x hx => hx) (fun x hx => hx)
    obtain ⟨a, ha⟩ := kid_of ht he
    obtain ⟨b, hb⟩ := kid_of hu hg
    have h1 := ha.height_ ht
    have h2 := hb.height_ hu
    rw [← ha.num] at h1
    rw [← hb.num] at h2
    exact eq_down ht hu nt nu k j e.2 g.2 _ (by omega) (by omega)
/-! all rows -/
theorem find_root (t : Tr) (last : Bool) : find t [47] last = (1, 0) := by
  unfold find
  rw [if_neg (by decide), if_neg (by decide)]
  have : parts [47] = [] := by decide
  rw [this, go_nil]
theorem allOf_is (t : Tr) : allOf t = rowsBelow t 1 := by
  unfold allOf rowsAt
  rw [find_root]; rfl
theorem all_down {t : Tr} (h : Right t) (hN : Named t) : down t t.L.length 1 [] = allOf t := by
  rw [allOf_is, ← down_rows h hN 1 t.L.length (by omega), names_root]; rfl
theorem all_len (t : Tr) : (allOf t).length ≤ t.L.length := by rw [allOf_is]; exact below_len t 1
/-- two trees are the same just if their rows are -/
theorem same_all {t u : Tr} (ht : Right t) (hu : Right u) (nt : Named t) (nu : Named u) : eqT t u t.L.length 1 1 = decide (allOf t = allOf u) := by
  have := eq_down ht hu nt nu t.L.length u.L.length 1 1 [] (by omega) (by omega)
  rw [all_down ht nt, all_down hu nu] at this
  cases h : eqT t u t.L.length 1 1 with
  | true => exact (decide_eq_true (this.1 h)).symm
  | false => exact (decide_eq_false (fun e => by rw [this.2 e] at h; cases h)).symm

/-! laying rows -/
def fitsR (s : Bytes) : Bool := s.all (fun c => decide (c ≠ 10) && decide (c ≠ 0)) && decide (s.length ≤ 4096)
def mayHave (k : Int) (x : Bytes) : Bool := decide (k = 1 ∧ x = []) || decide (k = 2) || decide (k = 3 ∧ x ≠ [])
def rightR (x : Rw) : Bool := isPath x.path && decide (x.path ≠ [47]) && fitsR x.path && fitsR x.data && mayHave x.kind x.data
def makeOn (t : Tr) (x : Rw) : Tr × Int :=
  if rightR x = false then (t, 2) else if (find t x.path false).2 = 0 then (t, 6) else if x.kind = 2 then write t x.path x.data else putAt t x.path x.kind x.data
/-- the tree, how many were laid, an error's number -/
def lay (t : Tr) (i : Nat) : List Rw → Tr × Nat × Int
  | [] => (t, i, 0)
  | x :: l => if (makeOn t x).2 ≠ 0 then (t, i, (makeOn t x).2) else lay (makeOn t x).1 (i + 1) l
end Go.Proofs.YtmbpgjncioegdaaGreatDoor.M12
/-
  Layer 11 (rows): rows in memory; walks of the plain answers Same, fits, Right, Less: what each returns; nothing that was there is changed. The conditions stand in the statements.
-/
namespace Go.Proofs.YtmbpgjncioegdaaGreatDoor.W11
open Go Go.RowKit Go.Proofs.YtmbpgjncioegdaaGreatDoor.Strs Go.Proofs.YtmbpgjncioegdaaGreatDoor.Recs
open Go.Proofs.YtmbpgjncioegdaaGreatDoor.M12
open Go.Proofs.YtmbpgjncioegdaaGreatDoor.M04 (parts isPath)
open Go.Proofs.YtmbpgjncioegdaaGreatDoor.M03 (lt)
open Go.Proofs.YtmbpgjncioegdaaGreatDoor.W03 (less_bytes same_bytes)
open Go.Proofs.YtmbpgjncioegdaaGreatDoor.W04 (Hands)
open Go.Proofs.YtmbpgjncioegdaaGreatDoor.Kit (ret_str ret_bool ret_int mk_of mk_bytes ba_ext below_draws on)

abbrev Bytes := List UInt8
/-- a row's cells -/
def rowC (x : Rw) : List Value := [strV x.path, .int .i64 x.kind, strV x.data]
theorem rowC_len (x : Rw) : (rowC x).length = 3 := rfl
theorem rowC_one (x : Rw) : ∀ c ∈ rowC x, c.oneCell' = true := by
  intro c hc
  simp only [rowC, List.mem_cons, List.not_mem_nil, or_false] at hc
  rcases hc with rfl | rfl | rfl <;> rfl
abbrev RowList (B : Nat) (w : World) (v : Value) (L : List Rw) : Prop := Recs rowC 3 B w v L
theorem RowList.at_ {B : Nat} {w : World} {L : List Rw} {A : Option Addr} {n c : Nat} (h : RowList B w (.slice A n c) L) {k : Nat} (hk : k < n) : ∃ (b o : Nat) (hl : k < L.length) (s x : ByteArray), A = some ⟨b, o, none⟩ ∧ b < B ∧ s.data.toList = (L[k]).path ∧ x.data.toList = (L[k]).data ∧ w.cell? ⟨b, o + k * 3, none⟩ = some (.string s) ∧ w.cell? ⟨b, o + k * 3 + 1, none⟩ = some (.int .i64 (L[k]).kind) ∧ w.cell? ⟨b, o + k * 3 + 2, none⟩ = some (.string x) := by
  obtain ⟨b, o, hl, rfl, hb, hc⟩ := Recs.flat_ h rowC_len (by omega) hk
  exact ⟨b, o, hl, ⟨(L[k]).path.toArray⟩, ⟨(L[k]).data.toArray⟩, rfl, hb, rfl, rfl, hc 0 (by omega), hc 1 (by omega), hc 2 (by omega)⟩
/-! Same -/
/-! fits -/
end Go.Proofs.YtmbpgjncioegdaaGreatDoor.W11
/-
  Layer 11 (rows), walks of the plain answers Right, Less, Sort: what each returns; new memory may be laid, nothing that was there is changed. The conditions stand in the statements.
-/
namespace Go.Proofs.YtmbpgjncioegdaaGreatDoor.W11
open Go Go.RowKit Go.Proofs.YtmbpgjncioegdaaGreatDoor.Strs Go.Proofs.YtmbpgjncioegdaaGreatDoor.Recs
open Go.Proofs.YtmbpgjncioegdaaGreatDoor.M12
open Go.Proofs.YtmbpgjncioegdaaGreatDoor.M04 (parts isPath)
open Go.Proofs.YtmbpgjncioegdaaGreatDoor.M03 (lt)
open Go.Proofs.YtmbpgjncioegdaaGreatDoor.W03 (less_bytes same_bytes)
open Go.Proofs.YtmbpgjncioegdaaGreatDoor.W04 (Hands)
open Go.Proofs.YtmbpgjncioegdaaGreatDoor.Kit (ret_str ret_bool ret_int mk_of mk_bytes ba_ext below_draws on)

/-- a row's box -/
structure RowBox (w : World) (b : Nat) (s : ByteArray) (k : Int) (x : ByteArray) : Prop where
  c0 : w.cell? ⟨b, 0, none⟩ = some (.string s)
  c1 : w.cell? ⟨b, 1, none⟩ = some (.int .i64 k)
  c2 : w.cell? ⟨b, 2, none⟩ = some (.string x)
theorem RowBox.below {w w' : World} {b : Nat} {s : ByteArray} {k : Int} {x : ByteArray} {B : Nat} (h : RowBox w b s k x) (hb : Below B w w') (hl : b < B) : RowBox w' b s k x := ⟨(hb.cell hl).trans h.c0, (hb.cell hl).trans h.c1, (hb.cell hl).trans h.c2⟩
theorem RowBox.new (w : World) (s : ByteArray) (k : Int) (x : ByteArray) (t : TypeId) : RowBox (w.alloc (.cells #[.string s, .int .i64 k, .string x] t)) w.heap.size s k x := by
  have h := cells_new w [.string s, .int .i64 k, .string x] t
  have add0 : ∀ j, (⟨w.heap.size, 0, none⟩ : Addr).add j = ⟨w.heap.size, j, none⟩ := fun j => by unfold Addr.add; split <;> simp_all
  exact ⟨by have := h 0 _ rfl; rwa [add0] at this, by have := h 1 _ rfl; rwa [add0] at this, by have := h 2 _ rfl; rwa [add0] at this⟩
theorem below_box (w : World) (o : Obj) : Below w.heap.size w (w.alloc o) := (Below.refl _ w).alloc (Nat.le_refl _) o
end Go.Proofs.YtmbpgjncioegdaaGreatDoor.W11
/-
  Layer 11 (rows), a walk of the plain answer Less: an order of paths part by part; new memory may be laid, nothing that was there is changed. The conditions stand in the statement.
-/
namespace Go.Proofs.YtmbpgjncioegdaaGreatDoor.W11
open Go Go.RowKit Go.Proofs.YtmbpgjncioegdaaGreatDoor.Strs Go.Proofs.YtmbpgjncioegdaaGreatDoor.Recs
open Go.Proofs.YtmbpgjncioegdaaGreatDoor.M12
open Go.Proofs.YtmbpgjncioegdaaGreatDoor.M04 (parts isPath)
open Go.Proofs.YtmbpgjncioegdaaGreatDoor.M03 (lt)
open Go.Proofs.YtmbpgjncioegdaaGreatDoor.W03 (less_bytes same_bytes)
open Go.Proofs.YtmbpgjncioegdaaGreatDoor.W04 (Hands)
open Go.Proofs.YtmbpgjncioegdaaGreatDoor.Kit (ret_str ret_bool ret_int mk_of mk_bytes ba_ext below_draws on)

end Go.Proofs.YtmbpgjncioegdaaGreatDoor.W11
/-
  append(v, records...) where v is a slice of records that has no room behind its last one: the records are copied into a block of the call's own, whoever v's block belongs to. For every program; the conditions stand in the statement.
-/
namespace Go.Proofs.YtmbpgjncioegdaaGreatDoor.Recs
open Go Go.RowKit

end Go.Proofs.YtmbpgjncioegdaaGreatDoor.Recs
/-
  Layer 11 (rows), a walk of the plain answer Sort: rows one by one in their places; new memory alone. The conditions stand in the statement.
-/
namespace Go.Proofs.YtmbpgjncioegdaaGreatDoor.W11
open Go Go.RowKit Go.Proofs.YtmbpgjncioegdaaGreatDoor.Strs Go.Proofs.YtmbpgjncioegdaaGreatDoor.Recs
open Go.Proofs.YtmbpgjncioegdaaGreatDoor.M12
open Go.Proofs.YtmbpgjncioegdaaGreatDoor.M04 (parts isPath)
open Go.Proofs.YtmbpgjncioegdaaGreatDoor.W04 (Hands)
open Go.Proofs.YtmbpgjncioegdaaGreatDoor.Kit (ret_str ret_bool ret_int mk_of mk_bytes ba_ext below_draws on)

theorem flat_one (r : Rw) : ∀ u ∈ ([r] : List Rw).flatMap rowC, u.oneCell' = true := fun u hu => by
  obtain ⟨y, _, hy⟩ := List.mem_flatMap.1 hu
  exact rowC_one y u hy
end Go.Proofs.YtmbpgjncioegdaaGreatDoor.W11
/-
  A range over a function whose iterator lays blocks as it goes (an iterator that runs over iterators of its own): what it promises its caller ('SeqG'), and what a caller owes that never says 'no more' ('wp_rangeG'). The border between the two is the set of the iterator's blocks, which grows. For every program; no condition but those that each theorem bears.
-/
namespace Go.Proofs.YtmbpgjncioegdaaGreatDoor.Range
open Go Go.RowKit

/-- the blocks of T, and those that came between A and B -/
def Fresh (T : Nat → Prop) (A B : World) (k : Nat) : Prop := T k ∨ (A.heap.size ≤ k ∧ k < B.heap.size)
def Lies (base : Nat) (T : Nat → Prop) (W : World) : Prop := ∀ k, T k → base ≤ k ∧ k < W.heap.size
/-- an invariant that does not mind what an iterator of the blocks T turns and lays -/
def Steady {α : Type} (base : Nat) (J : (Nat → Prop) → List α → World → Prop) : Prop := ∀ T s A B, J T s A → Lies base T A → base ≤ A.heap.size → Turns T A B → J (Fresh T A B) s B
theorem Lies.more {base : Nat} {T : Nat → Prop} {A B : World} (h : Lies base T A) (hs : A.heap.size ≤ B.heap.size) : Lies base T B := fun k hk => by have := h k hk; exact ⟨this.1, by omega⟩
/-- WHAT AN ITERATOR PROMISES: called with yield, by a caller that never says 'no more', it hands out the elements of xs in their order; it turns none but its blocks, those of T and those that it lays; a round turns none of these. -/
def SeqG {α : Type} (P : Program) (g : Nat) (lb : Array Value) (enc : α → Value) (base : Nat) (O : Nat → Prop) (xs : List α) (w0 : World) : Prop :=
  ∀ (l : Nat) (J : (Nat → Prop) → List α → World → Prop) (T : Nat → Prop) (W : World), (∀ k, k < base ∨ O k → W.heap[k]? = w0.heap[k]?) → w0.heap.size ≤ W.heap.size →
    Steady base J → Lies base T W → (∀ k, O k → T k) → base ≤ W.heap.size →
    (∀ T pre x W1, J T pre W1 → Lies base T W1 → pre ++ [x] <+: xs → Yields P l (enc x) W1 fun e W' => e = .returned (.bool true) ∧ J T (pre ++ [x]) W' ∧ Turns (fun k => base ≤ k ∧ ¬ T k) W1 W') →
    J T [] W →
    Calls P g (#[.func (.yield l) #[] #[]] ++ lb) W fun e W' => (∃ v, e = .returned v) ∧ Turns (fun k => base ≤ k) W W' ∧ ∃ T', J T' xs W' ∧ Lies base T' W' ∧ (∀ k, T k → T' k)

end Go.Proofs.YtmbpgjncioegdaaGreatDoor.Range
/-
  Layer 12 (dump), walks of Go's slices.AppendSeq and slices.Collect at rows: what an iterator hands out is collected, in new memory. The conditions stand in the statements.
-/
namespace Go.Proofs.YtmbpgjncioegdaaGreatDoor.W12
open Go Go.RowKit Go.Shelf Go.Proofs.YtmbpgjncioegdaaGreatDoor.Strs Go.Proofs.YtmbpgjncioegdaaGreatDoor.Recs Go.Proofs.YtmbpgjncioegdaaGreatDoor.Range
open Go.Proofs.YtmbpgjncioegdaaGreatDoor.M12
open Go.Proofs.YtmbpgjncioegdaaGreatDoor.W11
open Go.Proofs.YtmbpgjncioegdaaGreatDoor.Kit (ret_str ret_bool ret_int mk_of mk_bytes ba_ext below_draws on)
attribute [local go_sem] Oper.semAt_some

/-- the same promise at a later world -/
theorem SeqG.later {α : Type} {P : Program} {g : Nat} {lb : Array Value} {enc : α → Value} {base : Nat} {O : Nat → Prop} {xs : List α} {w0 w1 : World} (h : SeqG P g lb enc base O xs w0) (hk : ∀ k, k < base ∨ O k → w1.heap[k]? = w0.heap[k]?) (hs : w0.heap.size ≤ w1.heap.size) : SeqG P g lb enc base O xs w1 :=
  fun l J T W hW hz => h l J T W (fun k h => (hW k h).trans (hk k h)) (Nat.le_trans hs hz)
end Go.Proofs.YtmbpgjncioegdaaGreatDoor.W12
/-
  Layer 12 (dump), walks of the program's iterator of what stands below a node ('below'), which runs over iterators of its own: it hands out the rows from the node down, in order. The conditions stand in the statements.
-/
namespace Go.Proofs.YtmbpgjncioegdaaGreatDoor.W12
open Go Go.RowKit Go.Shelf Go.Proofs.YtmbpgjncioegdaaGreatDoor.Strs Go.Proofs.YtmbpgjncioegdaaGreatDoor.Recs Go.Proofs.YtmbpgjncioegdaaGreatDoor.Range
open Go.Proofs.YtmbpgjncioegdaaGreatDoor.M12
open Go.Proofs.YtmbpgjncioegdaaGreatDoor.M07 (Tr Nd nodeAt Right height listDir)
open Go.Proofs.YtmbpgjncioegdaaGreatDoor.M08 (Named)
open Go.Proofs.YtmbpgjncioegdaaGreatDoor.W07 (Small Trees listed HandsIn)
open Go.Proofs.YtmbpgjncioegdaaGreatDoor.W06 (Ents)
open Go.Proofs.YtmbpgjncioegdaaGreatDoor.W08 (listed_is listed_len)
open Go.Proofs.YtmbpgjncioegdaaGreatDoor.W11
open Go.Proofs.YtmbpgjncioegdaaGreatDoor.Kit (ret_str ret_bool ret_int mk_of mk_bytes ba_ext below_draws on)
attribute [local go_sem] Oper.semAt_some

/-- what an iterator's activation holds of its own memory: its variables, the directory's list, the marks of the statements that are through -/
structure Act3 (F : Nat → Prop) (base : Nat) (W0 : World) (q y : Nat) (yv v : Value) (n : Int) (p : ByteArray) (u : Value) (E : List M06.Ent) (ds : List Nat) (T : Nat → Prop) (wr : World) : Prop where
  turn : Turns (fun k => base ≤ k) W0 wr
  y0 : wr.cell? ⟨y, 0, none⟩ = some yv
  c0 : wr.cell? ⟨q, 0, none⟩ = some v
  c1 : wr.cell? ⟨q + 1, 0, none⟩ = some (.int .i64 n)
  c2 : wr.cell? ⟨q + 2, 0, none⟩ = some (.string p)
  ty : T y
  t0 : T q
  t1 : T (q + 1)
  t2 : T (q + 2)
  ents : Ents wr.heap.size wr u E
  off : 0 < E.length → ∀ b o m c, u = .slice (some ⟨b, o, none⟩) m c → F b ∨ T b
  nodup : ds.Nodup
  marks : ∀ b ∈ ds, wr.heap[b]? = some (.deferred (some [])) ∧ T b
theorem recs_blocks {α : Type} {enc : α → List Value} {sz B : Nat} {w w' : World} {u : Value} {L : List α} (h : Recs enc sz B w u L) (he : ∀ x : α, (enc x).length = sz) (h0 : 0 < sz) (hk : 0 < L.length → ∀ b o m c, u = .slice (some ⟨b, o, none⟩) m c → w'.heap[b]? = w.heap[b]?) : Recs enc sz B w' u L := by
  obtain ⟨A, c, rfl, hc1, hc2⟩ := h.form
  rcases Nat.eq_zero_or_pos L.length with q | q
  · have : L = [] := List.length_eq_zero_iff.1 q
    subst this
    exact recs_none _ _ _ _ _ hc2
  · obtain ⟨b, o, _, rfl, _, _⟩ := h.flat_ he h0 q
    exact h.other (fun p hp => World.cell?_of_block (by rw [hp]; exact hk q b o _ _ rfl))
theorem Act3.on {F : Nat → Prop} {base : Nat} {W0 : World} {q y : Nat} {yv v : Value} {n : Int} {p : ByteArray} {u : Value} {E : List M06.Ent} {ds : List Nat} {T T' : Nat → Prop} {wr w' : World} (h : Act3 F base W0 q y yv v n p u E ds T wr) (hF : ∀ k, F k → k < base) (hb : base ≤ wr.heap.size)
    (hs : ∀ k, T k → w'.heap[k]? = wr.heap[k]?) (ht : Turns (fun k => base ≤ k) wr w') (hT : ∀ k, T k → T' k) : Act3 F base W0 q y yv v n p u E ds T' w' where
  turn := h.turn.trans ht
  y0 := (World.cell?_of_block (hs y h.ty)).trans h.y0
  c0 := (World.cell?_of_block (hs q h.t0)).trans h.c0
  c1 := (World.cell?_of_block (hs (q + 1) h.t1)).trans h.c1
  c2 := (World.cell?_of_block (hs (q + 2) h.t2)).trans h.c2
  ty := hT _ h.ty
  t0 := hT _ h.t0
  t1 := hT _ h.t1
  t2 := hT _ h.t2
  ents := (recs_blocks h.ents W06.entC_len (by decide) (fun hn b o m c e => by
    rcases h.off hn b o m c e with hf | hf
    · have := hF b hf
      exact ht.block b (by omega) (by omega)
    · exact hs b hf)).more ht.size
  off := fun hn b o m c e => (h.off hn b o m c e).imp id (hT b)
  nodup := h.nodup
  marks := fun b hb => ⟨(hs b (h.marks b hb).2).trans (h.marks b hb).1, hT b (h.marks b hb).2⟩
section
variable {w w' : World} {b : Nat} {s : ByteArray} {k : Int} {x : ByteArray}
end
theorem stored3 {w w' : World} {m b : Nat} (h : Below m w w') (hb : m ≤ b) (x y z : Value) : Below m w (((w'.setCell ⟨b, 0, none⟩ x).setCell ⟨b, 1, none⟩ y).setCell ⟨b, 2, none⟩ z) := ((h.setCell hb _).setCell hb _).setCell hb _
end Go.Proofs.YtmbpgjncioegdaaGreatDoor.W12
/-
  Layer 12 (dump), walks of the plain answers in, Rows, All: new memory may be laid, nothing that was there is changed. The conditions stand in the statements.
-/
namespace Go.Proofs.YtmbpgjncioegdaaGreatDoor.W12
open Go Go.RowKit Go.Proofs.YtmbpgjncioegdaaGreatDoor.Strs Go.Proofs.YtmbpgjncioegdaaGreatDoor.Recs
open Go.Proofs.YtmbpgjncioegdaaGreatDoor.M12
open Go.Proofs.YtmbpgjncioegdaaGreatDoor.M07 (Tr Nd nodeAt Right height upOf at_some)
open Go.Proofs.YtmbpgjncioegdaaGreatDoor.M08 (Named Fit names text_ne real flatN names_bound height_next)
open Go.Proofs.YtmbpgjncioegdaaGreatDoor.M04 (text parts)
open Go.Proofs.YtmbpgjncioegdaaGreatDoor.W07 (Nodes nodeV)
open Go.Proofs.YtmbpgjncioegdaaGreatDoor.W08 (RefBox at_num)
open Go.Proofs.YtmbpgjncioegdaaGreatDoor.W11
open Go.Proofs.YtmbpgjncioegdaaGreatDoor.Range (Turns)
open Go.Proofs.YtmbpgjncioegdaaGreatDoor.Kit (ret_str ret_bool ret_int mk_of mk_bytes ba_ext below_draws on)

/-- the nodes of the first k that stand below d -/
noncomputable def some_ (t : Tr) (d : Int) (k : Nat) : List Rw := ((t.L.take k).filter (fun a => decide (a.num ≠ 1) && isUnd t a.num d)).map (nodeRow t)
end Go.Proofs.YtmbpgjncioegdaaGreatDoor.W12
/-
  Layer 12 (dump), walks of the plain answers All and Lay: new memory may be laid, nothing that was there is changed. The conditions stand in the statements.
-/
namespace Go.Proofs.YtmbpgjncioegdaaGreatDoor.W12
open Go Go.RowKit Go.Proofs.YtmbpgjncioegdaaGreatDoor.Strs Go.Proofs.YtmbpgjncioegdaaGreatDoor.Recs Go.Proofs.YtmbpgjncioegdaaGreatDoor.Range
open Go.Proofs.YtmbpgjncioegdaaGreatDoor.M12
open Go.Proofs.YtmbpgjncioegdaaGreatDoor.M07 (Tr Nd nodeAt Right height upOf at_some)
open Go.Proofs.YtmbpgjncioegdaaGreatDoor.M08 (Named Fit)
open Go.Proofs.YtmbpgjncioegdaaGreatDoor.M09 (Kept putAt write)
open Go.Proofs.YtmbpgjncioegdaaGreatDoor.W07 (Off heap_top Nodes TreeBox TreeErr FromOr nodes_turns off_from right_full turns_box)
open Go.Proofs.YtmbpgjncioegdaaGreatDoor.W09 (Within Fits off_nodes FromOr.low Mid mid_in two_fits)
open Go.Proofs.YtmbpgjncioegdaaGreatDoor.W11
open Go.Proofs.YtmbpgjncioegdaaGreatDoor.Kit (ret_str ret_bool ret_int mk_of mk_bytes ba_ext below_draws on)


/-! Lay -/
theorem results_cell_two {fn : Func} {p t s : Tmp} {ty : TypeId} (h : fn.results = #[.cell p ty, .tmp t, .tmp s]) (tmps : Array Value) (P : Program) (w : World) :
    (results fn tmps).run P w = ((asAddr (tmps.getD p undef)).run P w).andThen fun a w₁ => ((loadVar ty a).run P w₁).andThen fun v w₂ => .ok (.tuple #[v, tmps.getD t undef, tmps.getD s undef]) w₂ := by
  simp only [results, h]
  simp [Sem.run_bind, Result.andThen]
theorem low_top (w : World) (o o' : Obj) : ((w.alloc o).alloc o').heap[w.heap.size]? = some o := by
  rw [Below.heap_alloc _ _ _ (by rw [World.alloc_size]; omega)]
  exact heap_top _ _
theorem high_top (w : World) (o o' : Obj) : ((w.alloc o).alloc o').heap[w.heap.size + 1]? = some o' := by
  have := heap_top (w.alloc o) o'
  rw [World.alloc_size] at this
  exact this
/-- where the loop stands -/
structure Lp (w wr : World) (p0 pR : Nat) (n : Nat) (t : Tr) (u : Value) : Prop where
  box : TreeBox wr p0 u t.last
  res : TreeBox wr pR (.slice none 0 0) 0
  nodes : Nodes wr.heap.size wr u t.L
  apart : Off (fun k => k = p0 ∨ k = pR) u
  within : Within t n
  below : Below w.heap.size w wr
  pnew : w.heap.size ≤ p0
  rnew : w.heap.size ≤ pR
  ne : p0 ≠ pR
theorem Lp.call {w wr w9 : World} {p0 pR n : Nat} {t : Tr} {u : Value} (g : Lp w wr p0 pR n t u) (h : Below wr.heap.size wr w9) : Lp w w9 p0 pR n t u :=
  ⟨g.box.below h, g.res.below h, (g.nodes.below h).more h.size, g.apart, g.within, on g.below h, g.pnew, g.rnew, g.ne⟩
theorem Lp.next {w wr w9 : World} {p0 pR pQ n : Nat} {t T' : Tr} {u u8 : Value} (g : Lp w wr p0 pR n t u) (m : Mid w wr w9 pQ u8 T' u) (k : Kept t T') : Lp w ((w9.setCell ⟨p0, 0, none⟩ u8).setCell ⟨p0, 1, none⟩ (.int .i64 T'.last)) p0 pR (n + 1) T' u8 := by
  have g9 := g.call m.below
  have h0 := g.box.lt
  have h1 := g.res.lt
  have tp := turns_box w9 p0 u8 (.int .i64 T'.last)
  have hap : Off (fun k => k = p0 ∨ k = pR) u8 := off_from g.apart (fun k hk => by rcases hk with e | e <;> omega) m.from_
  have hne := g.ne
  exact {
    box := W07.box_stored2 g9.box
    res := g9.res.turns tp (fun e => hne (Eq.symm e))
    nodes := (nodes_turns m.nodes tp (fun b o n c e hk => hap b o n c e (Or.inl hk))).more tp.size
    apart := hap
    within := g.within.next k
    below := (g9.below.setCell g.pnew _).setCell g.pnew _
    pnew := g.pnew
    rnew := g.rnew
    ne := g.ne }
/-- what is returned -/
theorem Lp.ends {w wr : World} {p0 pR n : Nat} {t : Tr} {u : Value} (g : Lp w wr p0 pR n t u) (a b : Value) : Nodes ((wr.setCell ⟨pR, 0, none⟩ a).setCell ⟨pR, 1, none⟩ b).heap.size ((wr.setCell ⟨pR, 0, none⟩ a).setCell ⟨pR, 1, none⟩ b) u t.L ∧ Below w.heap.size w ((wr.setCell ⟨pR, 0, none⟩ a).setCell ⟨pR, 1, none⟩ b) :=
  have tp := turns_box wr pR a b
  ⟨(nodes_turns g.nodes tp (fun b o n c e hk => g.apart b o n c e (Or.inr hk))).more tp.size, (g.below.setCell g.rnew _).setCell g.rnew _⟩
/-- what Lay returns -/
def TreeTwo (w : World) (R : Tr × Nat × Int) (e : Ending) (w' : World) : Prop := ∃ u, e = .returned (.tuple #[.agg #[u, .int .i64 R.1.last], .int .i64 (R.2.1 : Int), .int .i64 R.2.2]) ∧ Nodes w'.heap.size w' u R.1.L ∧ Below w.heap.size w w'
theorem two_is {w W : World} {R : Tr × Nat × Int} {t : Tr} {n : Nat} {e : Int} {u : Value} (hR : R = (t, n, e)) (h : Nodes W.heap.size W u t.L ∧ Below w.heap.size w W) : TreeTwo w R (.returned (.tuple #[.agg #[u, .int .i64 t.last], .int .i64 (n : Int), .int .i64 e])) W := by
  subst hR
  exact ⟨u, rfl, h.1, h.2⟩
end Go.Proofs.YtmbpgjncioegdaaGreatDoor.W12
/-
  Layer 12 (dump), walks of the program's 'below' at every depth, Rows, All: what they answer of a tree, and of nil. The conditions stand in the statements.
-/
namespace Go.Proofs.YtmbpgjncioegdaaGreatDoor.W12
open Go Go.RowKit Go.Shelf Go.Proofs.YtmbpgjncioegdaaGreatDoor.Strs Go.Proofs.YtmbpgjncioegdaaGreatDoor.Recs Go.Proofs.YtmbpgjncioegdaaGreatDoor.Range
open Go.Proofs.YtmbpgjncioegdaaGreatDoor.M12
open Go.Proofs.YtmbpgjncioegdaaGreatDoor.M03 (check)
open Go.Proofs.YtmbpgjncioegdaaGreatDoor.M04 (parts text)
open Go.Proofs.YtmbpgjncioegdaaGreatDoor.M07 (Tr Nd nodeAt Right height listDir inDir at_some)
open Go.Proofs.YtmbpgjncioegdaaGreatDoor.M08 (Named find goTo real names flatN names_bound text_flatN text_flat0 names_root height_le)
open Go.Proofs.YtmbpgjncioegdaaGreatDoor.W07 (Small Trees)
open Go.Proofs.YtmbpgjncioegdaaGreatDoor.W11
open Go.Proofs.YtmbpgjncioegdaaGreatDoor.Kit (ret_str ret_bool ret_int mk_of mk_bytes ba_ext below_draws on)

abbrev Bytes := List UInt8
/-! where a path leads, there is a node -/
section
variable {Rep : (Nat → Prop) → World → Value → Tr → Prop} {F : Nat → Prop} {va : Addr} {t : Tr}
end
end Go.Proofs.YtmbpgjncioegdaaGreatDoor.W12
/-
  Layer 12 (dump), walks of the program's All and Paths over what Rows answers; Rows of nil. The conditions stand in the statements.
-/
namespace Go.Proofs.YtmbpgjncioegdaaGreatDoor.W12
open Go Go.RowKit Go.Shelf Go.Proofs.YtmbpgjncioegdaaGreatDoor.Strs Go.Proofs.YtmbpgjncioegdaaGreatDoor.Recs Go.Proofs.YtmbpgjncioegdaaGreatDoor.Range
open Go.Proofs.YtmbpgjncioegdaaGreatDoor.M12
open Go.Proofs.YtmbpgjncioegdaaGreatDoor.W09 (HandsT)
open Go.Proofs.YtmbpgjncioegdaaGreatDoor.W11
open Go.Proofs.YtmbpgjncioegdaaGreatDoor.Kit (ret_str ret_bool ret_int mk_of mk_bytes ba_ext below_draws on)

end Go.Proofs.YtmbpgjncioegdaaGreatDoor.W12
/-
  Layer 11 (rows), walks of the landed code's isWord, mayHave and Right: whether a row may be; new memory may be laid, nothing that was there is changed. The conditions stand in the statements.
-/
namespace Go.Proofs.YtmbpgjncioegdaaGreatDoor.W11
open Go Go.RowKit Go.Proofs.YtmbpgjncioegdaaGreatDoor.Strs Go.Proofs.YtmbpgjncioegdaaGreatDoor.Recs
open Go.Proofs.YtmbpgjncioegdaaGreatDoor.M12
open Go.Proofs.YtmbpgjncioegdaaGreatDoor.M04 (parts isPath)
open Go.Proofs.YtmbpgjncioegdaaGreatDoor.W03 (alike_no alike_yes width_pos)
open Go.Proofs.YtmbpgjncioegdaaGreatDoor.Kit (ret_str ret_bool ret_int mk_of mk_bytes ba_ext below_draws on)

/-! a range over a text, whatever was laid beside it -/
end Go.Proofs.YtmbpgjncioegdaaGreatDoor.W11
/-
  Layer 11 (rows), walks of the landed code's isWord, mayHave and Right: whether a row may be; new memory may be laid, nothing that was there is changed. The conditions stand in the statements.
-/
namespace Go.Proofs.YtmbpgjncioegdaaGreatDoor.W11
open Go Go.RowKit Go.Proofs.YtmbpgjncioegdaaGreatDoor.Strs Go.Proofs.YtmbpgjncioegdaaGreatDoor.Recs
open Go.Proofs.YtmbpgjncioegdaaGreatDoor.M12
open Go.Proofs.YtmbpgjncioegdaaGreatDoor.M04 (parts isPath)
open Go.Proofs.YtmbpgjncioegdaaGreatDoor.W03 (alike_no alike_yes width_pos)
open Go.Proofs.YtmbpgjncioegdaaGreatDoor.Kit (ret_str ret_bool ret_int mk_of mk_bytes ba_ext below_draws on)

end Go.Proofs.YtmbpgjncioegdaaGreatDoor.W11
/-
  Layer 12 (dump), walks of the program's put, Lay, Make, over any reading of a tree. The conditions stand in the statements.
-/
namespace Go.Proofs.YtmbpgjncioegdaaGreatDoor.W12
open Go Go.RowKit Go.Shelf Go.Proofs.YtmbpgjncioegdaaGreatDoor.Strs Go.Proofs.YtmbpgjncioegdaaGreatDoor.Recs Go.Proofs.YtmbpgjncioegdaaGreatDoor.Range
open Go.Proofs.YtmbpgjncioegdaaGreatDoor.M12
open Go.Proofs.YtmbpgjncioegdaaGreatDoor.M07 (Tr Nd nodeAt Right)
open Go.Proofs.YtmbpgjncioegdaaGreatDoor.M09 (Kept putAt write stat)
open Go.Proofs.YtmbpgjncioegdaaGreatDoor.W07 (Small Trees Wrote Off)
open Go.Proofs.YtmbpgjncioegdaaGreatDoor.W09 (Posix Within statV)
open Go.Proofs.YtmbpgjncioegdaaGreatDoor.W11
open Go.Proofs.YtmbpgjncioegdaaGreatDoor.Kit (ret_str ret_bool ret_int mk_of mk_bytes ba_ext below_draws on)

theorem right_kind {p d : Bytes} {k : Int} (h : rightR ⟨p, k, d⟩ = true) : (k = 1 ∧ d = []) ∨ k = 2 ∨ k = 3 := by
  unfold rightR mayHave at h
  simp only [Bool.and_eq_true, Bool.or_eq_true, decide_eq_true_eq] at h
  rcases h.2 with (h | h) | h
  · exact Or.inl h
  · exact Or.inr (Or.inl h)
  · exact Or.inr (Or.inr h.1)
section
variable {Rep : (Nat → Prop) → World → Value → Tr → Prop} {F : Nat → Prop} {w w1 w2 : World} {v : Value} {t t' : Tr}
theorem wrote_none (C : Trees Rep) (H : Rep F w v t) (hb : Below w.heap.size w w1) : Wrote Rep F v t w w1 := ⟨F, C.below H hb, Turns.new hb, fun _ => Or.inl⟩
theorem wrote_after (hb : Below w.heap.size w w1) (h : Wrote Rep F v t' w1 w2) : Wrote Rep F v t' w w2 := by
  obtain ⟨F', h1, h2, h3⟩ := h
  exact ⟨F', h1, (Turns.new hb).trans h2, fun k hk => (h3 k hk).imp id (Nat.le_trans hb.size)⟩
end
end Go.Proofs.YtmbpgjncioegdaaGreatDoor.W12
/-
  Layer 12 (dump), walks of the program's Make, over any reading of a tree. The conditions stand in the statements.
-/
namespace Go.Proofs.YtmbpgjncioegdaaGreatDoor.W12
open Go Go.RowKit Go.Shelf Go.Proofs.YtmbpgjncioegdaaGreatDoor.Strs Go.Proofs.YtmbpgjncioegdaaGreatDoor.Recs Go.Proofs.YtmbpgjncioegdaaGreatDoor.Range
open Go.Proofs.YtmbpgjncioegdaaGreatDoor.M12
open Go.Proofs.YtmbpgjncioegdaaGreatDoor.M07 (Tr Nd nodeAt Right)
open Go.Proofs.YtmbpgjncioegdaaGreatDoor.W07 (Small Trees Wrote Off)
open Go.Proofs.YtmbpgjncioegdaaGreatDoor.W09 (Posix Within)
open Go.Proofs.YtmbpgjncioegdaaGreatDoor.W11
open Go.Proofs.YtmbpgjncioegdaaGreatDoor.Kit (ret_str ret_bool ret_int mk_of mk_bytes ba_ext below_draws on)

section
variable {Rep : (Nat → Prop) → World → Value → Tr → Prop} {F : Nat → Prop} {w : World} {u : Value} {L : List Rw}
end
end Go.Proofs.YtmbpgjncioegdaaGreatDoor.W12
