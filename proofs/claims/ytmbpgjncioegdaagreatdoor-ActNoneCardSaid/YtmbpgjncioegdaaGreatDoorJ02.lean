/-
  Texts joined, in build order, each with its own comment and its own conditions: W07Right, StrOwn, W03Walk, W03Find, W06Walk.
-/
import Derived.Test.YtmbpgjncioegdaaGreatDoorJ01
import Derived.Test.YtmbpgjncioegdaaGreatDoorChecked
import Derived.WalkSpells
import Derived.WalkLawsBesides
import Derived.BigQuiet
/-
  Plain mathematics for layer 7 (tree): what a right tree is; from each of its nodes the directories lead up to Root; Move; each act keeps a tree right. Lists alone. No condition but those that each theorem bears.
-/
namespace Go.Proofs.YtmbpgjncioegdaaGreatDoor.M07
open Go.Proofs.YtmbpgjncioegdaaGreatDoor.M03 (check)
open Go.Proofs.YtmbpgjncioegdaaGreatDoor.M06 (Ent)

/-- the directory that a node stands in -/
def upOf (L : List Nd) (n : Int) : Int := (nodeAt L n).up
def upN (L : List Nd) : Nat → Int → Int
  | 0, n => n
  | k + 1, n => upN L k (upOf L n)
/-- whether n is come to from k upwards, ahead of Root or there -/
def Inside (L : List Nd) (n k : Int) : Prop := ∃ j, upN L j k = n ∧ ∀ i, i < j → upN L i k ≠ 1
theorem inside_here (L : List Nd) (n : Int) : Inside L n n := ⟨0, rfl, fun i h => absurd h (by omega)⟩
theorem inside_root {L : List Nd} {n : Int} (h : n ≠ 1) : ¬ Inside L n 1 := by
  rintro ⟨j, h1, h2⟩
  cases j with
  | zero => exact h h1.symm
  | succ j => exact h2 0 (by omega) rfl
theorem inside_up {L : List Nd} {n k : Int} (h : k ≠ n) (h1 : k ≠ 1) : Inside L n k ↔ Inside L n (upOf L k) := by
  constructor
  · rintro ⟨j, e, ha⟩
    cases j with
    | zero => exact absurd e h
    | succ j => exact ⟨j, e, fun i hi => ha (i + 1) (by omega)⟩
  · rintro ⟨j, e, ha⟩
    refine ⟨j + 1, e, fun i hi => ?_⟩
    cases i with
    | zero => exact h1
    | succ i => exact ha i (by omega)
theorem least {p : Nat → Prop} (h : ∃ k, p k) : ∃ k, p k ∧ ∀ i, p i → k ≤ i := by
  obtain ⟨k, hk⟩ := h
  induction k using Nat.strongRecOn with
  | ind k ih =>
    by_cases h2 : ∃ i, i < k ∧ p i
    · obtain ⟨i, hi, hp⟩ := h2
      exact ih i hi hp
    · refine ⟨k, hk, fun i hi => ?_⟩
      rcases Nat.lt_or_ge i k with hlt | hge
      · exact absurd ⟨i, hlt, hi⟩ h2
      · exact hge
open Classical in
/-- how many steps it is to Root -/
noncomputable def height (L : List Nd) (n : Int) : Nat := if h : ∃ k, upN L k n = 1 then Classical.choose (least h) else 0
theorem height_up {L : List Nd} {n : Int} (h : ∃ k, upN L k n = 1) (h1 : n ≠ 1) : (∃ k, upN L k (upOf L n) = 1) ∧ height L (upOf L n) < height L n := by
  classical
  have h2 : ∃ k, upN L k (upOf L n) = 1 := by
    obtain ⟨k, hk⟩ := h
    cases k with
    | zero => exact absurd hk h1
    | succ k => exact ⟨k, hk⟩
  refine ⟨h2, ?_⟩
  unfold height
  rw [dif_pos h, dif_pos h2]
  have e := (Classical.choose_spec (least h)).1
  have e2 := (Classical.choose_spec (least h2)).2
  cases hf : Classical.choose (least h) with
  | zero => rw [hf] at e; exact absurd e h1
  | succ k =>
    rw [hf] at e
    have := e2 k e
    omega

/-! Move -/
def moveErr (L : List Nd) (src : Int) (name : Bytes) (dst : Int) (nw : Bytes) : Int :=
  if dirErr L src ≠ 0 then dirErr L src else if dirErr L dst ≠ 0 then dirErr L dst else if inDir L src name = 0 then 5 else check nw
/-- a node in another place -/
def placed (t : Tr) (x : Nd) (dst : Int) (nw : Bytes) : Tr := withNode t { x with up := dst, name := nw }
/-- behind the checks: the node n goes to dst, by as -/
def moveOn (t : Tr) (n : Int) (dst : Int) (nw : Bytes) : Tr × Int :=
  if inDir t.L dst nw = n then (t, 0)
  else if 0 < inDir t.L dst nw then
    if (nodeAt t.L (inDir t.L dst nw)).kind = 1 ∧ (nodeAt t.L n).kind ≠ 1 then (t, 8)
    else if (nodeAt t.L (inDir t.L dst nw)).kind ≠ 1 ∧ (nodeAt t.L n).kind = 1 then (t, 7)
    else if (cut t dst nw).2 ≠ 0 then (t, (cut t dst nw).2)
    else (placed (cut t dst nw).1 (nodeAt t.L n) dst nw, 0)
  else (placed t (nodeAt t.L n) dst nw, 0)
open Classical in
noncomputable def move (t : Tr) (src : Int) (name : Bytes) (dst : Int) (nw : Bytes) : Tr × Int :=
  if moveErr t.L src name dst nw ≠ 0 then (t, moveErr t.L src name dst nw)
  else if (nodeAt t.L (inDir t.L src name)).kind = 1 ∧ Inside t.L (inDir t.L src name) dst then (t, 14)
  else moveOn t (inDir t.L src name) dst nw

/-! a right tree -/
structure Right (t : Tr) : Prop where
  root : ∃ r, t.L = ⟨1, 1, [], 1, []⟩ :: r
  rise : t.L.Pairwise (fun a b => a.num < b.num)
  ends : ∀ a ∈ t.L, 1 ≤ a.num ∧ a.num ≤ t.last
  kind : ∀ a ∈ t.L, a.kind ≠ 0
  up : ∀ a ∈ t.L, (nodeAt t.L a.up).kind = 1
  once : ∀ a ∈ t.L, ∀ b ∈ t.L, a.num ≠ 1 → b.num ≠ 1 → a.up = b.up → a.name = b.name → a = b
  low : ∀ a ∈ t.L, ∃ k, upN t.L k a.num = 1
theorem at_some : ∀ {L : List Nd} {n : Int}, (nodeAt L n).kind ≠ 0 → nodeAt L n ∈ L ∧ (nodeAt L n).num = n
  | [], n, h => absurd rfl h
  | a :: r, n, h => by
    unfold nodeAt at h ⊢
    by_cases e : a.num = n
    · rw [if_pos e]; exact ⟨List.mem_cons_self, e⟩
    · rw [if_neg e] at h ⊢
      have := at_some h
      exact ⟨List.mem_cons_of_mem _ this.1, this.2⟩
theorem at_mem : ∀ {L : List Nd} {a : Nd}, L.Pairwise (fun a b => a.num < b.num) → a ∈ L → nodeAt L a.num = a
  | [], a, _, h => absurd h (by simp)
  | b :: r, a, hp, h => by
    rw [List.pairwise_cons] at hp
    unfold nodeAt
    rcases List.mem_cons.1 h with rfl | h
    · rw [if_pos rfl]
    · rw [if_neg (by have := hp.1 a h; omega)]
      exact at_mem hp.2 h
theorem at_none : ∀ {L : List Nd} {n : Int}, (∀ a ∈ L, a.num ≠ n) → nodeAt L n = zero
  | [], _, _ => rfl
  | a :: r, n, h => by
    unfold nodeAt
    rw [if_neg (h a List.mem_cons_self)]
    exact at_none fun b hb => h b (List.mem_cons_of_mem _ hb)
theorem at_append {L : List Nd} {x : Nd} {n : Int} (h : n ≠ x.num) : nodeAt (L ++ [x]) n = nodeAt L n := by
  induction L with
  | nil => show (if x.num = n then x else zero) = zero; rw [if_neg (fun e => h e.symm)]
  | cons a r ih =>
    show (if a.num = n then a else nodeAt (r ++ [x]) n) = (if a.num = n then a else nodeAt r n)
    rw [ih]
theorem at_last {L : List Nd} {x : Nd} (h : ∀ a ∈ L, a.num ≠ x.num) : nodeAt (L ++ [x]) x.num = x := by
  induction L with
  | nil => show (if x.num = x.num then x else zero) = x; rw [if_pos rfl]
  | cons a r ih =>
    show (if a.num = x.num then a else nodeAt (r ++ [x]) x.num) = x
    rw [if_neg (h a List.mem_cons_self)]
    exact ih fun b hb => h b (List.mem_cons_of_mem _ hb)
theorem at_filter {L : List Nd} {m n : Int} (h : n ≠ m) : nodeAt (L.filter (fun a => decide (a.num ≠ m))) n = nodeAt L n := by
  induction L with
  | nil => rfl
  | cons a r ih =>
    by_cases e : a.num = m
    · rw [List.filter_cons, if_neg (by simp [e]), ih]
      show _ = (if a.num = n then a else nodeAt r n)
      rw [if_neg (by rw [e]; exact fun e => h e.symm)]
    · rw [List.filter_cons, if_pos (by simp [e])]
      show (if a.num = n then a else nodeAt (r.filter _) n) = (if a.num = n then a else nodeAt r n)
      rw [ih]
theorem at_map {L : List Nd} {f : Nd → Nd} (hf : ∀ a, (f a).num = a.num) {n : Int} (h : (nodeAt L n).kind ≠ 0) : nodeAt (L.map f) n = f (nodeAt L n) := by
  induction L with
  | nil => exact absurd rfl h
  | cons a r ih =>
    unfold nodeAt at h
    show (if (f a).num = n then f a else nodeAt (r.map f) n) = f (if a.num = n then a else nodeAt r n)
    rw [hf]
    by_cases e : a.num = n
    · rw [if_pos e, if_pos e]
    · rw [if_neg e] at h
      rw [if_neg e, if_neg e]; exact ih h
theorem in_found : ∀ {L : List Nd} {d : Int} {s : Bytes}, inDir L d s ≠ 0 → ∃ a ∈ L, a.num = inDir L d s ∧ a.up = d ∧ a.name = s ∧ a.num ≠ 1
  | [], _, _, h => absurd rfl h
  | a :: r, d, s, h => by
    unfold inDir at h ⊢
    by_cases e : a.up = d ∧ a.name = s ∧ a.num ≠ 1
    · rw [if_pos e]; exact ⟨a, List.mem_cons_self, rfl, e⟩
    · rw [if_neg e] at h ⊢
      obtain ⟨b, hb, h1⟩ := in_found h
      exact ⟨b, List.mem_cons_of_mem _ hb, h1⟩
theorem in_not : ∀ {L : List Nd} {d : Int} {s : Bytes}, (∀ a ∈ L, 1 ≤ a.num) → inDir L d s = 0 → ∀ a ∈ L, a.num ≠ 1 → ¬ (a.up = d ∧ a.name = s)
  | [], _, _, _, _, a, ha, _ => absurd ha (by simp)
  | b :: r, d, s, hp, h, a, ha, h1 => by
    unfold inDir at h
    by_cases e : b.up = d ∧ b.name = s ∧ b.num ≠ 1
    · rw [if_pos e] at h
      have := hp b List.mem_cons_self
      omega
    · rw [if_neg e] at h
      rcases List.mem_cons.1 ha with rfl | ha
      · exact fun e2 => e ⟨e2.1, e2.2, h1⟩
      · exact in_not (fun c hc => hp c (List.mem_cons_of_mem _ hc)) h a ha h1
theorem in_pos {L : List Nd} {d : Int} {s : Bytes} (hp : ∀ a ∈ L, 1 ≤ a.num) : 0 ≤ inDir L d s := by
  by_cases h : inDir L d s = 0
  · omega
  · obtain ⟨a, ha, e, _⟩ := in_found h
    have := hp a ha; omega
theorem dir_zero {L : List Nd} {n : Int} (h : dirErr L n = 0) : (nodeAt L n).kind = 1 := by
  unfold dirErr at h
  split at h
  · omega
  · split at h
    · assumption
    · omega
theorem new_right : Right new where
  root := ⟨[], rfl⟩
  rise := List.pairwise_singleton _ _
  ends := by intro a ha; simp [new] at ha; subst ha; exact ⟨by decide, by decide⟩
  kind := by intro a ha; simp [new] at ha; subst ha; decide
  up := by intro a ha; simp [new] at ha; subst ha; rfl
  once := by intro a ha b hb h1; simp [new] at ha; subst ha; exact absurd rfl h1
  low := by intro a ha; simp [new] at ha; subst ha; exact ⟨0, rfl⟩
theorem Right.at_root {t : Tr} (h : Right t) : nodeAt t.L 1 = ⟨1, 1, [], 1, []⟩ := by
  obtain ⟨r, e⟩ := h.root
  rw [e]; rfl
/-- a node's directory is a node of the tree -/
theorem Right.up_mem {t : Tr} (h : Right t) {a : Nd} (ha : a ∈ t.L) : ∃ b ∈ t.L, b.num = a.up ∧ b.kind = 1 := by
  have hk := h.up a ha
  have := at_some (L := t.L) (n := a.up) (by rw [hk]; decide)
  exact ⟨_, this.1, this.2, hk⟩
theorem Right.at_ {t : Tr} (h : Right t) {a : Nd} (ha : a ∈ t.L) : nodeAt t.L a.num = a := at_mem h.rise ha
theorem Right.upOf_ {t : Tr} (h : Right t) {a : Nd} (ha : a ∈ t.L) : upOf t.L a.num = a.up := by unfold upOf; rw [h.at_ ha]
/-- another list in which the nodes on the way up lead on as they did -/
theorem low_same {t : Tr} (h : Right t) {M : List Nd} (P : Int → Prop) (hs : ∀ a ∈ t.L, P a.num → upOf M a.num = a.up ∧ (a.num ≠ 1 → P a.up)) : ∀ (k : Nat) {a : Nd}, a ∈ t.L → P a.num → upN t.L k a.num = 1 → ∃ j, upN M j a.num = 1
  | 0, a, _, _, hk => ⟨0, hk⟩
  | k + 1, a, ha, hp, hk => by
    by_cases h1 : a.num = 1
    · exact ⟨0, h1⟩
    · have hk' : upN t.L k a.up = 1 := by rw [← h.upOf_ ha]; exact hk
      obtain ⟨b, hb, e, _⟩ := h.up_mem ha
      obtain ⟨e1, e2⟩ := hs a ha hp
      obtain ⟨j, hj⟩ := low_same h P hs k hb (by rw [e]; exact e2 h1) (by rw [e]; exact hk')
      rw [e] at hj
      exact ⟨j + 1, by show upN M j (upOf M a.num) = 1; rw [e1]; exact hj⟩

theorem put_right {t : Tr} (h : Right t) {d kind : Int} {name data : Bytes} : Right (put t d name kind data).1 := by
  unfold put
  split
  · exact h
  · rename_i he
    have he : putErr t d name kind data = 0 := by simpa using he
    have hd : dirErr t.L d = 0 := by
      unfold putErr at he
      split at he
      · rename_i h1; exact absurd he h1
      · rename_i h1; simpa using h1
    have hin : inDir t.L d name = 0 := by
      have := in_pos (L := t.L) (d := d) (s := name) (fun a ha => (h.ends a ha).1)
      unfold putErr at he
      split at he
      · omega
      · split at he
        · omega
        · split at he
          · omega
          · omega
    have hk : kind ≠ 0 := by
      intro e
      subst e
      unfold putErr at he
      rw [if_neg (by simpa using hd)] at he
      split at he
      · omega
      · split at he
        · omega
        · rw [if_pos (by unfold mayErr; rw [if_pos (Or.inl (by decide))]; decide)] at he
          unfold mayErr at he
          rw [if_pos (Or.inl (by decide))] at he
          omega
    have hdk := dir_zero hd
    have hds := at_some (L := t.L) (n := d) (by rw [hdk]; decide)
    have hnum : ∀ a ∈ t.L, a.num ≠ t.last + 1 := fun a ha => by have := (h.ends a ha).2; omega
    have hdl : d ≠ t.last + 1 := by rw [← hds.2]; exact hnum _ hds.1
    obtain ⟨r, hr⟩ := h.root
    obtain ⟨x, hx⟩ : ∃ x : Nd, (⟨t.last + 1, d, name, kind, data⟩ : Nd) = x := ⟨_, rfl⟩
    have hxn : x.num = t.last + 1 := by rw [← hx]
    have hxu : x.up = d := by rw [← hx]
    have hl1 : 1 ≤ t.last := by have := h.ends ⟨1, 1, [], 1, []⟩ (by rw [hr]; exact List.mem_cons_self); exact this.2
    have hat : ∀ a ∈ t.L, nodeAt (t.L ++ [x]) a.num = nodeAt t.L a.num := fun a ha => at_append (by rw [hxn]; exact hnum a ha)
    have hup : ∀ a ∈ t.L, nodeAt (t.L ++ [x]) a.up = nodeAt t.L a.up := fun a ha => by
      obtain ⟨b, hb, e, _⟩ := h.up_mem ha
      rw [← e]; exact hat b hb
    have hlow : ∀ a ∈ t.L, ∃ k, upN (t.L ++ [x]) k a.num = 1 := fun a ha => by
      obtain ⟨k, hk⟩ := h.low a ha
      exact low_same h (fun _ => True) (fun b hb _ => ⟨by unfold upOf; rw [hat b hb, h.at_ hb], fun _ => trivial⟩) k ha trivial hk
    rw [hx]
    constructor
    · exact ⟨r ++ [x], by show t.L ++ [x] = _; rw [hr]; rfl⟩
    · show (t.L ++ [x]).Pairwise _
      rw [List.pairwise_append]
      refine ⟨h.rise, List.pairwise_singleton _ _, fun a ha b hb => ?_⟩
      simp only [List.mem_singleton] at hb
      subst hb
      rw [hxn]; have := (h.ends a ha).2; omega
    · intro a ha
      show 1 ≤ a.num ∧ a.num ≤ t.last + 1
      rcases List.mem_append.1 ha with ha | ha
      · have := h.ends a ha; omega
      · simp only [List.mem_singleton] at ha; subst ha; omega
    · intro a ha
      rcases List.mem_append.1 ha with ha | ha
      · exact h.kind a ha
      · simp only [List.mem_singleton] at ha; subst ha; rw [← hx]; exact hk
    · intro a ha
      show (nodeAt (t.L ++ [x]) a.up).kind = 1
      rcases List.mem_append.1 ha with ha | ha
      · rw [hup a ha]; exact h.up a ha
      · simp only [List.mem_singleton] at ha; subst ha
        rw [hxu, at_append (by rw [hxn]; exact hdl)]; exact hdk
    · intro a ha b hb ha1 hb1 hu hn
      have hno := in_not (fun a ha => (h.ends a ha).1) hin
      rcases List.mem_append.1 ha with hA | hA <;> rcases List.mem_append.1 hb with hB | hB
      · exact h.once a hA b hB ha1 hb1 hu hn
      · have e := List.mem_singleton.1 hB
        exact absurd ⟨by rw [hu, e, hxu], by rw [hn, e, ← hx]⟩ (hno a hA ha1)
      · have e := List.mem_singleton.1 hA
        exact absurd ⟨by rw [← hu, e, hxu], by rw [← hn, e, ← hx]⟩ (hno b hB hb1)
      · rw [List.mem_singleton.1 hA, List.mem_singleton.1 hB]
    · intro a ha
      show ∃ k, upN (t.L ++ [x]) k a.num = 1
      rcases List.mem_append.1 ha with ha | ha
      · exact hlow a ha
      · simp only [List.mem_singleton] at ha; subst ha
        obtain ⟨k, hk⟩ := hlow _ hds.1
        refine ⟨k + 1, ?_⟩
        show upN (t.L ++ [a]) k (upOf (t.L ++ [a]) a.num) = 1
        unfold upOf
        rw [at_last (by intro b hb; rw [hxn]; exact hnum b hb), hxu, ← hds.2]
        exact hk

/-- a node's bytes alone turned -/
theorem map_right {t : Tr} (h : Right t) {f : Nd → Nd} (hf : ∀ a, (f a).num = a.num ∧ (f a).up = a.up ∧ (f a).name = a.name ∧ (f a).kind = a.kind) (h1 : ∀ a, a.num = 1 → f a = a) : Right ⟨t.L.map f, t.last⟩ := by
  have hn : ∀ a, (f a).num = a.num := fun a => (hf a).1
  have hat : ∀ a ∈ t.L, nodeAt (t.L.map f) a.num = f a := fun a ha => by
    have e := h.at_ ha
    rw [at_map hn (by rw [e]; exact h.kind a ha), e]
  constructor
  · obtain ⟨r, hr⟩ := h.root
    refine ⟨r.map f, ?_⟩
    show t.L.map f = _
    rw [hr, List.map_cons, h1 _ rfl]
  · show (t.L.map f).Pairwise _
    rw [List.pairwise_map]
    exact h.rise.imp fun {a b} hab => by rw [hn, hn]; exact hab
  · intro a ha
    obtain ⟨b, hb, rfl⟩ := List.mem_map.1 ha
    rw [hn]; exact h.ends b hb
  · intro a ha
    obtain ⟨b, hb, rfl⟩ := List.mem_map.1 ha
    rw [(hf b).2.2.2]; exact h.kind b hb
  · intro a ha
    obtain ⟨b, hb, rfl⟩ := List.mem_map.1 ha
    show (nodeAt (t.L.map f) (f b).up).kind = 1
    obtain ⟨c, hc, e, ek⟩ := h.up_mem hb
    rw [(hf b).2.1, ← e, hat c hc, (hf c).2.2.2]; exact ek
  · intro a ha b hb ha1 hb1 hu hnm
    obtain ⟨a', ha', rfl⟩ := List.mem_map.1 ha
    obtain ⟨b', hb', rfl⟩ := List.mem_map.1 hb
    rw [hn] at ha1 hb1
    rw [(hf a').2.1, (hf b').2.1] at hu
    rw [(hf a').2.2.1, (hf b').2.2.1] at hnm
    rw [h.once a' ha' b' hb' ha1 hb1 hu hnm]
  · intro a ha
    obtain ⟨b, hb, rfl⟩ := List.mem_map.1 ha
    rw [hn]
    obtain ⟨k, hk⟩ := h.low b hb
    exact low_same h (fun _ => True) (fun c hc _ => ⟨by unfold upOf; rw [hat c hc, (hf c).2.1], fun _ => trivial⟩) k hb trivial hk
theorem set_right {t : Tr} (h : Right t) {n : Int} {data : Bytes} : Right (set t n data).1 := by
  unfold set
  split
  · exact h
  · rename_i hk0
    split
    · exact h
    · rename_i hk1
      split
      · exact h
      · obtain ⟨hm, hn⟩ := at_some hk0
        show Right (withNode t { nodeAt t.L n with data := data })
        -- the node of that number is the one that is turned
        have e : t.L.map (fun a => if a.num = ({ nodeAt t.L n with data := data } : Nd).num then { nodeAt t.L n with data := data } else a) = t.L.map (fun a => if a.num = n then { a with data := data } else a) := by
          apply List.map_congr_left
          intro a ha
          show (if a.num = (nodeAt t.L n).num then _ else a) = _
          rw [hn]
          by_cases ea : a.num = n
          · rw [if_pos ea, if_pos ea, ← ea, h.at_ ha]
          · rw [if_neg ea, if_neg ea]
        unfold withNode
        rw [e]
        refine map_right h (fun a => ?_) (fun a ha => ?_)
        · split <;> exact ⟨rfl, rfl, rfl, rfl⟩
        · rw [if_neg]
          intro e2
          rw [ha] at e2
          rw [← e2, h.at_root] at hk1
          exact hk1 rfl
theorem mem_put {out : List Ent} {x : Ent} : M06.put out x ≠ [] := by
  unfold M06.put M06.putL
  simp
theorem fold_ne : ∀ (l : List Ent) (out : List Ent), out ≠ [] ∨ l ≠ [] → l.foldl M06.put out ≠ []
  | [], out, h => by rcases h with h | h; exact h; exact absurd rfl h
  | x :: l, out, _ => fold_ne l (M06.put out x) (Or.inl mem_put)
/-- an empty directory holds nothing -/
theorem list_void {L : List Nd} {d : Int} (h : listDir L d = []) : ∀ a ∈ L, a.num ≠ 1 → a.up ≠ d := by
  intro a ha h1 hu
  unfold listDir at h
  refine fold_ne _ [] (Or.inr ?_) h
  intro e
  have hm : entOf a ∈ (L.filter (stands d)).map entOf := List.mem_map.2 ⟨a, List.mem_filter.2 ⟨ha, by simp [stands, hu, h1]⟩, rfl⟩
  rw [e] at hm
  simp at hm
theorem cut_right {t : Tr} (h : Right t) {d : Int} {name : Bytes} : Right (cut t d name).1 := by
  unfold cut
  split
  · exact h
  · split
    · exact h
    · rename_i hn0
      split
      · exact h
      · rename_i hl
        have hl : listDir t.L (inDir t.L d name) = [] := by simpa using hl
        obtain ⟨x, hx, e, _, _, hx1⟩ := in_found hn0
        rw [← e] at hl
        have hv := list_void hl
        rw [← e]
        show Right ⟨t.L.filter (fun a => decide (a.num ≠ x.num)), t.last⟩
        have hmem : ∀ {a : Nd}, a ∈ t.L.filter (fun a => decide (a.num ≠ x.num)) ↔ a ∈ t.L ∧ a.num ≠ x.num := by
          intro a; rw [List.mem_filter]; simp
        have hup : ∀ a ∈ t.L, a.num ≠ x.num → a.up ≠ x.num := fun a ha hne => by
          by_cases h1 : a.num = 1
          · obtain ⟨r, hr⟩ := h.root
            have : a = ⟨1, 1, [], 1, []⟩ := by rw [← h.at_ ha, h1]; exact h.at_root
            rw [this]; exact fun e => hx1 e.symm
          · exact hv a ha h1
        constructor
        · obtain ⟨r, hr⟩ := h.root
          refine ⟨r.filter (fun a => decide (a.num ≠ x.num)), ?_⟩
          show t.L.filter _ = _
          rw [hr, List.filter_cons, if_pos (by simpa using fun e => hx1 e.symm)]
        · exact List.Pairwise.filter _ h.rise
        · intro a ha; exact h.ends a (hmem.1 ha).1
        · intro a ha; exact h.kind a (hmem.1 ha).1
        · intro a ha
          obtain ⟨ha, hne⟩ := hmem.1 ha
          show (nodeAt (t.L.filter _) a.up).kind = 1
          rw [at_filter (hup a ha hne)]
          exact h.up a ha
        · intro a ha b hb
          exact h.once a (hmem.1 ha).1 b (hmem.1 hb).1
        · intro a ha
          obtain ⟨ha, hne⟩ := hmem.1 ha
          obtain ⟨k, hk⟩ := h.low a ha
          refine low_same h (fun n => n ≠ x.num) (fun b hb hbn => ⟨?_, fun _ => hup b hb hbn⟩) k ha hne hk
          unfold upOf
          rw [at_filter hbn, h.at_ hb]

/-! a node in another place -/
theorem upN_add (L : List Nd) : ∀ (i j : Nat) (n : Int), upN L (i + j) n = upN L j (upN L i n)
  | 0, j, n => by rw [Nat.zero_add]; rfl
  | i + 1, j, n => by rw [Nat.succ_add]; exact upN_add L i j (upOf L n)
theorem up_member {t : Tr} (h : Right t) : ∀ (k : Nat) {m : Int}, (∃ a ∈ t.L, a.num = m) → ∃ a ∈ t.L, a.num = upN t.L k m ∧ (0 < k → a.kind = 1)
  | 0, m, ⟨a, ha, e⟩ => ⟨a, ha, e, fun h => absurd h (by omega)⟩
  | k + 1, m, ⟨a, ha, e⟩ => by
    obtain ⟨b, hb, eb, ek⟩ := h.up_mem ha
    have hu : upOf t.L m = b.num := by rw [← e, h.upOf_ ha, eb]
    obtain ⟨c, hc, ec, hk⟩ := up_member h k (m := upOf t.L m) ⟨b, hb, hu.symm⟩
    refine ⟨c, hc, ec, fun _ => ?_⟩
    cases k with
    | zero =>
      have : c = b := by rw [← h.at_ hc, ← h.at_ hb, ec]; show nodeAt t.L (upOf t.L m) = _; rw [hu]
      rw [this]; exact ek
    | succ k => exact hk (by omega)
/-- the way up is the same as long as n isn't met -/
theorem way_same {t : Tr} (h : Right t) {M : List Nd} {n : Int} (hM : ∀ a ∈ t.L, a.num ≠ n → upOf M a.num = a.up) : ∀ (k : Nat) {m : Int}, (∃ a ∈ t.L, a.num = m) → (∀ i, i < k → upN t.L i m ≠ n) → upN M k m = upN t.L k m
  | 0, m, _, _ => rfl
  | k + 1, m, ⟨a, ha, e⟩, hn => by
    have h0 : m ≠ n := hn 0 (by omega)
    obtain ⟨b, hb, eb, _⟩ := h.up_mem ha
    have hu : upOf t.L m = b.num := by rw [← e, h.upOf_ ha, eb]
    have hu2 : upOf M m = upOf t.L m := by rw [← e, hM a ha (by rw [e]; exact h0), h.upOf_ ha]
    show upN M k (upOf M m) = upN t.L k (upOf t.L m)
    rw [hu2]
    exact way_same h hM k ⟨b, hb, hu.symm⟩ (fun i hi => hn (i + 1) (by omega))
theorem placed_right {t : Tr} (h : Right t) {x : Nd} (hx : x ∈ t.L) (h1 : x.num ≠ 1) {dst : Int} {nw : Bytes} (hd : (nodeAt t.L dst).kind = 1) (hno : inDir t.L dst nw = 0) (hin : x.kind = 1 → ¬ Inside t.L x.num dst) : Right (placed t x dst nw) := by
  obtain ⟨y, hy⟩ : ∃ y : Nd, ({ x with up := dst, name := nw } : Nd) = y := ⟨_, rfl⟩
  have yn : y.num = x.num := by rw [← hy]
  have yk : y.kind = x.kind := by rw [← hy]
  have yu : y.up = dst := by rw [← hy]
  obtain ⟨f, hf⟩ : ∃ f : Nd → Nd, (fun a => if a.num = y.num then y else a) = f := ⟨_, rfl⟩
  have fx : ∀ a, a.num = x.num → f a = y := fun a ha => by rw [← hf]; show (if a.num = y.num then y else a) = y; rw [if_pos (by rw [yn]; exact ha)]
  have fo : ∀ a, a.num ≠ x.num → f a = a := fun a ha => by rw [← hf]; show (if a.num = y.num then y else a) = a; rw [if_neg (by rw [yn]; exact ha)]
  have fnum : ∀ a, (f a).num = a.num := fun a => by
    by_cases e : a.num = x.num
    · rw [fx a e, yn, e]
    · rw [fo a e]
  have fkind : ∀ a ∈ t.L, (f a).kind = a.kind := fun a ha => by
    by_cases e : a.num = x.num
    · have : a = x := by rw [← h.at_ ha, ← h.at_ hx, e]
      rw [fx a e, yk, this]
    · rw [fo a e]
  have hat : ∀ a ∈ t.L, nodeAt (t.L.map f) a.num = f a := fun a ha => by
    have e := h.at_ ha
    rw [at_map fnum (by rw [e]; exact h.kind a ha), e]
  have hds := at_some (L := t.L) (n := dst) (by rw [hd]; decide)
  have hL : (placed t x dst nw).L = t.L.map f := by
    show t.L.map (fun a => if a.num = ({ x with up := dst, name := nw } : Nd).num then { x with up := dst, name := nw } else a) = _
    rw [hy, hf]
  have hM : ∀ a ∈ t.L, a.num ≠ x.num → upOf (t.L.map f) a.num = a.up := fun a ha e => by unfold upOf; rw [hat a ha, fo a e]
  have hMx : upOf (t.L.map f) x.num = dst := by unfold upOf; rw [hat x hx, fx x rfl, yu]
  have mem_dst : ∃ a ∈ t.L, a.num = dst := ⟨_, hds.1, hds.2⟩
  -- from dst the way up doesn't meet the node
  have hdst : ∃ K, upN (t.L.map f) K dst = 1 := by
    obtain ⟨k, hk, hl⟩ := least (h.low _ hds.1)
    rw [hds.2] at hk hl
    refine ⟨k, ?_⟩
    rw [way_same h hM k mem_dst (fun i hi e => ?_)]
    · exact hk
    · by_cases hxk : x.kind = 1
      · exact hin hxk ⟨i, e, fun j hj e2 => by have := hl j e2; omega⟩
      · cases i with
        | zero =>
          have e : dst = x.num := e
          rw [e, h.at_ hx] at hd
          exact hxk hd
        | succ i =>
          obtain ⟨c, hc, ec, ek⟩ := up_member h (i + 1) mem_dst
          have : c = x := by rw [← h.at_ hc, ← h.at_ hx, ec, e]
          exact hxk (by rw [← this]; exact ek (by omega))
  constructor
  · obtain ⟨r, hr⟩ := h.root
    refine ⟨r.map f, ?_⟩
    rw [hL, hr, List.map_cons, fo _ (fun e => h1 e.symm)]
  · rw [hL, List.pairwise_map]
    exact h.rise.imp fun {a b} hab => by rw [fnum, fnum]; exact hab
  · intro a ha
    rw [hL] at ha
    obtain ⟨b, hb, rfl⟩ := List.mem_map.1 ha
    rw [fnum]; exact h.ends b hb
  · intro a ha
    rw [hL] at ha
    obtain ⟨b, hb, rfl⟩ := List.mem_map.1 ha
    rw [fkind b hb]; exact h.kind b hb
  · intro a ha
    rw [hL] at ha ⊢
    obtain ⟨b, hb, rfl⟩ := List.mem_map.1 ha
    by_cases e : b.num = x.num
    · rw [fx b e, yu, ← hds.2, hat _ hds.1, fkind _ hds.1, ]; exact hd
    · obtain ⟨c, hc, ec, ek⟩ := h.up_mem hb
      rw [fo b e, ← ec, hat c hc, fkind c hc]; exact ek
  · intro a ha b hb ha1 hb1 hu hn
    rw [hL] at ha hb
    have hnot := in_not (fun a ha => (h.ends a ha).1) hno
    obtain ⟨a', ha', rfl⟩ := List.mem_map.1 ha
    obtain ⟨b', hb', rfl⟩ := List.mem_map.1 hb
    rw [fnum] at ha1 hb1
    have yname : y.name = nw := by rw [← hy]
    by_cases ea : a'.num = x.num <;> by_cases eb : b'.num = x.num
    · rw [fx a' ea, fx b' eb]
    · rw [fx a' ea, fo b' eb] at hu hn
      exact absurd ⟨by rw [← hu, yu], by rw [← hn, yname]⟩ (hnot b' hb' hb1)
    · rw [fo a' ea, fx b' eb] at hu hn
      exact absurd ⟨by rw [hu, yu], by rw [hn, yname]⟩ (hnot a' ha' ha1)
    · rw [fo a' ea, fo b' eb] at hu hn
      rw [fo a' ea, fo b' eb]
      exact h.once a' ha' b' hb' ha1 hb1 hu hn
  · intro a ha
    rw [hL] at ha ⊢
    obtain ⟨b, hb, rfl⟩ := List.mem_map.1 ha
    rw [fnum]
    obtain ⟨k, hk⟩ := h.low b hb
    by_cases hm : ∃ i, upN t.L i b.num = x.num
    · obtain ⟨i, hi, hl⟩ := least hm
      obtain ⟨K, hK⟩ := hdst
      refine ⟨i + (1 + K), ?_⟩
      rw [upN_add, way_same h hM i ⟨b, hb, rfl⟩ (fun j hj e => by have := hl j e; omega), hi, upN_add]
      show upN (t.L.map f) K (upOf (t.L.map f) x.num) = 1
      rw [hMx]; exact hK
    · refine ⟨k, ?_⟩
      rw [way_same h hM k ⟨b, hb, rfl⟩ (fun i _ e => hm ⟨i, e⟩)]
      exact hk

/-- what Cut leaves when it works -/
theorem cut_works {t : Tr} {d : Int} {name : Bytes} (h : (cut t d name).2 = 0) : inDir t.L d name ≠ 0 ∧ listDir t.L (inDir t.L d name) = [] ∧ (cut t d name).1 = ⟨t.L.filter (fun a => decide (a.num ≠ inDir t.L d name)), t.last⟩ := by
  unfold cut at h ⊢
  split
  · rename_i h1; rw [if_pos h1] at h; exact absurd h h1
  · rename_i h1
    rw [if_neg h1] at h
    split
    · rename_i h2; rw [if_pos h2] at h; simp at h
    · rename_i h2
      rw [if_neg h2] at h
      split
      · rename_i h3; rw [if_pos h3] at h; simp at h
      · rename_i h3
        exact ⟨h2, by simpa using h3, rfl⟩
theorem never_self {t : Tr} (h : Right t) {a : Nd} (ha : a ∈ t.L) (h1 : a.num ≠ 1) : a.up ≠ a.num := by
  intro e
  obtain ⟨k, hk⟩ := h.low a ha
  have : ∀ k, upN t.L k a.num = a.num := by
    intro k
    induction k with
    | zero => rfl
    | succ k ih => show upN t.L k (upOf t.L a.num) = _; rw [h.upOf_ ha, e]; exact ih
  rw [this k] at hk
  exact h1 hk
theorem root_is {t : Tr} (h : Right t) {a : Nd} (ha : a ∈ t.L) (e : a.num = 1) : a = ⟨1, 1, [], 1, []⟩ := by rw [← h.at_ ha, e]; exact h.at_root
theorem moveOn_right {t : Tr} (h : Right t) {x : Nd} (hx : x ∈ t.L) (h1 : x.num ≠ 1) {dst : Int} {nw : Bytes} (hd : (nodeAt t.L dst).kind = 1) (hin : x.kind = 1 → ¬ Inside t.L x.num dst) : Right (moveOn t x.num dst nw).1 := by
  have hpos : ∀ a ∈ t.L, 1 ≤ a.num := fun a ha => (h.ends a ha).1
  unfold moveOn
  rw [h.at_ hx]
  split
  · exact h
  · rename_i hne
    split
    · split
      · exact h
      · split
        · exact h
        · split
          · exact h
          · rename_i hc
            have hc : (cut t dst nw).2 = 0 := by simpa using hc
            have hr := cut_right h (d := dst) (name := nw)
            obtain ⟨ho, hl, e⟩ := cut_works hc
            rw [e] at hr ⊢
            obtain ⟨o, hom, eo, ou, on, o1⟩ := in_found ho
            rw [← eo] at hl hne hr ⊢
            have hv := list_void hl
            have hmem : ∀ {a : Nd}, a ∈ t.L.filter (fun a => decide (a.num ≠ o.num)) ↔ a ∈ t.L ∧ a.num ≠ o.num := by
              intro a; rw [List.mem_filter]; simp
            have hod : dst ≠ o.num := by rw [← ou]; exact never_self h hom o1
            have hds := at_some (L := t.L) (n := dst) (by rw [hd]; decide)
            refine placed_right hr (hmem.2 ⟨hx, fun e => hne e.symm⟩) h1 (by show (nodeAt (t.L.filter _) dst).kind = 1; rw [at_filter hod]; exact hd) ?_ ?_
            · show inDir (t.L.filter (fun a => decide (a.num ≠ o.num))) dst nw = 0
              by_cases hz : inDir (t.L.filter (fun a => decide (a.num ≠ o.num))) dst nw = 0
              · exact hz
              · obtain ⟨b, hb, _, bu, bn, b1⟩ := in_found hz
                obtain ⟨hb, hbo⟩ := hmem.1 hb
                exact absurd (congrArg Nd.num (h.once b hb o hom b1 o1 (by rw [bu, ou]) (by rw [bn, on]))) hbo
            · intro hk hi
              apply hin hk
              show Inside t.L x.num dst
              -- the way up from dst is the same in both
              have way : ∀ (k : Nat) {m : Int}, (∃ a ∈ t.L, a.num = m ∧ a.num ≠ o.num) → upN (t.L.filter (fun a => decide (a.num ≠ o.num))) k m = upN t.L k m := by
                intro k
                induction k with
                | zero => intro m _; rfl
                | succ k ih =>
                  rintro m ⟨a, ha, em, ho2⟩
                  have e1 : upOf (t.L.filter (fun a => decide (a.num ≠ o.num))) m = upOf t.L m := by
                    unfold upOf; rw [← em, at_filter ho2]
                  show upN _ k (upOf _ m) = upN t.L k (upOf t.L m)
                  rw [e1]
                  obtain ⟨b, hb, eb, _⟩ := h.up_mem ha
                  refine ih ⟨b, hb, by rw [← em, h.upOf_ ha, eb], ?_⟩
                  rw [eb]
                  by_cases ha1 : a.num = 1
                  · rw [root_is h ha ha1]; exact fun e => o1 e.symm
                  · exact hv a ha ha1
              obtain ⟨j, hj, hb⟩ := hi
              have md : ∃ a ∈ t.L, a.num = dst ∧ a.num ≠ o.num := ⟨_, hds.1, hds.2, by rw [hds.2]; exact hod⟩
              have hj : upN (t.L.filter (fun a => decide (a.num ≠ o.num))) j dst = x.num := hj
              have hb : ∀ i, i < j → upN (t.L.filter (fun a => decide (a.num ≠ o.num))) i dst ≠ 1 := hb
              rw [way j md] at hj
              exact ⟨j, hj, fun i hi => by have := hb i hi; rw [way i md] at this; exact this⟩
    · rename_i hz
      have hz0 : inDir t.L dst nw = 0 := by have := in_pos (L := t.L) (d := dst) (s := nw) hpos; omega
      exact placed_right h hx h1 hd hz0 hin
/-- what the checks of Move tell -/
theorem move_checked {L : List Nd} {src dst : Int} {name nw : Bytes} (h : moveErr L src name dst nw = 0) : dirErr L src = 0 ∧ dirErr L dst = 0 ∧ inDir L src name ≠ 0 ∧ check nw = 0 := by
  unfold moveErr at h
  split at h
  · rename_i h1; exact absurd h h1
  · rename_i h1
    split at h
    · rename_i h2; exact absurd h h2
    · rename_i h2
      split at h
      · exact absurd h (by decide)
      · rename_i h3
        exact ⟨by simpa using h1, by simpa using h2, h3, h⟩
theorem move_right {t : Tr} (h : Right t) {src dst : Int} {name nw : Bytes} : Right (move t src name dst nw).1 := by
  unfold move
  split
  · exact h
  · rename_i he
    obtain ⟨_, hd, hn, _⟩ := move_checked (by simpa using he)
    obtain ⟨x, hx, e, _, _, hx1⟩ := in_found hn
    split
    · exact h
    · rename_i hi
      rw [← e] at hi ⊢
      rw [h.at_ hx] at hi
      exact moveOn_right h hx hx1 (dir_zero hd) (fun hk hin => hi ⟨hk, hin⟩)
/-- from a directory upwards Root is come to -/
theorem Right.reach {t : Tr} (h : Right t) {n : Int} (hk : (nodeAt t.L n).kind ≠ 0) : ∃ k, upN t.L k n = 1 := by
  obtain ⟨hm, e⟩ := at_some hk
  have := h.low _ hm
  rw [e] at this
  exact this
end Go.Proofs.YtmbpgjncioegdaaGreatDoor.M07
/-
  Rows of texts that a call makes: one text more, what stays below; for this program's numbering. No condition but those that each theorem bears.
-/
namespace Go.Proofs.YtmbpgjncioegdaaGreatDoor.Strs
open Go Go.RowKit
open Go.Proofs.YtmbpgjncioegdaaGreatDoor.Kit (mk_bytes)

theorem text_info : (Tryz.prog.info? 9).map (fun i => (i.zero, i.size, i.bytes)) = some (some (.string ⟨#[]⟩), 1, 16) := by kernel_rfl
theorem own_more {w : World} {base : Nat} {v : Value} {out : List (List UInt8)} {now : ByteArray} (h : w.ownsRow base 9 1 v (out.length + 1) (out.map strV ++ [.string now])) : w.ownsRow base 9 1 v (out ++ [now.data.toList]).length ((out ++ [now.data.toList]).map strV) := by
  have e : (out ++ [now.data.toList]).map strV = out.map strV ++ [.string now] := by
    rw [List.map_append]
    show _ ++ [strV now.data.toList] = _
    unfold strV
    rw [mk_bytes]
  rw [e, List.length_append]
  exact h
theorem below_more {w wr w1 : World} {o : Obj} {v : Value} {n : Nat} {xs : List Value} {e : TypeId} (hb : Below w.heap.size w wr) (hown : wr.ownsRow w.heap.size e 1 v n xs) (hg : (wr.alloc o).grownBy w1 v.ownBlock) : Below w.heap.size w w1 :=
  (hb.alloc hb.size o).grown hg (by have := hb.size; simp; omega) (fun k hk => (hown.lt k hk).1)
/-- a row's last one left out -/
theorem own_less {w : World} {base : Nat} {e : TypeId} {v : Value} {n : Nat} {xs : List Value} (h : w.ownsRow base e 1 v (n + 1) xs) : ∃ g c, v = .slice (some ⟨g, 0, none⟩) (n + 1) c ∧ n + 1 ≤ c ∧ c ≤ maxLen ∧ w.ownsRow base e 1 (.slice (some ⟨g, 0, none⟩) n c) n (xs.take n) := by
  obtain ⟨hl, hr⟩ := h
  rcases hr with ⟨_, h0⟩ | ⟨g, cap, cur, rfl, hg, hh, hn, hcap, hsz, htk⟩
  · omega
  · refine ⟨g, cap, rfl, hn, hcap, by rw [List.length_take]; omega, Or.inr ⟨g, cap, cur, rfl, hg, hh, by omega, hcap, hsz, ?_⟩⟩
    rw [← htk, List.take_take]
    congr 1; omega
end Go.Proofs.YtmbpgjncioegdaaGreatDoor.Strs
/-
  Layer 3 (name), walks: the plain answers Check, Plain and Find: what each returns at every argument; the world as it was, but for draws.
-/
namespace Go.Proofs.YtmbpgjncioegdaaGreatDoor.W03
set_option maxRecDepth 100000
open Go Go.RowKit Go.Proofs.YtmbpgjncioegdaaGreatDoor.Strs Go.Proofs.YtmbpgjncioegdaaGreatDoor.M03
open Go.Proofs.YtmbpgjncioegdaaGreatDoor.Kit (ret_str ret_int ret_bool mk_bytes ba_ext bytes_nil bytes_cons byte_get take_next take_end list_full list_ne list_none list_nil byte_eq byte_ne head_of below_draws)

theorem check_empty {s : ByteArray} (h : ¬ 0 < s.size) : (5 : Int) = check s.data.toList := by
  unfold check; rw [← Lib.size_eq, if_pos (by omega)]
theorem check_long {s : ByteArray} (_h0 : 0 < s.size) (h : (64 : Int) < s.size) : (11 : Int) = check s.data.toList := by
  unfold check; rw [← Lib.size_eq, if_neg (by omega), if_pos (by omega)]
theorem check_bad {s : ByteArray} {k : Nat} (h0 : 0 < s.size) (h : (s.size : Int) ≤ 64) (hk : k < s.size) (hb : badByte s[k] = true) : (11 : Int) = check s.data.toList := by
  have : s.data.toList.any badByte = true := by
    rw [List.any_eq_true]
    have hk2 : k < s.data.toList.length := by rw [← Lib.size_eq]; exact hk
    exact ⟨s.data.toList[k], List.getElem_mem hk2, hb⟩
  unfold check; rw [← Lib.size_eq, if_neg (by omega), if_neg (by omega), if_pos this]
theorem check_end {s : ByteArray} {k : Nat} (h0 : 0 < s.size) (h : (s.size : Int) ≤ 64) (hk : ¬ k < s.size) (hb : (s.data.toList.take k).any badByte = false) : check s.data.toList = if s.data.toList = [46] ∨ s.data.toList = [46, 46] then 6 else 0 := by
  rw [take_end s k hk] at hb
  unfold check; rw [← Lib.size_eq, if_neg (by omega), if_neg (by omega), if_neg (by rw [hb]; decide)]
theorem any_next {s : ByteArray} {k : Nat} (hk : k < s.size) (h : (s.data.toList.take k).any badByte = false) (hb : badByte s[k] = false) : (s.data.toList.take (k + 1)).any badByte = false := by
  rw [take_next s k hk, List.any_append, h]; simp [hb]

set_option maxHeartbeats 400000 in
theorem refCheck_any (s : ByteArray) (w : World) :
    Calls Tryz.prog 50 #[.string s] w fun e w' => e = .returned (.int .i64 (check s.data.toList)) ∧ w' = w := by
  by_cases h0 : 0 < s.size
  · have z1 : ((s.size : Int) == 0) = false := by rw [beq_eq_false_iff_ne]; omega
    by_cases h64 : (64 : Int) < s.size
    · have HE := Lib.hid (check_long h0 h64)
      go_enter Tryz.func50, Tryz.ntmps50
      go_wp2
      go_ret
      exact ⟨ret_int HE.out, rfl⟩
    · have h65 : (s.size : Int) ≤ 64 := by omega
      clear h64
      go_enter Tryz.func50, Tryz.ntmps50
      go_wp2
      go_loop [3] (fun i => ∃ k : Nat, k ≤ s.size ∧ i = .int .i64 k ∧ Hid ((s.data.toList.take k).any badByte = false)) (fun i => s.size - (intOf i).toNat)
      case atStart => exact ⟨0, Nat.zero_le _, rfl, rfl⟩
      case round =>
        obtain ⟨k, hk, rfl, ha⟩ := hrel
        by_cases hlt : k < s.size
        · by_cases hb0 : (s[k].toNat : Int) = 0
          · have HB := Lib.hid (check_bad h0 h65 hlt (by rw [byte_eq (d := 0) hb0]; rfl))
            have t0 : ((s[k].toNat : Int) == 0) = true := by rw [beq_iff_eq]; exact hb0
            clear hb0
            go_wp2
            go_ret
            exact ⟨ret_int HB.out, rfl⟩
          · have t0 : ((s[k].toNat : Int) == 0) = false := by rw [beq_eq_false_iff_ne]; exact hb0
            by_cases hb47 : (s[k].toNat : Int) = 47
            · have HB := Lib.hid (check_bad h0 h65 hlt (by rw [byte_eq (d := 47) hb47]; rfl))
              have t47 : ((s[k].toNat : Int) == 47) = true := by rw [beq_iff_eq]; exact hb47
              clear hb0 hb47
              go_wp2
              go_ret
              exact ⟨ret_int HB.out, rfl⟩
            · have t47 : ((s[k].toNat : Int) == 47) = false := by rw [beq_eq_false_iff_ne]; exact hb47
              have HB := Lib.hid (any_next hlt ha.out (by have a1 := byte_ne (d := 0) hb0; have a2 := byte_ne (d := 47) hb47; simp [badByte, a1, a2]))
              clear hb0 hb47
              go_wp2
              go_round
              case rel => exact ⟨k + 1, by omega, by go_num, HB⟩
              case measure => simp [intOf]; omega
        · have HE := Lib.hid (check_end h0 h65 hlt ha.out)
          cases t1 : (s.toList == [46]) with
          | true =>
            have HX := Lib.hid (beq_iff_eq.1 t1)
            go_wp2
            go_ret
            exact ⟨ret_int (by rw [HE.out, ← Lib.toList_data, HX.out]; rfl), rfl⟩
          | false =>
            cases t2 : (s.toList == [46, 46]) with
            | true =>
              have HX := Lib.hid (beq_iff_eq.1 t2)
              go_wp2
              go_ret
              exact ⟨ret_int (by rw [HE.out, ← Lib.toList_data, HX.out]; rfl), rfl⟩
            | false =>
              have HX := Lib.hid (beq_eq_false_iff_ne.1 t1)
              have HY := Lib.hid (beq_eq_false_iff_ne.1 t2)
              go_wp2
              go_ret
              exact ⟨ret_int (by rw [HE.out, ← Lib.toList_data, if_neg (fun e => by rcases e with e | e; exact HX.out e; exact HY.out e)]), rfl⟩
  · have z1 : ((s.size : Int) == 0) = true := by rw [beq_iff_eq]; omega
    have HE := Lib.hid (check_empty h0)
    go_enter Tryz.func50, Tryz.ntmps50
    go_wp2
    go_ret
    exact ⟨ret_int HE.out, rfl⟩
end Go.Proofs.YtmbpgjncioegdaaGreatDoor.W03
/-
  Layer 3 (name), walks: the plain answer's Find: where a text stands in a slice of texts, and whether it is there; the world as it was, but for draws.
-/
namespace Go.Proofs.YtmbpgjncioegdaaGreatDoor.W03
open Go Go.RowKit Go.Proofs.YtmbpgjncioegdaaGreatDoor.Strs Go.Proofs.YtmbpgjncioegdaaGreatDoor.M03
open Go.Proofs.YtmbpgjncioegdaaGreatDoor.Kit (below_draws ba_ext)

theorem less_bytes (a b : ByteArray) : Op.bytesLess a.toList b.toList = decide (lt a.data.toList b.data.toList) := by rw [Lib.toList_data, Lib.toList_data, less_cmp]
theorem same_bytes (a b : ByteArray) : (a.toList == b.toList) = decide (a.data.toList = b.data.toList) := by
  rw [Lib.toList_data, Lib.toList_data]
  by_cases h : a.data.toList = b.data.toList
  · simp [h]
  · rw [decide_eq_false h, beq_eq_false_iff_ne]; exact h
theorem ret_place {a b : Int} {c d : Bool} (h : a = b) (h2 : c = d) : Ending.returned (.tuple #[.int .i64 a, .bool c]) = .returned (.tuple #[.int .i64 b, .bool d]) := by rw [h, h2]

end Go.Proofs.YtmbpgjncioegdaaGreatDoor.W03
/-
  Layer 6 (ents), walks: the plain answers Right, all, Find, Cut: what each returns; new memory may be laid, nothing that was there is changed.
-/
namespace Go.Proofs.YtmbpgjncioegdaaGreatDoor.W06
set_option maxRecDepth 100000
open Go Go.RowKit Go.Proofs.YtmbpgjncioegdaaGreatDoor.Strs Go.Proofs.YtmbpgjncioegdaaGreatDoor.Recs Go.Proofs.YtmbpgjncioegdaaGreatDoor.M06
open Go.Proofs.YtmbpgjncioegdaaGreatDoor.M03 (lt)
open Go.Proofs.YtmbpgjncioegdaaGreatDoor.W03 (less_bytes same_bytes)
open Go.Proofs.YtmbpgjncioegdaaGreatDoor.Kit (ret_str ret_bool ret_int mk_of mk_bytes ba_ext below_draws on)

/-- an entry's cells -/
def entC (e : Ent) : List Value := [strV e.1, .int .i64 e.2]
theorem entC_len (e : Ent) : (entC e).length = 2 := rfl
abbrev Ents (B : Nat) (w : World) (v : Value) (L : List Ent) : Prop := Recs entC 2 B w v L
theorem Ents.at_ {B : Nat} {w : World} {L : List Ent} {A : Option Addr} {n c : Nat} (h : Ents B w (.slice A n c) L) {k : Nat} (hk : k < n) : ∃ (b o : Nat) (hl : k < L.length) (s : ByteArray), A = some ⟨b, o, none⟩ ∧ b < B ∧ s.data.toList = (L[k]).1 ∧ w.cell? ⟨b, o + k * 2, none⟩ = some (.string s) ∧ w.cell? ⟨b, o + k * 2 + 1, none⟩ = some (.int .i64 (L[k]).2) := by
  obtain ⟨b, o, hl, rfl, hb, hc⟩ := Recs.flat_ h entC_len (by omega) hk
  exact ⟨b, o, hl, ⟨(L[k]).1.toArray⟩, rfl, hb, rfl, hc 0 (by omega), hc 1 (by omega)⟩

set_option maxHeartbeats 400000 in
theorem refRight_any (v : Value) (L : List Ent) (B : Nat) (w : World) (h : Ents B w v L) (hn : L.length ≤ 1099511627776) :
    Calls Tryz.prog 120 #[v] w fun e w' => e = .returned (.bool (right L)) ∧ ∃ n, w' = w.drewN n := by
  obtain ⟨A, c, rfl, hA1, hA2⟩ := h.form
  have H := Lib.hid h
  unfold maxLen at hA2
  clear h
  generalize hm : L.length = n at *
  have HM := Lib.hid hm
  clear hm
  go_enter Tryz.func120, Tryz.ntmps120
  go_wp2
  go_loopw [3] (fun i wr => ∃ k : Nat, k ≤ n ∧ i = .int .i64 k ∧ Hid (right L = right (L.drop k)) ∧ ∃ q, wr = w.drewN q) (fun i _ => n - (intOf i).toNat)
  case atStart => exact ⟨0, Nat.zero_le _, rfl, rfl, 0, rfl⟩
  case round =>
    obtain ⟨k, hk, rfl, hr, q, rfl⟩ := hrel
    by_cases hlt : k + 1 < n
    · obtain ⟨b, o, hl1, s, rfl, hbl, hs, hc0, hc1⟩ := Ents.at_ H.out (k := k) (by omega)
      obtain ⟨b', o', hl2, t, he, hbl2, ht, hd0, hd1⟩ := Ents.at_ H.out (k := k + 1) hlt
      cases he
      have HS := Lib.hid (right_step (L := L) (k := k) hl2)
      rw [← hs, ← ht, ← hr.out] at HS
      have hlb := less_bytes s t
      clear hs ht
      by_cases hl : lt s.data.toList t.data.toList
      · have t1 : Op.bytesLess s.toList t.toList = true := by rw [hlb]; simpa using hl
        have HX : Hid (right L = right (L.drop (k + 1))) := by have := HS.out; rw [decide_eq_true hl, Bool.true_and] at this; exact this
        clear hlb hl
        go_wp2_with fail
        go_quiet (fail)
        go_wp2_with fail
        go_roundw
        case rel => exact ⟨k + 1, by omega, by go_num, HX, q + nq, by first | rfl | rw [World.drewN_drewN]⟩
        case measure => simp [intOf]; omega
      · have t1 : Op.bytesLess s.toList t.toList = false := by rw [hlb]; simpa using hl
        have HX : Hid (right L = false) := by have := HS.out; rw [decide_eq_false hl, Bool.false_and] at this; exact this
        clear hlb hl
        go_wp2_with fail
        go_quiet (fail)
        go_wp2_with fail
        go_ret
        exact ⟨ret_bool HX.out.symm, q + nq, by first | rfl | rw [World.drewN_drewN]⟩
    · have HX := Lib.hid (hr.out.trans (right_last (by rw [HM.out]; exact hlt)))
      go_wp2_with fail
      go_ret
      exact ⟨ret_bool HX.out.symm, q, rfl⟩
theorem refAll_any (v : Value) (L : List Ent) (B : Nat) (w : World) (h : Ents B w v L) (hn : L.length ≤ 1099511627776) :
    Calls Tryz.prog 102 #[v] w fun e w' => (∃ u, e = .returned u ∧ Ents B w u (all L)) ∧ ∃ n, w' = w.drewN n := by
  have HR := Lib.hid (refRight_any v L B w h hn)
  have H := Lib.hid h
  obtain ⟨A, c, rfl, hA1, hA2⟩ := h.form
  clear h
  cases hr : right L with
  | true =>
    have HA := Lib.hid (all_right hr)
    rw [hr] at HR
    clear hr
    go_enter Tryz.func102, Tryz.ntmps102
    go_wp2_with fail
    refine HR.out.mono ?_
    rintro e w1 ⟨rfl, q, rfl⟩
    go_wp2_with fail
    go_ret
    exact ⟨⟨_, rfl, by rw [HA.out]; exact H.out⟩, q, rfl⟩
  | false =>
    have HA : Hid (all L = []) := by show _ = _; unfold all; rw [hr]; rfl
    rw [hr] at HR
    clear hr
    go_enter Tryz.func102, Tryz.ntmps102
    go_wp2_with fail
    refine HR.out.mono ?_
    rintro e w1 ⟨rfl, q, rfl⟩
    go_wp2_with fail
    go_ret
    exact ⟨⟨_, rfl, by rw [HA.out]; exact recs_nil _ _ _ _⟩, q, rfl⟩
/-! ### Find -/
/-! ### Cut -/
theorem ent_info : (Tryz.prog.info? 103).map (fun i => (i.zero, i.size, i.bytes)) = some (some (.agg #[.string ⟨#[]⟩, .int .i64 0]), 2, 24) := by kernel_rfl
theorem cut_keep {L : List Ent} {s : List UInt8} {k : Nat} (hk : k < L.length) (h : ¬ (L[k]).1 = s) : cutL (L.take (k + 1)) s = cutL (L.take k) s ++ [L[k]] := by
  unfold cutL; rw [take_at hk, List.filter_append]; simp [h]
theorem cut_drop {L : List Ent} {s : List UInt8} {k : Nat} (hk : k < L.length) (h : (L[k]).1 = s) : cutL (L.take (k + 1)) s = cutL (L.take k) s := by
  unfold cutL; rw [take_at hk, List.filter_append]; simp [h]
theorem take_all {L : List Ent} {k : Nat} (hk : ¬ k < L.length) : L.take k = L := List.take_of_length_le (by omega)
/-- a row of entries that a call makes -/
def OwnEnts (w : World) (base : Nat) (v : Value) (L : List Ent) : Prop := w.ownsRow base 103 2 v L.length (L.flatMap entC)
def MakesE (w : World) (L : List Ent) (e : Ending) (w' : World) : Prop := ∃ v, e = .returned v ∧ OwnEnts w' w.heap.size v L ∧ Below w.heap.size w w'
theorem OwnEnts.reads {w : World} {base : Nat} {v : Value} {L : List Ent} (h : OwnEnts w base v L) : Ents w.heap.size w v L := Recs.of_own entC_len rfl h
theorem own_ents_nil (w : World) (base : Nat) : OwnEnts w base (.slice none 0 0) [] := World.ownsRow_nil _ _ _ _
theorem own_ents_more {w : World} {base : Nat} {v : Value} {out : List Ent} {e : Ent} (h : w.ownsRow base 103 2 v (out.length + 1) (out.flatMap entC ++ [strV e.1, .int .i64 e.2])) : OwnEnts w base v (out ++ [e]) := by
  unfold OwnEnts
  rw [List.length_append, List.flatMap_append]
  have : ([e].flatMap entC) = [strV e.1, .int .i64 e.2] := by simp [entC]
  rw [this]; exact h
theorem below_more2 {w wr w1 : World} {base : Nat} {o : Obj} {v : Value} {n size : Nat} {xs : List Value} {e : TypeId} (hb : Below base w wr) (hbase : base ≤ wr.heap.size) (hown : wr.ownsRow base e size v n xs) (hg : (wr.alloc o).grownBy w1 v.ownBlock) : Below base w w1 :=
  (hb.alloc hbase o).grown hg (by simp; omega) (fun k hk => (hown.lt k hk).1)

theorem own_alloc {w : World} {base : Nat} {v : Value} {L : List Ent} (h : OwnEnts w base v L) (o : Obj) : (w.alloc o).ownsRow base 103 2 v L.length (L.flatMap entC) := World.ownsRow.alloc h o
theorem ent_text {s : ByteArray} {e : Ent} (h : s.data.toList = e.1) : Value.string s = strV e.1 := by rw [← h]; unfold strV; rw [mk_bytes]

set_option maxHeartbeats 1000000 in
theorem refCut_any (v : Value) (L : List Ent) (B : Nat) (s : ByteArray) (w : World) (h : Ents B w v L) (hB : B ≤ w.heap.size) (hn : L.length ≤ 1099511627776) :
    Calls Tryz.prog 78 #[v, .string s] w (MakesE w (cut L s.data.toList)) := by
  obtain ⟨i0, hi, hz0, hz1, hz2⟩ := info_parts ent_info
  have HA := Lib.hid (refAll_any v L B w h hn)
  obtain ⟨A0, c0, rfl, -, -⟩ := h.form
  have hn2 := all_len L
  clear h
  unfold cut
  generalize all L = M at *
  go_enter Tryz.func78, Tryz.ntmps78
  go_wp2_with fail
  refine HA.out.mono ?_
  rintro e w1 ⟨⟨u, rfl, hu⟩, q0, rfl⟩
  have H := Lib.hid hu
  obtain ⟨A, c, rfl, hA1, hA2⟩ := hu.form
  unfold maxLen at hA2
  clear hu
  generalize hm : M.length = n at *
  have HM := Lib.hid hm
  clear hm
  go_wp2
  go_loopw [5, 6] (fun u i wr => ∃ (k : Nat) (out : List Ent), k ≤ n ∧ i = .int .i64 k ∧ out.length ≤ k ∧ Hid (out = cutL (M.take k) s.data.toList) ∧ Hid (OwnEnts wr w.heap.size u out) ∧ Below w.heap.size w wr) (fun _ i _ => n - (intOf i).toNat)
  case atStart => exact ⟨0, [], Nat.zero_le _, rfl, Nat.le_refl _, rfl, own_ents_nil _ _, below_draws w q0⟩
  case round =>
    obtain ⟨k, out, hk, rfl, hout, hr, hown, hb⟩ := hrel
    have hbs := hb.size
    by_cases hlt : k < n
    · obtain ⟨b, o, hl1, t, rfl, hbl, ht, hc0, hc1⟩ := Ents.at_ (H.out.below (hb.mono hB)) hlt
      by_cases hts : t.data.toList = s.data.toList
      · have tt : (t.toList == s.toList) = true := by rw [same_bytes]; simpa using hts
        have HX := Lib.hid (hr.out.trans (cut_drop hl1 (ht.symm.trans hts)).symm)
        clear ht hts
        go_wp2_with fail
        go_roundw
        case rel => exact ⟨k + 1, out, by omega, by go_num, by omega, HX, hown, hb⟩
        case measure => simp [intOf]; omega
      · have tt : (t.toList == s.toList) = false := by rw [same_bytes]; simpa using hts
        have HX := Lib.hid (cut_keep (s := s.data.toList) hl1 (fun e => hts (ht.trans e)))
        rw [← hr.out] at HX
        have HT := Lib.hid (ent_text ht)
        clear hts ht
        go_wp2_with (at_builtin; refine wpList_append_own _ rfl (.tmp 22) (.tmp 27) 73 rfl w.heap.size 103 i0 (.agg #[.string ⟨#[]⟩, .int .i64 0]) 2 24 Tryz.underlying73 hi hz0 hz1 hz2 rfl (by decide) _ _ _ rfl (own_alloc hown.out _) ⟨_, 0, none⟩ 1 1 [.string t, .int .i64 (M[k]).2] rfl rfl (cells_new _ [_, _] _) (by intro u hu; simp at hu; rcases hu with rfl | rfl <;> rfl) (by unfold maxLen; omega) (by omega) (by simp; omega) ?_; intro v1 w2 hown1 hgrow1 _)
        rw [HT.out] at hown1
        have B2 := Lib.hid (below_more2 hb hbs hown.out hgrow1)
        have O1 := Lib.hid (own_ents_more hown1)
        clear hown1 hgrow1
        go_wp2
        go_roundw
        case rel => exact ⟨k + 1, _, by omega, by go_num, by rw [List.length_append]; simp; omega, HX.symm, O1, B2.out⟩
        case measure => simp [intOf]; omega
    · have HX := Lib.hid (hr.out.trans (by rw [take_all (by rw [HM.out]; exact hlt)]))
      go_wp2_with fail
      go_ret
      exact ⟨_, rfl, by rw [← HX.out]; exact hown.out, hb⟩
end Go.Proofs.YtmbpgjncioegdaaGreatDoor.W06
