/-
  Texts joined, in build order, each with its own comment and its own conditions: W08Abs, W09Math, W09Abs, W04Parts, StrCut, RecCut, RecAppend.
-/
import Derived.Test.YtmbpgjncioegdaaGreatDoorJ06
import Derived.Test.YtmbpgjncioegdaaGreatDoorJ02
import Derived.WalkSpells
import Derived.WalkLawsBesides
import Derived.BigQuiet
import Derived.Test.YtmbpgjncioegdaaGreatDoorJ01
import Derived.Laws.OwnMore
import Derived.Tactics
/-
  Layer 8 (seek): what the laws ask of the program's calls, as a structure of contracts over any reading of a tree ('Seeks'); the laws' nodes as records, Few; what Made makes. No condition but those that each theorem bears.
-/
namespace Go.Proofs.YtmbpgjncioegdaaGreatDoor.W08
set_option maxRecDepth 100000
open Go Go.RowKit Go.Proofs.YtmbpgjncioegdaaGreatDoor.Strs Go.Proofs.YtmbpgjncioegdaaGreatDoor.Recs Go.Proofs.YtmbpgjncioegdaaGreatDoor.Range
open Go.Proofs.YtmbpgjncioegdaaGreatDoor.M07 (Tr nodeAt inDir Right put put_right)
open Go.Proofs.YtmbpgjncioegdaaGreatDoor.M08
open Go.Proofs.YtmbpgjncioegdaaGreatDoor.W07 (Small Trees)
open Go.Proofs.YtmbpgjncioegdaaGreatDoor.Kit (ret_str ret_bool ret_int mk_of mk_bytes ba_ext below_draws on)

abbrev Bytes := List UInt8
/-- a tree of few nodes, few bytes, names that may be -/
structure Good (t : Tr) : Prop where
  small : Small t
  fit : Fit t
  named : Named t
structure Seeks (Rep : (Nat → Prop) → World → Value → Tr → Prop) : Prop where
  find : ∀ {F w v t}, Rep F w v t → Good t → ∀ (p : ByteArray) (last : Bool), p.size ≤ 1048576 → Calls Tryz.prog 117 #[v, .string p, .bool last] w fun e w' => e = .returned (.tuple #[.int .i64 (M08.find t p.data.toList last).1, .int .i64 (M08.find t p.data.toList last).2]) ∧ Below w.heap.size w w'
  spot : ∀ {F w v t}, Rep F w v t → Good t → ∀ (p : ByteArray), p.size ≤ 1048576 → Calls Tryz.prog 115 #[v, .string p] w fun e w' => e = .returned (.tuple #[.int .i64 (spot t p.data.toList).1, .string ⟨(spot t p.data.toList).2.1.toArray⟩, .int .i64 (spot t p.data.toList).2.2]) ∧ Below w.heap.size w w'
/-- the calls of a nil pointer -/
structure NoSeek : Prop where
  find : ∀ w (p : ByteArray) (last : Bool), Calls Tryz.prog 117 #[.pointer none, .string p, .bool last] w fun e w' => e = .returned (.tuple #[.int .i64 0, .int .i64 1]) ∧ Below w.heap.size w w'
  spot : ∀ w (p : ByteArray), Calls Tryz.prog 115 #[.pointer none, .string p] w fun e w' => e = .returned (.tuple #[.int .i64 0, .string ⟨#[]⟩, .int .i64 1]) ∧ Below w.heap.size w w'

/-! the laws' nodes -/
structure Sn where
  inn : Int
  name : Bytes
  kind : Int
  data : Bytes
def snC (x : Sn) : List Value := [.int .i64 x.inn, strV x.name, .int .i64 x.kind, strV x.data]
theorem snC_len (x : Sn) : (snC x).length = 4 := rfl
abbrev Snodes (B : Nat) (w : World) (v : Value) (L : List Sn) : Prop := Recs snC 4 B w v L
theorem Snodes.at_ {B : Nat} {w : World} {L : List Sn} {A : Option Addr} {n c : Nat} (h : Snodes B w (.slice A n c) L) {k : Nat} (hk : k < n) : ∃ (b o : Nat) (hl : k < L.length), A = some ⟨b, o, none⟩ ∧ b < B ∧ w.cell? ⟨b, o + k * 4, none⟩ = some (.int .i64 (L[k]).inn) ∧ w.cell? ⟨b, o + k * 4 + 1, none⟩ = some (.string ⟨(L[k]).name.toArray⟩) ∧ w.cell? ⟨b, o + k * 4 + 2, none⟩ = some (.int .i64 (L[k]).kind) ∧ w.cell? ⟨b, o + k * 4 + 3, none⟩ = some (.string ⟨(L[k]).data.toArray⟩) := by
  obtain ⟨b, o, hl, rfl, hb, hc⟩ := Recs.flat_ h snC_len (by omega) hk
  exact ⟨b, o, hl, rfl, hb, hc 0 (by omega), hc 1 (by omega), hc 2 (by omega), hc 3 (by omega)⟩
def isFew (l : List Sn) : Bool := l.all (fun x => decide (x.data.length ≤ 2000)) && decide (l.length ≤ 60)
def fewTo (l : List Sn) (k : Nat) : Prop := ∀ x ∈ l.take k, x.data.length ≤ 2000
theorem few_next {l : List Sn} {k : Nat} (hk : k < l.length) (h : fewTo l k) (h2 : (l[k]).data.length ≤ 2000) : fewTo l (k + 1) := by
  intro x hx
  rw [List.take_succ_eq_append_getElem hk] at hx
  rcases List.mem_append.1 hx with hx | hx
  · exact h x hx
  · rw [List.mem_singleton.1 hx]; exact h2
theorem few_end {l : List Sn} {k : Nat} (hk : ¬ k < l.length) (h : fewTo l k) : isFew l = decide (l.length ≤ 60) := by
  unfold fewTo at h
  rw [List.take_of_length_le (by omega)] at h
  unfold isFew
  rw [List.all_eq_true.2 (fun x hx => by simpa using h x hx), Bool.true_and]
theorem few_no {l : List Sn} {k : Nat} (hk : k < l.length) (h2 : ¬ (l[k]).data.length ≤ 2000) : isFew l = false := by
  unfold isFew
  rw [Bool.and_eq_false_iff]
  left
  rw [List.all_eq_false]
  exact ⟨l[k], List.getElem_mem hk, by simpa using h2⟩
theorem few_is {l : List Sn} (h : isFew l = true) : (∀ x ∈ l, x.data.length ≤ 2000) ∧ l.length ≤ 60 := by
  unfold isFew at h
  simp only [Bool.and_eq_true, decide_eq_true_eq, List.all_eq_true] at h
  exact h
set_option maxHeartbeats 1000000 in
theorem few_any (v : Value) (L : List Sn) (B : Nat) (w : World) (h : Snodes B w v L) : Calls Tryz.prog 7 #[v] w fun e w' => e = .returned (.bool (isFew L)) ∧ w' = w := by
  have H := Lib.hid h
  obtain ⟨A, c, rfl, hA1, hA2⟩ := h.form
  unfold maxLen at hA2
  clear h
  generalize hm : L.length = m at *
  have HM := Lib.hid hm
  clear hm
  go_enter Tryz.func7, Tryz.ntmps7
  go_wp2_with fail
  go_loop [3] (fun i => ∃ k : Nat, k ≤ m ∧ i = .int .i64 k ∧ Hid (fewTo L k)) (fun i => m - (intOf i).toNat)
  case atStart => exact ⟨0, Nat.zero_le _, rfl, fun x hx => by simp at hx⟩
  case round =>
    obtain ⟨k, hk, rfl, hr⟩ := hrel
    by_cases hlt : k < m
    · obtain ⟨b, o, hl1, rfl, hbl, hc0, hc1, hc2, hc3⟩ := Snodes.at_ H.out hlt
      by_cases hd : (L[k]).data.length ≤ 2000
      · have HX := Lib.hid (few_next hl1 hr.out hd)
        have td : ((L[k]).data.length : Int) ≤ 2000 := by omega
        clear hd
        go_wp2_with fail
        go_round
        case rel => exact ⟨k + 1, by omega, by go_num, HX⟩
        case measure => simp [intOf]; omega
      · have HX := Lib.hid (few_no hl1 hd)
        have td : (2000 : Int) < ((L[k]).data.length : Int) := by omega
        clear hd
        go_wp2_with fail
        go_ret
        exact ⟨ret_bool HX.out.symm, rfl⟩
    · have HX := Lib.hid (few_end (by rw [HM.out]; exact hlt) hr.out)
      rw [HM.out] at HX
      go_wp2_with fail
      go_ret
      exact ⟨ret_bool (by rw [HX.out]; congr 1; simp; omega), rfl⟩

/-! what Made makes -/
def madeDir (nums : List Int) (inn : Int) : Int := if 0 ≤ inn ∧ inn < (nums.length : Int) then nums.getD inn.toNat 0 else 1
def madeOn (st : Tr × List Int) (x : Sn) : Tr × List Int := ((put st.1 (madeDir st.2 x.inn) x.name x.kind x.data).1, st.2 ++ [(put st.1 (madeDir st.2 x.inn) x.name x.kind x.data).2.1])
def made (l : List Sn) : Tr × List Int := l.foldl madeOn (M07.new, [])
theorem made_next {l : List Sn} {k : Nat} (hk : k < l.length) : made (l.take (k + 1)) = madeOn (made (l.take k)) l[k] := by
  unfold made
  rw [List.take_succ_eq_append_getElem hk, List.foldl_append]; rfl
theorem put_more (t : Tr) (d : Int) (s : Bytes) (k : Int) (x : Bytes) : (put t d s k x).1.L.length ≤ t.L.length + 1 ∧ (put t d s k x).1.last ≤ t.last + 1 ∧ t.last ≤ (put t d s k x).1.last := by
  unfold M07.put
  split
  · exact ⟨by show t.L.length ≤ _; omega, by show t.last ≤ _; omega, Int.le_refl _⟩
  · exact ⟨by show (t.L ++ _).length ≤ _; simp, by show t.last + 1 ≤ _; omega, by show t.last ≤ t.last + 1; omega⟩
structure MadeIs (t : Tr) (nums : List Int) (k : Nat) : Prop where
  right : Right t
  fit : Fit t
  named : Named t
  len : t.L.length ≤ k + 1
  last : t.last ≤ k + 1
  count : nums.length = k
theorem MadeIs.start : MadeIs M07.new [] 0 := ⟨M07.new_right, fit_new, named_new, by decide, by decide, rfl⟩
theorem MadeIs.next {t : Tr} {nums : List Int} {k : Nat} (h : MadeIs t nums k) (x : Sn) : MadeIs (madeOn (t, nums) x).1 (madeOn (t, nums) x).2 (k + 1) := by
  have := put_more t (madeDir nums x.inn) x.name x.kind x.data
  have h1 := h.len
  have h2 := h.last
  exact ⟨put_right h.right, fit_put h.fit _ _ _ _, named_put h.named _ _ _ _, by show (put t (madeDir nums x.inn) x.name x.kind x.data).1.L.length ≤ _; omega, by show (put t (madeDir nums x.inn) x.name x.kind x.data).1.last ≤ _; omega, by show (nums ++ [_]).length = _; rw [List.length_append, h.count]; rfl⟩
theorem made_is (l : List Sn) : ∀ k, k ≤ l.length → MadeIs (made (l.take k)).1 (made (l.take k)).2 k
  | 0, _ => by rw [List.take_zero]; exact MadeIs.start
  | k + 1, hk => by
    rw [made_next (by omega)]
    exact (made_is l k (by omega)).next _
end Go.Proofs.YtmbpgjncioegdaaGreatDoor.W08
/-
  Plain mathematics for layer 9 (posix): the plain answers as functions; each keeps a tree's nodes such as they may be; where a path's last part stands, and where the path leads; a file that is moved is the same node. Lists alone. No condition but those that each theorem bears.
-/
namespace Go.Proofs.YtmbpgjncioegdaaGreatDoor.M09
open Go.Proofs.YtmbpgjncioegdaaGreatDoor.M07 hiding Bytes
open Go.Proofs.YtmbpgjncioegdaaGreatDoor.M04
open Go.Proofs.YtmbpgjncioegdaaGreatDoor.M08
open Go.Proofs.YtmbpgjncioegdaaGreatDoor.M03 (check)

/-! the plain answers -/
def sizeOf (t : Tr) (n : Int) : Int := if (nodeAt t.L n).kind = 1 then ((listDir t.L n).length : Int) else ((nodeAt t.L n).data.length : Int)
def stat (t : Tr) (p : Bytes) (last : Bool) : (Int × Int × Int) × Int :=
  if (find t p last).2 ≠ 0 then ((0, 0, 0), (find t p last).2) else (((find t p last).1, (nodeAt t.L (find t p last).1).kind, sizeOf t (find t p last).1), 0)
def data (t : Tr) (p : Bytes) (last : Bool) (kind other : Int) : Bytes × Int :=
  if (find t p last).2 ≠ 0 then ([], (find t p last).2) else if (nodeAt t.L (find t p last).1).kind ≠ kind then ([], other) else ((nodeAt t.L (find t p last).1).data, 0)
def list (t : Tr) (p : Bytes) : List Bytes × Int :=
  if (find t p true).2 ≠ 0 then ([], (find t p true).2) else if (nodeAt t.L (find t p true).1).kind ≠ 1 then ([], 7) else ((listDir t.L (find t p true).1).map (·.1), 0)
def putAt (t : Tr) (p : Bytes) (kind : Int) (x : Bytes) : Tr × Int :=
  if (spot t p).2.2 ≠ 0 then (t, (spot t p).2.2) else ((put t (spot t p).1 (spot t p).2.1 kind x).1, (put t (spot t p).1 (spot t p).2.1 kind x).2.2)
def cutKind (t : Tr) (p : Bytes) : Int := (nodeAt t.L (inDir t.L (spot t p).1 (spot t p).2.1)).kind
def cutAt (t : Tr) (p : Bytes) (dir : Bool) : Tr × Int :=
  if (spot t p).2.2 ≠ 0 then (t, (spot t p).2.2) else if cutKind t p = 0 then (t, 5) else if dir = true ∧ cutKind t p ≠ 1 then (t, 7) else if dir = false ∧ cutKind t p = 1 then (t, 8) else cut t (spot t p).1 (spot t p).2.1
noncomputable def rename (t : Tr) (a b : Bytes) : Tr × Int :=
  if (spot t a).2.2 ≠ 0 then (t, (spot t a).2.2) else if (spot t b).2.2 ≠ 0 then (t, (spot t b).2.2) else M07.move t (spot t a).1 (spot t a).2.1 (spot t b).1 (spot t b).2.1
def write (t : Tr) (p x : Bytes) : Tr × Int :=
  if (find t p true).2 = 0 then set t (find t p true).1 x else if (find t p true).2 ≠ 5 then (t, (find t p true).2) else if (spot t p).2.2 ≠ 0 then (t, (spot t p).2.2)
  else if 0 < inDir t.L (spot t p).1 (spot t p).2.1 then (t, 5) else putAt t p 2 x
noncomputable def doTask (t : Tr) (kind : Int) (p x : Bytes) : Tr × Int :=
  if kind = 1 then putAt t p 1 [] else if kind = 2 then cutAt t p true else if kind = 3 then putAt t p 3 x else if kind = 4 then cutAt t p false else if kind = 5 then rename t p x else if kind = 6 then write t p x else (t, 2)

/-! what holds of each node -/
section
variable {t : Tr} {Q : Nd → Prop}
theorem all_with (h : ∀ a ∈ t.L, Q a) {x : Nd} (hx : Q x) : ∀ a ∈ (withNode t x).L, Q a := by
  intro a ha
  obtain ⟨b, hb, e⟩ := List.mem_map.1 ha
  subst e
  show Q (if b.num = x.num then x else b)
  by_cases e : b.num = x.num
  · rw [if_pos e]; exact hx
  · rw [if_neg e]; exact h b hb
theorem all_filter (h : ∀ a ∈ t.L, Q a) (n last : Int) : ∀ a ∈ (⟨t.L.filter (fun a => decide (a.num ≠ n)), last⟩ : Tr).L, Q a := fun a ha => h a (List.mem_filter.1 ha).1
theorem all_cut (h : ∀ a ∈ t.L, Q a) (d : Int) (s : Bytes) : ∀ a ∈ (cut t d s).1.L, Q a := by
  unfold cut
  split
  · exact h
  · split
    · exact h
    · split
      · exact h
      · exact all_filter h _ _
theorem all_moveOn (h : ∀ a ∈ t.L, Q a) {n : Int} (dst : Int) (nw : Bytes) (hq : Q { nodeAt t.L n with up := dst, name := nw }) : ∀ a ∈ (moveOn t n dst nw).1.L, Q a := by
  unfold moveOn
  split
  · exact h
  · split
    · split
      · exact h
      · split
        · exact h
        · split
          · exact h
          · exact all_with (all_cut h _ _) hq
    · exact all_with h hq
theorem all_move (h : ∀ a ∈ t.L, Q a) (src : Int) (s : Bytes) (dst : Int) (nw : Bytes) (hq : ∀ a ∈ t.L, check nw = 0 → Q { a with up := dst, name := nw }) : ∀ a ∈ (M07.move t src s dst nw).1.L, Q a := by
  unfold M07.move
  split
  · exact h
  · rename_i he
    obtain ⟨_, _, hn, hc⟩ := move_checked (by simpa using he)
    obtain ⟨x, hx, e, -⟩ := in_found hn
    split
    · exact h
    · by_cases hk : (nodeAt t.L (inDir t.L src s)).kind = 0
      · have : ∀ L : List Nd, (∃ a ∈ L, a.num = inDir t.L src s) → nodeAt L (inDir t.L src s) ∈ L := by
          intro L
          induction L with
          | nil => rintro ⟨a, ha, -⟩; cases ha
          | cons b r ih =>
            rintro ⟨a, ha, e⟩
            show (if b.num = _ then b else nodeAt r _) ∈ _
            by_cases eb : b.num = inDir t.L src s
            · rw [if_pos eb]; exact List.mem_cons_self
            · rw [if_neg eb]
              rcases List.mem_cons.1 ha with rfl | ha
              · exact absurd e eb
              · exact List.mem_cons_of_mem _ (ih ⟨a, ha, e⟩)
        exact all_moveOn h _ _ (hq _ (this t.L ⟨x, hx, e⟩) hc)
      · exact all_moveOn h _ _ (hq _ (at_some hk).1 hc)
end
theorem fit_set {t : Tr} (h : Fit t) (n : Int) (x : Bytes) : Fit (set t n x).1 := by
  unfold M07.set
  split
  · exact h
  · rename_i h0
    split
    · exact h
    · split
      · exact h
      · rename_i hm
        have hm : mayErr (nodeAt t.L n).kind x = 0 := by simpa using hm
        refine all_with (Q := fun a => a.data.length ≤ 65536 ∧ (a.kind = 3 → a.data ≠ []) ∧ 1 ≤ a.kind ∧ a.kind ≤ 3) h ?_
        unfold mayErr at hm
        split at hm
        · cases hm
        · rename_i q0
          split at hm
          · cases hm
          · rename_i q
            split at hm
            · cases hm
            · rename_i q2
              exact ⟨by show x.length ≤ _; omega, fun hk hx => q (Or.inr ⟨hk, hx⟩), by show 1 ≤ (nodeAt t.L n).kind; omega, by show (nodeAt t.L n).kind ≤ 3; omega⟩
theorem fit_cut {t : Tr} (h : Fit t) (d : Int) (s : Bytes) : Fit (cut t d s).1 := all_cut (Q := fun a => a.data.length ≤ 65536 ∧ (a.kind = 3 → a.data ≠ []) ∧ 1 ≤ a.kind ∧ a.kind ≤ 3) h d s
theorem fit_move {t : Tr} (h : Fit t) (src : Int) (s : Bytes) (dst : Int) (nw : Bytes) : Fit (M07.move t src s dst nw).1 := all_move (Q := fun a => a.data.length ≤ 65536 ∧ (a.kind = 3 → a.data ≠ []) ∧ 1 ≤ a.kind ∧ a.kind ≤ 3) h src s dst nw (fun a ha _ => h a ha)
theorem named_set {t : Tr} (h : Named t) (n : Int) (x : Bytes) : Named (set t n x).1 := by
  unfold M07.set
  split
  · exact h
  · rename_i h0
    split
    · exact h
    · split
      · exact h
      · exact all_with (Q := fun a => a.num ≠ 1 → check a.name = 0) h (fun hn => h (nodeAt t.L n) (at_some h0).1 hn)
theorem named_cut {t : Tr} (h : Named t) (d : Int) (s : Bytes) : Named (cut t d s).1 := all_cut (Q := fun a => a.num ≠ 1 → check a.name = 0) h d s
theorem named_move {t : Tr} (h : Named t) (src : Int) (s : Bytes) (dst : Int) (nw : Bytes) : Named (M07.move t src s dst nw).1 := all_move (Q := fun a => a.num ≠ 1 → check a.name = 0) h src s dst nw (fun _ _ hc _ => hc)

/-! how many nodes -/
/-- what an act may leave -/
structure Kept (t t' : Tr) : Prop where
  right : Right t → Right t'
  fit : Fit t → Fit t'
  named : Named t → Named t'
  len : t'.L.length ≤ t.L.length + 1
  last : t'.last ≤ t.last + 1
theorem Kept.refl (t : Tr) : Kept t t := ⟨id, id, id, by omega, by omega⟩
theorem len_cut (t : Tr) (d : Int) (s : Bytes) : (cut t d s).1.L.length ≤ t.L.length ∧ (cut t d s).1.last = t.last := by
  unfold cut
  split
  · exact ⟨Nat.le_refl _, rfl⟩
  · split
    · exact ⟨Nat.le_refl _, rfl⟩
    · split
      · exact ⟨Nat.le_refl _, rfl⟩
      · exact ⟨List.length_filter_le _ _, rfl⟩
theorem len_with (t : Tr) (x : Nd) : (withNode t x).L.length = t.L.length ∧ (withNode t x).last = t.last := ⟨List.length_map _, rfl⟩
theorem len_moveOn (t : Tr) (n dst : Int) (nw : Bytes) : (moveOn t n dst nw).1.L.length ≤ t.L.length ∧ (moveOn t n dst nw).1.last = t.last := by
  unfold moveOn
  split
  · exact ⟨Nat.le_refl _, rfl⟩
  · split
    · split
      · exact ⟨Nat.le_refl _, rfl⟩
      · split
        · exact ⟨Nat.le_refl _, rfl⟩
        · split
          · exact ⟨Nat.le_refl _, rfl⟩
          · have h1 := len_cut t dst nw
            have h2 := len_with (cut t dst nw).1 { nodeAt t.L n with up := dst, name := nw }
            exact ⟨Nat.le_trans (Nat.le_of_eq h2.1) h1.1, h2.2.trans h1.2⟩
    · have h2 := len_with t { nodeAt t.L n with up := dst, name := nw }
      exact ⟨Nat.le_of_eq h2.1, h2.2⟩
theorem kept_put (t : Tr) (d : Int) (s : Bytes) (k : Int) (x : Bytes) : Kept t (put t d s k x).1 where
  right h := put_right h
  fit h := fit_put h _ _ _ _
  named h := named_put h _ _ _ _
  len := by
    unfold M07.put
    split
    · show t.L.length ≤ _; omega
    · show (t.L ++ _).length ≤ _; simp
  last := by
    unfold M07.put
    split
    · show t.last ≤ _; omega
    · show t.last + 1 ≤ _; omega
theorem kept_set (t : Tr) (n : Int) (x : Bytes) : Kept t (set t n x).1 where
  right h := set_right h
  fit h := fit_set h _ _
  named h := named_set h _ _
  len := by
    unfold M07.set
    split
    · show t.L.length ≤ _; omega
    · split
      · show t.L.length ≤ _; omega
      · split
        · show t.L.length ≤ _; omega
        · have := (len_with t { nodeAt t.L n with data := x }).1; show (withNode _ _).L.length ≤ _; omega
  last := by
    unfold M07.set
    split
    · show t.last ≤ _; omega
    · split
      · show t.last ≤ _; omega
      · split
        · show t.last ≤ _; omega
        · show t.last ≤ _; omega
theorem kept_cut (t : Tr) (d : Int) (s : Bytes) : Kept t (cut t d s).1 := ⟨fun h => cut_right h, fun h => fit_cut h _ _, fun h => named_cut h _ _, by have := (len_cut t d s).1; omega, by have := (len_cut t d s).2; omega⟩
theorem kept_move (t : Tr) (src : Int) (s : Bytes) (dst : Int) (nw : Bytes) : Kept t (M07.move t src s dst nw).1 where
  right h := move_right h
  fit h := fit_move h _ _ _ _
  named h := named_move h _ _ _ _
  len := by
    unfold M07.move
    split
    · show t.L.length ≤ _; omega
    · split
      · show t.L.length ≤ _; omega
      · have := (len_moveOn t (inDir t.L src s) dst nw).1; omega
  last := by
    unfold M07.move
    split
    · show t.last ≤ _; omega
    · split
      · show t.last ≤ _; omega
      · have := (len_moveOn t (inDir t.L src s) dst nw).2; omega
theorem kept_putAt (t : Tr) (p : Bytes) (k : Int) (x : Bytes) : Kept t (putAt t p k x).1 := by
  unfold putAt
  split
  · exact Kept.refl t
  · exact kept_put _ _ _ _ _
theorem kept_cutAt (t : Tr) (p : Bytes) (dir : Bool) : Kept t (cutAt t p dir).1 := by
  unfold cutAt
  split
  · exact Kept.refl t
  · split
    · exact Kept.refl t
    · split
      · exact Kept.refl t
      · split
        · exact Kept.refl t
        · exact kept_cut _ _ _
theorem kept_rename (t : Tr) (a b : Bytes) : Kept t (rename t a b).1 := by
  unfold rename
  split
  · exact Kept.refl t
  · split
    · exact Kept.refl t
    · exact kept_move _ _ _ _ _
theorem kept_write (t : Tr) (p x : Bytes) : Kept t (write t p x).1 := by
  unfold write
  split
  · exact kept_set _ _ _
  · split
    · exact Kept.refl t
    · split
      · exact Kept.refl t
      · split
        · exact Kept.refl t
        · exact kept_putAt _ _ _ _
theorem kept_do (t : Tr) (kind : Int) (p x : Bytes) : Kept t (doTask t kind p x).1 := by
  unfold doTask
  split
  · exact kept_putAt _ _ _ _
  · split
    · exact kept_cutAt _ _ _
    · split
      · exact kept_putAt _ _ _ _
      · split
        · exact kept_cutAt _ _ _
        · split
          · exact kept_rename _ _ _
          · split
            · exact kept_write _ _ _
            · exact Kept.refl t
/-! an error changes nothing -/
theorem put_err {t : Tr} {d : Int} {s : Bytes} {k : Int} {x : Bytes} (h : (put t d s k x).2.2 ≠ 0) : (put t d s k x).1 = t := by
  unfold M07.put at h ⊢
  split
  · rfl
  · rename_i q; rw [if_neg q] at h; exact absurd rfl h
theorem set_err {t : Tr} {n : Int} {x : Bytes} (h : (set t n x).2 ≠ 0) : (set t n x).1 = t := by
  unfold M07.set at h ⊢
  split
  · rfl
  · rename_i q1; rw [if_neg q1] at h
    split
    · rfl
    · rename_i q2; rw [if_neg q2] at h
      split
      · rfl
      · rename_i q3; rw [if_neg q3] at h; exact absurd rfl h
theorem cut_err {t : Tr} {d : Int} {s : Bytes} (h : (cut t d s).2 ≠ 0) : (cut t d s).1 = t := by
  unfold cut at h ⊢
  split
  · rfl
  · rename_i q1; rw [if_neg q1] at h
    split
    · rfl
    · rename_i q2; rw [if_neg q2] at h
      split
      · rfl
      · rename_i q3; rw [if_neg q3] at h; exact absurd rfl h
theorem moveOn_err {t : Tr} {n dst : Int} {nw : Bytes} (h : (moveOn t n dst nw).2 ≠ 0) : (moveOn t n dst nw).1 = t := by
  unfold moveOn at h ⊢
  split
  · rfl
  · rename_i q1; rw [if_neg q1] at h
    split
    · rename_i q2; rw [if_pos q2] at h
      split
      · rfl
      · rename_i q3; rw [if_neg q3] at h
        split
        · rfl
        · rename_i q4; rw [if_neg q4] at h
          split
          · rfl
          · rename_i q5; rw [if_neg q5] at h; exact absurd rfl h
    · rename_i q2; rw [if_neg q2] at h; exact absurd rfl h
theorem move_err {t : Tr} {src dst : Int} {s nw : Bytes} (h : (M07.move t src s dst nw).2 ≠ 0) : (M07.move t src s dst nw).1 = t := by
  unfold M07.move at h ⊢
  split
  · rfl
  · rename_i q1; rw [if_neg q1] at h
    split
    · rfl
    · rename_i q2; rw [if_neg q2] at h; exact moveOn_err h
theorem putAt_err {t : Tr} {p : Bytes} {k : Int} {x : Bytes} (h : (putAt t p k x).2 ≠ 0) : (putAt t p k x).1 = t := by
  unfold putAt at h ⊢
  split
  · rfl
  · rename_i q; rw [if_neg q] at h; exact put_err h
theorem cutAt_err {t : Tr} {p : Bytes} {dir : Bool} (h : (cutAt t p dir).2 ≠ 0) : (cutAt t p dir).1 = t := by
  unfold cutAt at h ⊢
  split
  · rfl
  · rename_i q1; rw [if_neg q1] at h
    split
    · rfl
    · rename_i q2; rw [if_neg q2] at h
      split
      · rfl
      · rename_i q3; rw [if_neg q3] at h
        split
        · rfl
        · rename_i q4; rw [if_neg q4] at h; exact cut_err h
theorem rename_err {t : Tr} {a b : Bytes} (h : (rename t a b).2 ≠ 0) : (rename t a b).1 = t := by
  unfold rename at h ⊢
  split
  · rfl
  · rename_i q1; rw [if_neg q1] at h
    split
    · rfl
    · rename_i q2; rw [if_neg q2] at h; exact move_err h
theorem write_err {t : Tr} {p x : Bytes} (h : (write t p x).2 ≠ 0) : (write t p x).1 = t := by
  unfold write at h ⊢
  split
  · rename_i q; rw [if_pos q] at h; exact set_err h
  · rename_i q; rw [if_neg q] at h
    split
    · rfl
    · rename_i q2; rw [if_neg q2] at h
      split
      · rfl
      · rename_i q3; rw [if_neg q3] at h
        split
        · rfl
        · rename_i q4; rw [if_neg q4] at h; exact putAt_err h
theorem do_err {t : Tr} {kind : Int} {p x : Bytes} (h : (doTask t kind p x).2 ≠ 0) : (doTask t kind p x).1 = t := by
  unfold doTask at h ⊢
  split
  · rename_i q; rw [if_pos q] at h; exact putAt_err h
  · rename_i q; rw [if_neg q] at h
    split
    · rename_i q; rw [if_pos q] at h; exact cutAt_err h
    · rename_i q; rw [if_neg q] at h
      split
      · rename_i q; rw [if_pos q] at h; exact putAt_err h
      · rename_i q; rw [if_neg q] at h
        split
        · rename_i q; rw [if_pos q] at h; exact cutAt_err h
        · rename_i q; rw [if_neg q] at h
          split
          · rename_i q; rw [if_pos q] at h; exact rename_err h
          · rename_i q; rw [if_neg q] at h
            split
            · rename_i q; rw [if_pos q] at h; exact write_err h
            · rfl

/-! where a path leads, and where its last part stands -/
/-! moved, it is the same node -/
end Go.Proofs.YtmbpgjncioegdaaGreatDoor.M09
/-
  Layer 9 (posix): what the laws ask of the program's calls, as a structure of contracts over any reading of a tree ('Posix'); the calls of a nil pointer ('NoPosix'). No condition but those that each theorem bears.
-/
namespace Go.Proofs.YtmbpgjncioegdaaGreatDoor.W09
open Go Go.RowKit Go.Proofs.YtmbpgjncioegdaaGreatDoor.Strs Go.Proofs.YtmbpgjncioegdaaGreatDoor.Recs Go.Proofs.YtmbpgjncioegdaaGreatDoor.Range
open Go.Proofs.YtmbpgjncioegdaaGreatDoor.M07 (Tr Nd nodeAt inDir Right listDir)
open Go.Proofs.YtmbpgjncioegdaaGreatDoor.M08 Go.Proofs.YtmbpgjncioegdaaGreatDoor.M09
open Go.Proofs.YtmbpgjncioegdaaGreatDoor.W07 (Small Trees Wrote)

open Go.Proofs.YtmbpgjncioegdaaGreatDoor.Kit (ret_str ret_bool ret_int mk_of mk_bytes ba_ext below_draws on)

abbrev Bytes := List UInt8
abbrev Good (t : Tr) : Prop := W08.Good t
/-- what is told of a node, as a value -/
def statV (x : Int × Int × Int) : Value := .agg #[.int .i64 x.1, .int .i64 x.2.1, .int .i64 x.2.2]
/-- do two paths lead to one node? -/
def same (t : Tr) (a b : Bytes) : Bool := decide ((find t a true).2 = 0 ∧ (find t b true).2 = 0 ∧ (find t a true).1 = (find t b true).1)
/-- names are handed out, and an error's number -/
def HandsT (w : World) (R : List Bytes × Int) (e : Ending) (w' : World) : Prop := ∃ u, e = .returned (.tuple #[u, .int .i64 R.2]) ∧ Texts w'.heap.size w' u R.1 ∧ Below w.heap.size w w'
structure Posix (Rep : (Nat → Prop) → World → Value → Tr → Prop) : Prop where
  mkdir : ∀ {F w v t}, Rep F w v t → Good t → ∀ (p : ByteArray), p.size ≤ 1048576 → Calls Tryz.prog 87 #[v, .string p] w fun e w' => e = .returned (.int .i64 (putAt t p.data.toList 1 []).2) ∧ Wrote Rep F v (putAt t p.data.toList 1 []).1 w w'
  symlink : ∀ {F w v t}, Rep F w v t → Good t → ∀ (x p : ByteArray), x.size ≤ 1048576 → p.size ≤ 1048576 → Calls Tryz.prog 91 #[v, .string x, .string p] w fun e w' => e = .returned (.int .i64 (putAt t p.data.toList 3 x.data.toList).2) ∧ Wrote Rep F v (putAt t p.data.toList 3 x.data.toList).1 w w'
  rmdir : ∀ {F w v t}, Rep F w v t → Good t → ∀ (p : ByteArray), p.size ≤ 1048576 → Calls Tryz.prog 89 #[v, .string p] w fun e w' => e = .returned (.int .i64 (cutAt t p.data.toList true).2) ∧ Wrote Rep F v (cutAt t p.data.toList true).1 w w'
  unlink : ∀ {F w v t}, Rep F w v t → Good t → ∀ (p : ByteArray), p.size ≤ 1048576 → Calls Tryz.prog 93 #[v, .string p] w fun e w' => e = .returned (.int .i64 (cutAt t p.data.toList false).2) ∧ Wrote Rep F v (cutAt t p.data.toList false).1 w w'
  rename : ∀ {F w v t}, Rep F w v t → Good t → ∀ (a b : ByteArray), a.size ≤ 1048576 → b.size ≤ 1048576 → Calls Tryz.prog 95 #[v, .string a, .string b] w fun e w' => e = .returned (.int .i64 (M09.rename t a.data.toList b.data.toList).2) ∧ Wrote Rep F v (M09.rename t a.data.toList b.data.toList).1 w w'
  write : ∀ {F w v t}, Rep F w v t → Good t → ∀ (p x : ByteArray), p.size ≤ 1048576 → x.size ≤ 1048576 → Calls Tryz.prog 97 #[v, .string p, .string x] w fun e w' => e = .returned (.int .i64 (M09.write t p.data.toList x.data.toList).2) ∧ Wrote Rep F v (M09.write t p.data.toList x.data.toList).1 w w'
/-- the calls of a nil pointer -/
def Tells (u : Value) (w : World) (e : Ending) (w' : World) : Prop := e = .returned u ∧ Below w.heap.size w w'
structure NoPosix : Prop where
  mkdir : ∀ w (p : ByteArray), Calls Tryz.prog 87 #[.pointer none, .string p] w (Tells (.int .i64 1) w)
  symlink : ∀ w (x p : ByteArray), Calls Tryz.prog 91 #[.pointer none, .string x, .string p] w (Tells (.int .i64 1) w)
  rmdir : ∀ w (p : ByteArray), Calls Tryz.prog 89 #[.pointer none, .string p] w (Tells (.int .i64 1) w)
  unlink : ∀ w (p : ByteArray), Calls Tryz.prog 93 #[.pointer none, .string p] w (Tells (.int .i64 1) w)
  rename : ∀ w (a b : ByteArray), Calls Tryz.prog 95 #[.pointer none, .string a, .string b] w (Tells (.int .i64 1) w)
  write : ∀ w (p x : ByteArray), Calls Tryz.prog 97 #[.pointer none, .string p, .string x] w (Tells (.int .i64 1) w)

/-! a tree stays good while few acts are done -/
/-- of at most n nodes and numbers -/
structure Within (t : Tr) (n : Nat) : Prop where
  right : Right t
  fit : Fit t
  named : Named t
  len : t.L.length ≤ n
  last : t.last ≤ n
theorem Within.good {t : Tr} {n : Nat} (h : Within t n) (hn : n ≤ 1048576) : Good t := ⟨⟨Nat.le_trans h.len hn, by have := h.last; omega⟩, h.fit, h.named⟩
theorem Within.next {t t' : Tr} {n : Nat} (h : Within t n) (k : Kept t t') : Within t' (n + 1) := ⟨k.right h.right, k.fit h.fit, k.named h.named, by have := k.len; have := h.len; omega, by have := k.last; have := h.last; omega⟩
theorem Within.more {t : Tr} {n m : Nat} (h : Within t n) (hm : n ≤ m) : Within t m := ⟨h.right, h.fit, h.named, Nat.le_trans h.len hm, by have := h.last; omega⟩
theorem made_within {l : List W08.Sn} (h : l.length ≤ 60) : Within (W08.made l).1 61 := by
  have := W08.made_is l l.length (Nat.le_refl _)
  rw [List.take_length] at this
  exact ⟨this.right, this.fit, this.named, by have := this.len; omega, by have := this.last; omega⟩
end Go.Proofs.YtmbpgjncioegdaaGreatDoor.W09
/-
  Layer 4 (path), a walk: the plain answer's Parts: a text's parts, in new memory, at every text of at most 2^40 bytes; nothing that was there is changed.
-/
namespace Go.Proofs.YtmbpgjncioegdaaGreatDoor.W04
set_option maxRecDepth 100000
open Go Go.RowKit Go.Proofs.YtmbpgjncioegdaaGreatDoor.Strs Go.Proofs.YtmbpgjncioegdaaGreatDoor.M04
open Go.Proofs.YtmbpgjncioegdaaGreatDoor.Kit (drop_next drop_end mk_bytes one_size one_byte cat_bytes byte_eq byte_ne list_full list_ne list_none list_nil bytes_nil bytes_cons)

/-- what stands at a round's head -/
def Pst (l : Bytes) (k : Nat) (out : List Bytes) (now : Bytes) : Prop := (k ≤ l.length ∧ out ++ pgo (l.drop k) now = parts l) ∨ (k = l.length + 1 ∧ out = parts l)
def Going (s : ByteArray) (k : Nat) (out : List Bytes) (now : ByteArray) : Prop := Pst s.data.toList k out now.data.toList
theorem going_start (s : ByteArray) : Going s 0 [] ⟨#[]⟩ := Or.inl ⟨Nat.zero_le _, rfl⟩
section
variable {s : ByteArray} {k : Nat} {out : List Bytes} {now : ByteArray}
theorem going_in (h : Going s k out now) (hk : k < s.size) : out ++ pgo (s[k] :: s.data.toList.drop (k + 1)) now.data.toList = parts s.data.toList := by
  rw [Lib.size_eq] at hk
  rcases h with ⟨_, h⟩ | ⟨h, _⟩
  · rw [drop_next s k (by rw [Lib.size_eq]; exact hk)] at h; exact h
  · omega
theorem going_char (h : Going s k out now) (hk : k < s.size) (hc : ¬ s[k] = 47) : Going s (k + 1) out (now ++ s.extract k (k + 1)) := by
  have := going_in h hk
  left
  refine ⟨by rw [← Lib.size_eq]; omega, ?_⟩
  rw [pgo, if_neg hc] at this
  rw [cat_bytes, one_byte s k hk]; exact this
theorem going_slash (h : Going s k out now) (hk : k < s.size) (hc : s[k] = 47) : Going s (k + 1) (out ++ flush now.data.toList) ⟨#[]⟩ := by
  have := going_in h hk
  left
  refine ⟨by rw [← Lib.size_eq]; omega, ?_⟩
  rw [pgo, if_pos hc] at this
  rw [List.append_assoc]; exact this
theorem going_end (h : Going s k out now) (hk : k = s.size) : Going s (k + 1) (out ++ flush now.data.toList) ⟨#[]⟩ := by
  right
  refine ⟨by rw [hk, Lib.size_eq], ?_⟩
  rcases h with ⟨_, h⟩ | ⟨h, _⟩
  · rw [hk, drop_end s s.size (Nat.lt_irrefl _)] at h; exact h
  · rw [Lib.size_eq] at hk; omega
theorem going_stop (h : Going s k out now) (hk : s.size < k) : out = parts s.data.toList := by
  rcases h with ⟨h, _⟩ | ⟨_, h⟩
  · rw [Lib.size_eq] at hk; omega
  · exact h
theorem flush_keep (h : 0 < now.size) (h2 : (now.toList == [46]) = false) : flush now.data.toList = [now.data.toList] := by
  unfold flush
  rw [if_neg]
  rintro (e | e)
  · rw [bytes_cons h] at e; simp at e
  · rw [Lib.toList_data, e] at h2; simp at h2
theorem flush_void (h : ¬ 0 < now.size) : flush now.data.toList = [] := by unfold flush; rw [if_pos (Or.inl (bytes_nil h))]
theorem flush_point (h2 : (now.toList == [46]) = true) : flush now.data.toList = [] := by
  unfold flush; rw [if_pos (Or.inr (by rw [← Lib.toList_data]; exact beq_iff_eq.1 h2))]
end
/-- what a call returns that makes a row of texts -/
def Makes (w : World) (L : List Bytes) (e : Ending) (w' : World) : Prop := ∃ v, e = .returned v ∧ w'.ownsRow w.heap.size 9 1 v L.length (L.map strV) ∧ Below w.heap.size w w'
theorem makes_done {w w' : World} {L out : List Bytes} {v : Value} (h : out = L) (hown : w'.ownsRow w.heap.size 9 1 v out.length (out.map strV)) (hb : Below w.heap.size w w') : Makes w L (.returned v) w' := by
  subst h; exact ⟨v, rfl, hown, hb⟩

set_option maxHeartbeats 1000000 in
theorem refParts_any (s : ByteArray) (hs : s.size ≤ 1099511627776) (w : World) :
    Calls Tryz.prog 98 #[.string s] w (Makes w (parts s.data.toList)) := by
  obtain ⟨i0, hi, hz0, hz1, hz2⟩ := info_parts text_info
  go_enter Tryz.func98, Tryz.ntmps98
  go_wp2
  go_loopw [3, 4, 5] (fun v d i wr => ∃ (k : Nat) (out : List Bytes) (now : ByteArray), k ≤ s.size + 1 ∧ i = .int .i64 k ∧ d = .string now ∧ now.size ≤ k ∧ out.length ≤ k ∧ Hid (Going s k out now) ∧ Hid (wr.ownsRow w.heap.size 9 1 v out.length (out.map strV)) ∧ Below w.heap.size w wr) (fun _ _ i _ => s.size + 1 - (intOf i).toNat)
  case atStart => exact ⟨0, [], ⟨#[]⟩, Nat.zero_le _, rfl, rfl, Nat.zero_le _, Nat.le_refl _, going_start s, World.ownsRow_nil _ _ _ _, Below.refl _ _⟩
  case round =>
    obtain ⟨k, out, now, hk, rfl, rfl, hnow, hout, hg, hown, hb⟩ := hrel
    have hbs := hb.size
    by_cases hlt : k < s.size
    · by_cases h47 : (s[k].toNat : Int) = 47
      · have HG := Lib.hid (going_slash hg.out hlt (byte_eq (d := 47) h47))
        have t47 : ((s[k].toNat : Int) != 47) = false := by simp [h47]
        clear h47
        by_cases h0 : 0 < now.size
        · have hn := list_ne h0
          have hf := list_full h0
          cases hp : (now.toList == [46]) with
          | true =>
            have HX : Hid (Going s (k + 1) out ⟨#[]⟩) := by have := HG.out; rw [flush_point hp, List.append_nil] at this; exact this
            have hpe := beq_iff_eq.1 hp
            go_wp2
            go_roundw
            case rel => exact ⟨k + 1, out, ⟨#[]⟩, by omega, by go_num, rfl, Nat.zero_le _, by omega, HX, hown, hb⟩
            case measure => simp [intOf]; omega
          | false =>
            have HX : Hid (Going s (k + 1) (out ++ [now.data.toList]) ⟨#[]⟩) := by have := HG.out; rw [flush_keep h0 hp] at this; exact this
            have hpe := beq_eq_false_iff_ne.1 hp
            go_wp2_with (at_builtin; refine wpList_append_own _ rfl (.tmp 35) (.tmp 37) 135 rfl w.heap.size 9 i0 (.string ⟨#[]⟩) 1 16 Tryz.underlying135 hi hz0 hz1 hz2 rfl (by decide) _ _ _ rfl (hown.out.alloc _) ⟨_, 0, none⟩ 1 1 [.string now] rfl rfl (cell_one_new _ _ _) (by intro u hu; simp at hu; subst hu; rfl) (by unfold maxLen; omega) (by omega) (by simp; omega) ?_; intro v1 w1 hown1 hgrow1 _)
            have B1 := Lib.hid (below_more hb hown.out hgrow1)
            have O1 := Lib.hid (own_more hown1)
            clear hown1 hgrow1
            go_wp2
            go_roundw
            case rel => exact ⟨k + 1, out ++ [now.data.toList], ⟨#[]⟩, by omega, by go_num, rfl, Nat.zero_le _, by rw [List.length_append]; simp; omega, HX, O1, B1.out⟩
            case measure => simp [intOf]; omega
        · have hn := list_nil h0
          have hf := list_none h0
          have HX : Hid (Going s (k + 1) out ⟨#[]⟩) := by have := HG.out; rw [flush_void h0, List.append_nil] at this; exact this
          go_wp2
          go_roundw
          case rel => exact ⟨k + 1, out, ⟨#[]⟩, by omega, by go_num, rfl, Nat.zero_le _, by omega, HX, hown, hb⟩
          case measure => simp [intOf]; omega
      · have HG := Lib.hid (going_char hg.out hlt (byte_ne (d := 47) h47))
        have t47 : ((s[k].toNat : Int) != 47) = true := by simp [h47]
        have h1 := one_size s k hlt
        clear h47
        go_wp2
        go_roundw
        case rel => exact ⟨k + 1, out, _, by omega, by go_num, rfl, by rw [ByteArray.size_append]; omega, by omega, HG, hown, hb⟩
        case measure => simp [intOf]; omega
    · by_cases hke : k = s.size
      · have HG := Lib.hid (going_end hg.out hke)
        by_cases h0 : 0 < now.size
        · have hn := list_ne h0
          have hf := list_full h0
          cases hp : (now.toList == [46]) with
          | true =>
            have HX : Hid (Going s (k + 1) out ⟨#[]⟩) := by have := HG.out; rw [flush_point hp, List.append_nil] at this; exact this
            have hpe := beq_iff_eq.1 hp
            go_wp2
            go_roundw
            case rel => exact ⟨k + 1, out, ⟨#[]⟩, by omega, by go_num, rfl, Nat.zero_le _, by omega, HX, hown, hb⟩
            case measure => simp [intOf]; omega
          | false =>
            have HX : Hid (Going s (k + 1) (out ++ [now.data.toList]) ⟨#[]⟩) := by have := HG.out; rw [flush_keep h0 hp] at this; exact this
            have hpe := beq_eq_false_iff_ne.1 hp
            go_wp2_with (at_builtin; refine wpList_append_own _ rfl (.tmp 35) (.tmp 37) 135 rfl w.heap.size 9 i0 (.string ⟨#[]⟩) 1 16 Tryz.underlying135 hi hz0 hz1 hz2 rfl (by decide) _ _ _ rfl (hown.out.alloc _) ⟨_, 0, none⟩ 1 1 [.string now] rfl rfl (cell_one_new _ _ _) (by intro u hu; simp at hu; subst hu; rfl) (by unfold maxLen; omega) (by omega) (by simp; omega) ?_; intro v1 w1 hown1 hgrow1 _)
            have B1 := Lib.hid (below_more hb hown.out hgrow1)
            have O1 := Lib.hid (own_more hown1)
            clear hown1 hgrow1
            go_wp2
            go_roundw
            case rel => exact ⟨k + 1, out ++ [now.data.toList], ⟨#[]⟩, by omega, by go_num, rfl, Nat.zero_le _, by rw [List.length_append]; simp; omega, HX, O1, B1.out⟩
            case measure => simp [intOf]; omega
        · have hn := list_nil h0
          have hf := list_none h0
          have HX : Hid (Going s (k + 1) out ⟨#[]⟩) := by have := HG.out; rw [flush_void h0, List.append_nil] at this; exact this
          go_wp2
          go_roundw
          case rel => exact ⟨k + 1, out, ⟨#[]⟩, by omega, by go_num, rfl, Nat.zero_le _, by omega, HX, hown, hb⟩
          case measure => simp [intOf]; omega
      · have HE := Lib.hid (going_stop hg.out (by omega))
        go_wp2
        go_ret
        exact makes_done HE.out hown.out hb
end Go.Proofs.YtmbpgjncioegdaaGreatDoor.W04
/-
  Slices of texts: the first ones left out, as the walk spells the cut's value. Plain lemmas on worlds, for every program; no condition but those that each theorem bears.
-/
namespace Go.Proofs.YtmbpgjncioegdaaGreatDoor.Strs
open Go Go.RowKit

/-- the first ones left out, as the walk spells the cut's value -/
theorem Texts.drop {B : Nat} {w : World} {A : Option Addr} {n c k : Nat} {L : List (List UInt8)} (h : Texts B w (.slice A n c) L) (hk : k ≤ n) : Texts B w (.slice (A.map fun x => x.add k) (n - k) (c - k)) (L.drop k) := by
  obtain ⟨hn, hc1, hc2⟩ := h.count
  subst hn
  obtain ⟨A0, c0, e, h1, h2, h3⟩ := h
  cases e
  refine ⟨_, c - k, by rw [List.length_drop], by rw [List.length_drop]; omega, by omega, fun h0 => ?_⟩
  rw [List.length_drop] at h0
  obtain ⟨ad, rfl, hb, hc⟩ := h3 (by omega)
  refine ⟨ad.add k, rfl, by rw [block_add]; exact hb, fun j hj => ?_⟩
  rw [List.length_drop] at hj
  have := hc (k + j) (by omega)
  rw [show (ad.add k).add j = ad.add (k + j) by obtain ⟨b, o, s⟩ := ad; rw [show s = none by simpa [Addr.add] using World.cell?_spot (hc 0 (by omega)), Addr.add_lit, Addr.add_lit, Addr.add_lit, Nat.add_assoc]]
  rw [this]
  congr 2
  simp
theorem Texts.drop_all {B : Nat} {w : World} {A : Option Addr} {n k : Nat} {L : List (List UInt8)} (h : Texts B w (.slice A n k) L) (hk : k ≤ n) : Texts B w (.slice A (n - k) 0) (L.drop k) := by
  obtain ⟨hn, hc1, hc2⟩ := h.count
  subst hn
  obtain rfl : k = L.length := by omega
  refine ⟨A, 0, by rw [List.length_drop], by rw [List.length_drop]; omega, Nat.zero_le _, fun h0 => ?_⟩
  rw [List.length_drop] at h0
  omega
end Go.Proofs.YtmbpgjncioegdaaGreatDoor.Strs
/-
  Slices of records: parts of one (the first ones, those from a place on, those between), as the walk spells the cut's value. Plain lemmas on worlds, for every program; no condition but those that each theorem bears.
-/
namespace Go.Proofs.YtmbpgjncioegdaaGreatDoor.Recs
open Go Go.RowKit
open Go.Proofs.YtmbpgjncioegdaaGreatDoor.Strs (block_add strV)
section
variable {α : Type} {enc : α → List Value} {sz : Nat} {B : Nat} {w : World} {A : Option Addr} {n c : Nat} {L : List α}
theorem Recs.count (h : Recs enc sz B w (.slice A n c) L) : n = L.length ∧ n ≤ c ∧ c ≤ maxLen := by
  obtain ⟨A', c', e, h1, h2, h3⟩ := h
  injection e with e1 e2 e3
  subst e1 e2 e3
  exact ⟨rfl, h1, h2⟩
/-- no record: whatever the address -/
theorem recs_none (enc : α → List Value) (sz B : Nat) (w : World) (A : Option Addr) {c : Nat} (hc : c ≤ maxLen) : Recs enc sz B w (.slice A 0 c) [] := ⟨A, c, rfl, Nat.zero_le _, hc, fun h => absurd h (by simp)⟩
theorem Recs.take (h : Recs enc sz B w (.slice A n c) L) {k : Nat} (hk : k ≤ n) : Recs enc sz B w (.slice A k c) (L.take k) := by
  obtain ⟨hn, hc1, hc2⟩ := h.count
  subst hn
  obtain ⟨A0, c0, e, h1, h2, h3⟩ := h
  cases e
  have hl : (L.take k).length = k := by rw [List.length_take]; omega
  refine ⟨A, c, by rw [hl], by omega, hc2, fun h0 => ?_⟩
  obtain ⟨ad, rfl, hb, hc⟩ := h3 (by omega)
  refine ⟨ad, rfl, hb, fun i hi j hj => ?_⟩
  rw [hc i (by omega) j hj, List.getElem_take]
theorem Recs.drop (h : Recs enc sz B w (.slice A n c) L) (he : ∀ x : α, (enc x).length = sz) (h0 : 0 < sz) {k : Nat} (hk : k ≤ n) : Recs enc sz B w (.slice (A.map fun x => x.add (k * sz)) (n - k) (c - k)) (L.drop k) := by
  obtain ⟨hn, hc1, hc2⟩ := h.count
  have hfl : 0 < n → ∃ b o, A = some ⟨b, o, none⟩ := fun hp => by
    obtain ⟨b, o, _, e, _⟩ := h.flat_ he h0 hp
    exact ⟨b, o, e⟩
  subst hn
  obtain ⟨A0, c0, e, h1, h2, h3⟩ := h
  cases e
  refine ⟨_, c - k, by rw [List.length_drop], by rw [List.length_drop]; omega, by omega, fun hp => ?_⟩
  rw [List.length_drop] at hp
  obtain ⟨b, o, rfl⟩ := hfl (by omega)
  obtain ⟨ad, e, hb, hc⟩ := h3 (by omega)
  cases e
  refine ⟨_, rfl, by rw [block_add]; exact hb, fun i hi j hj => ?_⟩
  rw [List.length_drop] at hi
  have := hc (k + i) (by omega) j hj
  rw [Addr.add_lit] at this
  show w.cell? (((⟨b, o, none⟩ : Addr).add (k * sz)).add (i * sz + j)) = _
  rw [Addr.add_lit, Addr.add_lit, show o + k * sz + (i * sz + j) = o + ((k + i) * sz + j) by rw [Nat.add_mul]; omega, this]
  congr 2
  simp
theorem Recs.drop_all (h : Recs enc sz B w (.slice A n c) L) {k : Nat} (hk : k ≤ n) (hkc : c = k) {m : Nat} (hm : m ≤ maxLen) : Recs enc sz B w (.slice A (n - k) m) (L.drop k) := by
  obtain ⟨hn, hc1, hc2⟩ := h.count
  have e1 : n - k = 0 := by omega
  have e2 : L.drop k = [] := List.drop_of_length_le (by omega)
  rw [e1, e2]
  exact recs_none _ _ _ _ _ hm
/-- those between two places, the address moved -/
theorem Recs.mid (h : Recs enc sz B w (.slice A n c) L) (he : ∀ x : α, (enc x).length = sz) (h0 : 0 < sz) {i j : Nat} (hij : i ≤ j) (hj : j ≤ n) : Recs enc sz B w (.slice (A.map fun x => x.add (i * sz)) (j - i) (c - i)) ((L.take j).drop i) := (h.take hj).drop he h0 hij
/-- one alone, at its place -/
theorem Recs.one (h : Recs enc sz B w (.slice A n c) L) (he : ∀ x : α, (enc x).length = sz) (h0 : 0 < sz) {i : Nat} (hj : i + 1 ≤ n) : Recs enc sz B w (.slice (A.map fun x => x.add (i * sz)) 1 (c - i)) ((L.take (i + 1)).drop i) := by
  have := h.mid he h0 (Nat.le_succ i) hj
  rwa [show i + 1 - i = 1 by omega] at this
theorem Recs.one_last {i : Nat} (h : Recs enc sz B w (.slice A n (i + 1)) L) (he : ∀ x : α, (enc x).length = sz) (h0 : 0 < sz) (hj : i + 1 ≤ n) : Recs enc sz B w (.slice (A.map fun x => x.add (i * sz)) 1 1) ((L.take (i + 1)).drop i) := by
  have := h.one he h0 hj
  rwa [show i + 1 - i = 1 by omega] at this
theorem Recs.drop_last {k : Nat} (h : Recs enc sz B w (.slice A n k) L) (hk : k ≤ n) : Recs enc sz B w (.slice A 0 0) (L.drop k) := by
  have h2 := h.count
  have := h.drop_all hk rfl (Nat.zero_le maxLen)
  rwa [show n - k = 0 by omega] at this
theorem Recs.void {i : Nat} {A' : Option Addr} {c' : Nat} (hc : c' ≤ maxLen) : Recs enc sz B w (.slice A' 0 c') ((L.take i).drop i) := by
  rw [List.drop_of_length_le (by rw [List.length_take]; omega)]
  exact recs_none _ _ _ _ _ hc
end
end Go.Proofs.YtmbpgjncioegdaaGreatDoor.Recs
/-
  append(own, records...) where the first is a row of the call's own and the other one whatever slice of records: with an address or without, empty or not: one law. For every program; the conditions stand in the statement.
-/
namespace Go.Proofs.YtmbpgjncioegdaaGreatDoor.Recs
open Go Go.RowKit

theorem run_append_void {P : Program} {w : World} (base : Nat) (t ty e : TypeId) (i : TypeInfo) (size : Nat) (ht : P.underlying t = some (.slice e)) (hi : P.info? e = some i)
    (v : Value) (n c : Nat) (xs : List Value) (hown : w.ownsRow base e size v n xs) :
    (Builtin.append_ #[t, t] ty #[v, .slice none 0 c]).run P w = .ok v w := by
  rcases hown.2 with ⟨rfl, rfl⟩ | ⟨g, cap, cur, rfl, _, _, hnc, _⟩
  · simp [Builtin.append_, run_underlying ht, sizeOf, typeInfo, hi, Builtin.lenOf, Builtin.firstCells]
  · simp [Builtin.append_, run_underlying ht, sizeOf, typeInfo, hi, Builtin.lenOf, Builtin.firstCells, hnc, storeCells]
/-- where the block of what an append gives lies -/
theorem own_block_next {P : Program} (w : World) (base : Nat) (t ty e : TypeId) (i : TypeInfo) (z : Value) (size bytes : Nat) (ht : P.underlying t = some (.slice e)) (hi : P.info? e = some i) (hz : i.zero = some z)
    (hsize : i.size = size) (hby : i.bytes = bytes) (hzs : z.cells.size = size) (hsz : 0 < size)
    (v : Value) (n : Nat) (xs : List Value) (hown : w.ownsRow base e size v n xs)
    (a : Addr) (m c : Nat) (news : List Value) (hl : news.length = m * size) (hnews : ∀ j u, news[j]? = some u → w.cell? (a.add j) = some u) (h1 : ∀ u ∈ news, u.oneCell' = true)
    (h63 : n + m ≤ maxLen) (hbytes : (n + m) * bytes ≤ 140737488355328) {v' : Value} {w' : World} (hr : (Builtin.append_ #[t, t] ty #[v, .slice (some a) m c]).run P w = .ok v' w') :
    ∀ k, v'.ownBlock = some k → v.ownBlock = some k ∨ w.heap.size ≤ k := by
  subst hsize
  subst hby
  have hsmall : n + m ≤ 9223372036854775807 := by simp only [maxLen] at h63; omega
  intro k hk
  rcases hown.2 with ⟨rfl, rfl⟩ | ⟨g, cap, cur, rfl, hbg, hg, hnc, hcm, hcs, htake⟩
  · obtain ⟨v2, w2, hr2, ho2, -, -⟩ := run_append_own w w.heap.size t ty e i z i.size i.bytes ht hi hz rfl rfl hzs hsz (.slice none 0 0) 0 xs (by have hx : xs = [] := List.eq_nil_of_length_eq_zero (by simpa using hown.1); rw [hx]; exact World.ownsRow_nil _ _ _ _) a m c news hl hnews h1 h63 hbytes (Nat.le_refl _)
    rw [hr] at hr2
    cases hr2
    exact Or.inr (ho2.lt k hk).1
  · by_cases hroom : n + m ≤ cap
    · have hfit : n * i.size + news.length ≤ cur.size := by rw [hl, hcs, ← Nat.add_mul]; exact Nat.mul_le_mul_right _ hroom
      rw [run_append_room w t ty e i ht hi g n cap cur hg a m c news hl hnews h1 hroom hfit] at hr
      cases hr
      exact Or.inl hk
    · have holds : ∀ j u, xs[j]? = some u → w.cell? ((⟨g, 0, none⟩ : Addr).add j) = some u := hown.cells (g := g) rfl
      rw [run_append_grow w t ty e i z ht hi hz ⟨g, 0, none⟩ n cap xs hown.1 holds a m c news hl hnews (by omega) (by omega) (growslice_fits (by omega) hbytes)] at hr
      cases hr
      simp [Value.ownBlock] at hk
      exact Or.inr (by omega)
theorem wp_append_recs {α : Type} {enc : α → List Value} {P : Program} {w : World} {o : Oper} {a : Act} {K : Act → World → Prop} {Q : Exit → Act → World → Prop} (s x : Operand) (t : TypeId)
    (ho : o.op = .call { callee := .builtin .append, args := #[s, x], argTypes := #[t, t] })
    (base : Nat) (e : TypeId) (i : TypeInfo) (z : Value) (size bytes : Nat) (ht : P.underlying t = some (.slice e)) (hi : P.info? e = some i) (hz : i.zero = some z)
    (hsize : i.size = size) (hby : i.bytes = bytes) (hzs : z.cells.size = size) (hsz : 0 < size)
    (v : Value) (n : Nat) (xs : List Value) (hs : a.eval s = v) (hown : w.ownsRow base e size v n xs)
    (u : Value) (L : List α) (B : Nat) (hx : a.eval x = u) (hu : Recs enc size B w u L) (he : ∀ r : α, (enc r).length = size) (h1 : ∀ r : α, ∀ c ∈ enc r, c.oneCell' = true)
    (h63 : n + L.length ≤ maxLen) (hbytes : (n + L.length) * bytes ≤ 140737488355328) (hbase : base ≤ w.heap.size)
    (h : ∀ v' w', w'.ownsRow base e size v' (n + L.length) (xs ++ L.flatMap enc) → w.grownBy w' v.ownBlock → (∀ k, v'.ownBlock = some k → v.ownBlock = some k ∨ w.heap.size ≤ k) → K (a.put o.dst v') w') : o.wp P a w K Q := by
  obtain ⟨A, c, rfl, hc1, hc2⟩ := hu.form
  have hfl : (L.flatMap enc).length = L.length * size := flat_len he L
  have hone : ∀ u ∈ L.flatMap enc, u.oneCell' = true := fun q hq => by
    obtain ⟨r, _, hr⟩ := List.mem_flatMap.1 hq
    exact h1 r q hr
  cases A with
  | none =>
    have h0 : L.length = 0 := by
      rcases Nat.eq_zero_or_pos L.length with q | q
      · exact q
      · obtain ⟨b, o, hf, _⟩ := hu.news he hsz q
        cases hf
    have hL : L = [] := List.length_eq_zero_iff.1 h0
    subst hL
    have hrun := run_append_void (P := P) (w := w) base t o.type e i size ht hi v n c xs hown
    have hx' : a.eval x = .slice none 0 c := hx
    unfold Oper.wp
    simp [execOp, ho, resolve, invoke, builtin, hs, hx', hrun, Result.andThen]
    exact h v w (by simpa using hown) ⟨rfl, rfl, rfl, Nat.le_refl _, fun _ _ _ => rfl⟩ (fun k hk => Or.inl hk)
  | some ad =>
    have hnews : ∀ j q, (L.flatMap enc)[j]? = some q → w.cell? (ad.add j) = some q := by
      intro j q hq
      rcases Nat.eq_zero_or_pos L.length with h0 | h0
      · have : L = [] := List.length_eq_zero_iff.1 h0
        subst this
        simp at hq
      · obtain ⟨b, o, hf, _, hcell⟩ := hu.news he hsz h0
        cases hf
        exact hcell j q hq
    obtain ⟨v', w', hr, h2, h3, -⟩ := run_append_own (P := P) w base t o.type e i z size bytes ht hi hz hsize hby hzs hsz v n xs hown ad L.length c (L.flatMap enc) hfl hnews hone h63 hbytes hbase
    have h4 := own_block_next w base t o.type e i z size bytes ht hi hz hsize hby hzs hsz v n xs hown ad L.length c (L.flatMap enc) hfl hnews hone h63 hbytes hr
    have hx' : a.eval x = .slice (some ad) L.length c := hx
    unfold Oper.wp execOp
    simp only [ho, resolve, invoke, builtin, Sem.run_bind, Sem.run_pure, Result.andThen_ok, List.map_toArray, List.map_cons, List.map_nil, hs, hx', hr]
    exact h v' w' h2 h3 h4
theorem wpList_append_recs {α : Type} {enc : α → List Value} {P : Program} {w : World} {ops : Array Oper} {rest : List Oper} {o : Oper} {a : Act} {Q : Exit → Act → World → Prop} (hgd : o.guard = none) (s x : Operand) (t : TypeId)
    (ho : o.op = .call { callee := .builtin .append, args := #[s, x], argTypes := #[t, t] })
    (base : Nat) (e : TypeId) (i : TypeInfo) (z : Value) (size bytes : Nat) (ht : P.underlying t = some (.slice e)) (hi : P.info? e = some i) (hz : i.zero = some z)
    (hsize : i.size = size) (hby : i.bytes = bytes) (hzs : z.cells.size = size) (hsz : 0 < size)
    (v : Value) (n : Nat) (xs : List Value) (hs : a.eval s = v) (hown : w.ownsRow base e size v n xs)
    (u : Value) (L : List α) (B : Nat) (hx : a.eval x = u) (hu : Recs enc size B w u L) (he : ∀ r : α, (enc r).length = size) (h1 : ∀ r : α, ∀ c ∈ enc r, c.oneCell' = true)
    (h63 : n + L.length ≤ maxLen) (hbytes : (n + L.length) * bytes ≤ 140737488355328) (hbase : base ≤ w.heap.size)
    (h : ∀ v' w', w'.ownsRow base e size v' (n + L.length) (xs ++ L.flatMap enc) → w.grownBy w' v.ownBlock → (∀ k, v'.ownBlock = some k → v.ownBlock = some k ∨ w.heap.size ≤ k) → wpList P ops Q rest (a.put o.dst v') w') : wpList P ops Q (o :: rest) a w :=
  wpList_plain hgd fun _ hK => wp_append_recs s x t ho base e i z size bytes ht hi hz hsize hby hzs hsz v n xs hs hown u L B hx hu he h1 h63 hbytes hbase fun v' w' h2 h3 h4 => hK _ _ (h v' w' h2 h3 h4)
end Go.Proofs.YtmbpgjncioegdaaGreatDoor.Recs
