/-
  Texts joined, in build order, each with its own comment and its own conditions: W04Real, W04Code, LibReverse, LibJoin, W08Asks, MapAll, W08Seen, W08Step.
-/
import Derived.Test.YtolhniepejhmfaaGreatDoorJ24
import Derived.Test.YtolhniepejhmfaaGreatDoorJ17
import Derived.Test.YtolhniepejhmfaaGreatDoorJ02
import Derived.Lib.OwnBridge
import Derived.Test.YtolhniepejhmfaaGreatDoorJ09
import Derived.Lib.Join
import Derived.Laws.OwnMore
import Derived.Tactics
import Derived.Test.YtolhniepejhmfaaGreatDoorJ18
import Derived.Test.YtolhniepejhmfaaGreatDoorJ12
import Derived.Test.YtolhniepejhmfaaGreatDoorJ23
import Derived.Test.YtolhniepejhmfaaGreatDoorJ16
import Derived.DeepKeys4
import Derived.Test.YtolhniepejhmfaaGreatDoorChecked
import Derived.Test.YtolhniepejhmfaaGreatDoorJ01
import Derived.Deep.RegionHeld3
/-
  Layer 4 (path), plain mathematics: how the landed program reckons Is, Join, Dir, Base and Under of texts of bytes, and that it comes to what the plain answers tell. No condition but those that each theorem bears.
-/
namespace Go.Proofs.YtolhniepejhmfaaGreatDoor.W04
open Go Go.RowKit Go.Proofs.YtolhniepejhmfaaGreatDoor.M04
open Go.Proofs.YtolhniepejhmfaaGreatDoor.M03 (check)
open Go.Proofs.YtolhniepejhmfaaGreatDoor.Kit (mk_bytes mk_of ba_ext take_bytes drop_bytes cat_bytes)

theorem check_points : ¬ check [46, 46] = 0 := by decide
/-- Is -/
theorem isPath_real (l : Bytes) : isPath l = (decide (l.length ≤ 1024) && decide (clean l = l) && (parts l).all (fun p => decide (check p = 0))) := by
  unfold isPath
  cases h : (parts l).all (fun p => decide (check p = 0)) with
  | false => simp
  | true =>
    have hp : ∀ p ∈ parts l, p ≠ [46, 46] := by
      intro p hm e
      have := (List.all_eq_true.1 h) p hm
      rw [e] at this
      exact check_points (of_decide_eq_true this)
    have e : clean l = text (parts l) := by unfold clean; rw [cparts_plain hp]
    rw [e, Bool.and_true, Bool.and_true, Bool.and_comm]
    congr 1
    exact decide_eq_decide.2 ⟨fun h => h.symm, fun h => h.symm⟩
/-- Join -/
theorem prefix_slash (l : Bytes) : Lib.hasPrefix l [47] = decide (l.head? = some 47) := by
  unfold Lib.hasPrefix
  cases l with
  | nil => rfl
  | cons c r =>
    show ((47 : UInt8) == c && ([] : Bytes).isPrefixOf r) = _
    rw [List.isPrefixOf_nil_left, Bool.and_true]
    by_cases h : c = 47
    · subst h; simp
    · have h2 : ¬ (47 : UInt8) = c := fun e => h e.symm
      simp [h, h2]
theorem flat_nil : flat [] = [] := rfl
theorem text_flat {L : List Bytes} (h : L ≠ []) : text L = flat L := by unfold text; rw [if_neg h]; rfl
theorem flat_pos {L : List Bytes} (h : L ≠ []) : 0 < (flat L).length := by
  cases L with
  | nil => exact absurd rfl h
  | cons p q => unfold flat; rw [List.flatMap_cons]; simp
theorem last_more {o : List Bytes} {p : Bytes} (hp : (47 : UInt8) ∉ p) : lastSlash (flat (o ++ [p])) = ((flat o).length : Int) := by
  refine last_at ?_ ?_ ?_
  · rw [flat_more]; simp
  · rw [flat_more, List.getD_eq_getElem?_getD, List.getElem?_append_right (Nat.le_refl _)]; simp
  · rw [flat_more, List.drop_append, List.drop_of_length_le (Nat.le_succ _)]; simpa using hp
/-- Dir -/
theorem dir_real (l : Bytes) : (clean l).take (max 1 (lastSlash (clean l))).toNat = dirOf l := by
  have hp := fun p hm => (clean_parts_plain l p hm).1
  unfold dirOf
  rw [parts_clean] at hp ⊢
  show (text (cparts (parts l))).take (max 1 (lastSlash (text (cparts (parts l))))).toNat = _
  generalize cparts (parts l) = L at *
  rcases List.eq_nil_or_concat L with rfl | ⟨o, p, rfl⟩
  · rfl
  · rw [List.concat_eq_append] at *
    have h1 := (hp p (by simp)).1
    rw [text_flat (by simp), last_more h1, List.dropLast_concat]
    by_cases ho : o = []
    · subst ho
      rw [flat_more]
      rfl
    · have := flat_pos ho
      rw [text_flat ho, flat_more, show (max 1 ((flat o).length : Int)).toNat = (flat o).length by omega, List.take_left]
/-- Base -/
theorem base_real (l : Bytes) : (clean l).drop (lastSlash (clean l) + 1).toNat = base l := by
  have hp := fun p hm => (clean_parts_plain l p hm).1
  unfold base
  rw [parts_clean] at hp ⊢
  show (text (cparts (parts l))).drop (lastSlash (text (cparts (parts l))) + 1).toNat = _
  generalize cparts (parts l) = L at *
  rcases List.eq_nil_or_concat L with rfl | ⟨o, p, rfl⟩
  · rfl
  · rw [List.concat_eq_append] at *
    have h1 := (hp p (by simp)).1
    rw [text_flat (by simp), last_more h1, flat_more, show (((flat o).length : Int) + 1).toNat = (flat o).length + 1 by omega]
    rw [List.drop_append, List.drop_of_length_le (Nat.le_succ _)]
    simp
/-- Under -/
theorem parts_of_flat {L : List Bytes} (h : ∀ p ∈ L, Part p) : parts (flat L) = L := parts_flat L h
theorem suffix_root {D : List Bytes} (h : ∀ p ∈ D, Part p) : Lib.trimSuffix (text D) [47] = flat D := by
  unfold Lib.trimSuffix
  rcases List.eq_nil_or_concat D with rfl | ⟨o, p, rfl⟩
  · rfl
  · rw [List.concat_eq_append] at *
    have hp := h p (by simp)
    rw [text_flat (by simp), if_neg]
    intro hs
    have hs2 := List.isSuffixOf_iff_suffix.1 hs
    obtain ⟨t, ht⟩ := hs2
    rw [flat_more] at ht
    have e := congrArg List.getLast? ht
    obtain ⟨q, c, hq⟩ : ∃ q c, p = q ++ [c] := by
      rcases List.eq_nil_or_concat p with h0 | ⟨q, c, hq⟩
      · exact absurd h0 hp.2.1
      · exact ⟨q, c, by rw [hq, List.concat_eq_append]⟩
    have hc : (47 : UInt8) ≠ c := fun e => hp.1 (by rw [hq, ← e]; simp)
    have e3 : (47 :: (q ++ [c])).getLast? = some c := by rw [← List.cons_append, List.getLast?_append]; rfl
    rw [hq, List.getLast?_append, List.getLast?_append, e3] at e
    simp at e
    exact hc e
theorem slashed_flat : ∀ (L : List Bytes), L ≠ [] → flat L = 47 :: slashed L
  | [], h => absurd rfl h
  | [p], _ => by simp [flat, slashed]
  | p :: q :: r, _ => by
    have ih := slashed_flat (q :: r) (by simp)
    show 47 :: p ++ flat (q :: r) = _
    rw [ih]; rfl
theorem flat_append (A B : List Bytes) : flat (A ++ B) = flat A ++ flat B := List.flatMap_append
/-- what the program reckons, of clean texts -/
theorem under_real {s d : Bytes} (hs : clean s = s) (hd : clean d = d) :
    let t := Lib.trimSuffix d [47]
    let r := Lib.trimPrefix s t
    (Lib.hasPrefix s t = true ∧ (r = [] ∨ r.head? = some 47) → under s d = (Lib.trimPrefix r [47], true)) ∧
    (¬ (Lib.hasPrefix s t = true ∧ (r = [] ∨ r.head? = some 47)) → under s d = ([], false)) := by
  have hS : ∀ p ∈ parts s, Part p := parts_are s
  have hD : ∀ p ∈ parts d, Part p := parts_are d
  have es := text_parts hs
  have ed := text_parts hd
  intro t r
  have et : t = flat (parts d) := by
    show Lib.trimSuffix d [47] = _
    conv => lhs; rw [← ed]
    exact suffix_root hD
  have hu : isUnder s d = (parts d).isPrefixOf (parts s) := by simp [isUnder, hs, hd]
  -- of / itself
  by_cases e0 : parts s = []
  · have e1 : s = [47] := by rw [← es, e0]; rfl
    by_cases e2 : parts d = []
    · have et2 : t = [] := by rw [et, e2]; rfl
      have er : r = [47] := by show Lib.trimPrefix s t = _; rw [et2, e1]; rfl
      have h1 : Lib.hasPrefix s t = true := by rw [et2, e1]; rfl
      refine ⟨fun _ => ?_, fun h => absurd ⟨h1, Or.inr (by rw [er]; rfl)⟩ h⟩
      unfold under
      rw [hu, e0, e2, er]
      rfl
    · have h1 : ¬ Lib.hasPrefix s t = true := by
        rw [et, e1]
        intro h
        have h2 := (List.isPrefixOf_iff_prefix.1 h).length_le
        cases hc : parts d with
        | nil => exact e2 hc
        | cons p q =>
          rw [hc] at h2 hD
          have hp := hD p (by simp)
          have : 0 < p.length := List.length_pos_iff.2 hp.2.1
          have h3 : (flat (p :: q)).length = p.length + 1 + (flat q).length := by unfold flat; rw [List.flatMap_cons, List.length_append, List.length_cons]
          rw [h3, List.length_singleton] at h2
          omega
      refine ⟨fun h => absurd h.1 h1, fun _ => ?_⟩
      unfold under
      rw [hu, e0, if_neg]
      cases hc : parts d with
      | nil => exact absurd hc e2
      | cons p q => simp
  · have es2 : s = flat (parts s) := by conv => lhs; rw [← es, text_flat e0]
    by_cases hpre : (parts d).isPrefixOf (parts s) = true
    · obtain ⟨E, hE⟩ := List.isPrefixOf_iff_prefix.1 hpre
      have h1 : s = t ++ flat E := by rw [et, ← flat_append, hE]; exact es2
      have h2 : Lib.hasPrefix s t = true := List.isPrefixOf_iff_prefix.2 ⟨flat E, h1.symm⟩
      have er : r = flat E := by
        show Lib.trimPrefix s t = _
        unfold Lib.trimPrefix
        rw [if_pos h2]
        conv => lhs; rw [h1]
        exact List.drop_left
      have hE2 : (parts s).drop (parts d).length = E := by rw [← hE, List.drop_left]
      have hr : r = [] ∨ r.head? = some 47 := by
        rw [er]
        by_cases e : E = []
        · subst e; exact Or.inl rfl
        · right; rw [slashed_flat E e]; rfl
      refine ⟨fun _ => ?_, fun h => absurd ⟨h2, hr⟩ h⟩
      unfold under
      rw [hu, if_pos hpre, hE2, er]
      by_cases e : E = []
      · subst e; rfl
      · rw [slashed_flat E e]; rfl
    · refine ⟨fun h => ?_, fun _ => ?_⟩
      · exfalso
        obtain ⟨h1, h2⟩ := h
        obtain ⟨x, hx⟩ := List.isPrefixOf_iff_prefix.1 h1
        have er : r = x := by
          show Lib.trimPrefix s t = _
          unfold Lib.trimPrefix
          rw [if_pos h1]
          conv => lhs; rw [← hx]
          exact List.drop_left
        apply hpre
        rw [List.isPrefixOf_iff_prefix]
        rw [er] at h2
        rcases h2 with h2 | h2
        · rw [h2, List.append_nil, et] at hx
          have := congrArg parts hx
          rw [parts_of_flat hD] at this
          rw [← this]
          exact List.prefix_refl _
        · cases x with
          | nil => simp at h2
          | cons c y =>
            simp at h2
            subst h2
            have := congrArg parts hx
            rw [parts_slash, et, parts_of_flat hD] at this
            exact ⟨_, this⟩
      · unfold under
        rw [hu, if_neg hpre]
theorem clean_pos (l : Bytes) : 1 ≤ (clean l).length := by
  unfold clean
  by_cases h : cparts (parts l) = []
  · rw [h]; exact Nat.le_refl _
  · rw [text_flat h]; exact flat_pos h
theorem last_lt {l : Bytes} (h : 1 ≤ l.length) : -1 ≤ lastSlash l ∧ lastSlash l + 1 ≤ l.length := by unfold lastSlash; split <;> omega
end Go.Proofs.YtolhniepejhmfaaGreatDoor.W04
/-
  Layer 4 (path), walks: what the program's isClean, Is, Join, Dir, Base, Under and Within return at texts of less than 2^48 bytes (Is: of at most 2^31); nothing that was there is changed.
-/
namespace Go.Proofs.YtolhniepejhmfaaGreatDoor.W04
open Go Go.RowKit Go.Proofs.YtolhniepejhmfaaGreatDoor.Strs Go.Proofs.YtolhniepejhmfaaGreatDoor.M04
open Go.Proofs.YtolhniepejhmfaaGreatDoor.Kit (ret_str ret_bool ret_int mk_of mk_bytes ba_ext below_draws on take_bytes drop_bytes cat_bytes bytes_nil bytes_cons list_full list_ne list_none list_nil)

theorem same_bytes (a b : ByteArray) : (a.toList == b.toList) = decide (a.data.toList = b.data.toList) := by
  rw [Lib.toList_data, Lib.toList_data]
  by_cases h : a.data.toList = b.data.toList
  · simp [h]
  · rw [decide_eq_false h]
    exact beq_eq_false_iff_ne.2 h
theorem under_flag (s d : Bytes) : (under s d).2 = isUnder s d := by
  unfold under
  split
  · rename_i h; exact h.symm
  · rename_i h; simp at h; exact h.symm
theorem not_clean_under {s d : Bytes} (h : ¬ (clean s = s ∧ clean d = d)) : under s d = ([], false) := by
  unfold under isUnder
  rw [if_neg]
  intro e
  simp only [Bool.and_eq_true, decide_eq_true_eq] at e
  exact h e.1
theorem head_byte {r : ByteArray} (h : 0 < r.size) : (r.data.toList = [] ∨ r.data.toList.head? = some 47) ↔ (r[0].toNat : Int) = 47 := by
  rw [bytes_cons h]
  constructor
  · rintro (e | e)
    · cases e
    · simp at e
      rw [e]; rfl
  · intro e
    right
    have : r[0] = 47 := Kit.byte_eq (d := 47) e
    simp [this]
theorem ret_text_bool {a b : ByteArray} (h : a = b) (x : Bool) : Ending.returned (.tuple #[.string a, .bool x]) = .returned (.tuple #[.string b, .bool x]) := by rw [h]
end Go.Proofs.YtolhniepejhmfaaGreatDoor.W04
/-
  Go's slices.Reverse on a slice of texts, in words of rows that a call owns: out of the laid contracts. No condition but those that the theorem bears.
-/
namespace Go.Proofs.YtolhniepejhmfaaGreatDoor.Strs
open Go Go.RowKit Go.Sort

end Go.Proofs.YtolhniepejhmfaaGreatDoor.Strs
/-
  Go's strings.Join of a slice of texts with a slash between, in words of texts: out of the laid contracts. The conditions stand in the statement.
-/
namespace Go.Proofs.YtolhniepejhmfaaGreatDoor.Strs
open Go Go.RowKit Go.Proofs.YtolhniepejhmfaaGreatDoor.M04
open Go.Proofs.YtolhniepejhmfaaGreatDoor.Kit (mk_bytes mk_of ret_str on)

theorem join_slashed : ∀ L : List Bytes, Lib.join L [47] = slashed L
  | [] => rfl
  | [p] => by rw [Lib.join_one]; rfl
  | p :: q :: r => by
    have h := join_slashed (q :: r)
    rw [Lib.join_cons] at h ⊢
    show p ++ Lib.joinTail [47] (q :: r) = p ++ 47 :: slashed (q :: r)
    rw [← h]
    simp [Lib.joinTail]
theorem datas_map (L : List Bytes) : (L.map fun l => (⟨l.toArray⟩ : ByteArray)).map (·.data.toList) = L := by
  rw [List.map_map]
  exact List.map_id _
/-- nothing appended: a slice without an address, whatever its room -/
theorem run_append_nothing {P : Program} {w : World} (base : Nat) (t ty e : TypeId) (i : TypeInfo) (size : Nat) (ht : P.underlying t = some (.slice e)) (hi : P.info? e = some i)
    (v : Value) (n c : Nat) (xs : List Value) (hown : w.ownsRow base e size v n xs) :
    (Builtin.append_ #[t, t] ty #[v, .slice none 0 c]).run P w = .ok v w := by
  rcases hown.2 with ⟨rfl, rfl⟩ | ⟨g, cap, cur, rfl, _, _, hnc, _⟩
  · simp [Builtin.append_, run_underlying ht, sizeOf, typeInfo, hi, Builtin.lenOf, Builtin.firstCells]
  · simp [Builtin.append_, run_underlying ht, sizeOf, typeInfo, hi, Builtin.lenOf, Builtin.firstCells, hnc, storeCells]
theorem wpList_append_nothing {P : Program} {w : World} {ops : Array Oper} {rest : List Oper} {o : Oper} {a : Act} {Q : Exit → Act → World → Prop} (hgd : o.guard = none) (s x : Operand) (t : TypeId)
    (ho : o.op = .call { callee := .builtin .append, args := #[s, x], argTypes := #[t, t] })
    (base : Nat) (e : TypeId) (i : TypeInfo) (size : Nat) (ht : P.underlying t = some (.slice e)) (hi : P.info? e = some i)
    (v : Value) (n c : Nat) (xs : List Value) (hs : a.eval s = v) (hown : w.ownsRow base e size v n xs) (hx : a.eval x = .slice none 0 c)
    (h : wpList P ops Q rest (a.put o.dst v) w) : wpList P ops Q (o :: rest) a w := by
  refine wpList_plain hgd fun K hK => ?_
  have hrun := run_append_nothing (P := P) (w := w) base t o.type e i size ht hi v n c xs hown
  unfold Oper.wp
  simp [execOp, ho, resolve, invoke, builtin, hs, hx, hrun, Result.andThen]
  exact hK _ _ h
end Go.Proofs.YtolhniepejhmfaaGreatDoor.Strs
/-
  Layer 8 (seek): Straight: whether a path leads by directories alone; nameOf, Real: a node's own path; nothing that was there is changed. The conditions stand in the statement.
-/
namespace Go.Proofs.YtolhniepejhmfaaGreatDoor.W08
open Go Go.RowKit Go.Proofs.YtolhniepejhmfaaGreatDoor.Strs Go.Proofs.YtolhniepejhmfaaGreatDoor.Recs Go.Proofs.YtolhniepejhmfaaGreatDoor.Range
open Go.Proofs.YtolhniepejhmfaaGreatDoor.M07 (Tr Nd nodeAt inDir Right at_some height upOf)
open Go.Proofs.YtolhniepejhmfaaGreatDoor.M08 Go.Proofs.YtolhniepejhmfaaGreatDoor.M04
open Go.Proofs.YtolhniepejhmfaaGreatDoor.M03 (check)
open Go.Proofs.YtolhniepejhmfaaGreatDoor.W07 (Small Trees trees listed)
open Go.Proofs.YtolhniepejhmfaaGreatDoor.Kit (ret_str ret_bool ret_int mk_of mk_bytes ba_ext below_draws on list_full list_ne list_none list_nil bytes_nil bytes_ne cat_bytes)

theorem rep_form {F : Nat → Prop} {w : World} {v : Value} {t : Tr} (P : W07.Rep F w v t) : ∃ sb, v = .pointer (some ⟨sb, 0, none⟩) := by
  obtain ⟨-, sb, mb, lv, rfl, -⟩ := P
  exact ⟨sb, rfl⟩
/-- which entry of a directory is a node's own -/
theorem own_at {t : Tr} (h : Right t) {n : Int} (hk : (nodeAt t.L n).kind ≠ 0) (h1 : n ≠ 1) : ∃ i : Nat, (listed t (nodeAt t.L n).up)[i]? = some ((nodeAt t.L n).name, n) ∧ ∀ (j : Nat) (e : M06.Ent), (listed t (nodeAt t.L n).up)[j]? = some e → j ≠ i → e.2 ≠ n := by
  obtain ⟨A, B, e, hA, hB⟩ := own_entry h hk h1
  rw [e]
  refine ⟨A.length, by simp, fun j x hj hne => ?_⟩
  rcases Nat.lt_or_ge j A.length with q | q
  · rw [List.getElem?_append_left q] at hj
    exact hA _ (List.mem_of_getElem? hj)
  · rw [List.getElem?_append_right q] at hj
    obtain ⟨m, hm⟩ : ∃ m, j - A.length = m + 1 := ⟨j - A.length - 1, by omega⟩
    rw [hm, List.getElem?_cons_succ] at hj
    exact hB _ (List.mem_of_getElem? hj)
/-- an own row stays -/
theorem own_on {w w' : World} {base : Nat} {e : TypeId} {size n : Nat} {v : Value} {xs : List Value} (h : w.ownsRow base e size v n xs) (hb : Below w.heap.size w w') : w'.ownsRow base e size v n xs := (Turns.new (T := fun _ => False) hb).row h (fun _ _ h => h)
/-- the path of the names, as it is put together -/
theorem text_slashed (L : List Bytes) : text L = 47 :: slashed L := by
  by_cases h : L = []
  · subst h; rfl
  · rw [← W04.slashed_flat L h]
    unfold text
    rw [if_neg h]; rfl
end Go.Proofs.YtolhniepejhmfaaGreatDoor.W08
/-
  Maps keyed by whatever type of keys may be: a map of which each entry bears a property of its key and its value: made, looked up ('v, ok := m[k]'), stored into; for every program. Plain lemmas on worlds; no condition but those that each theorem bears.
-/
namespace Go.Proofs.YtolhniepejhmfaaGreatDoor.Maps
open Go Go.RowKit Go.Maps Go.ChangeMaps Go.MapKept
open Go.WideElems (Fit rd rg pl rd_key rd_val rg_of)

/-- in w the block b is a map of at most m entries, and V holds of each one's key and value -/
def MapAll (w : World) (P : Program) (k : TypeId) (b m : Nat) (V : Value → Value → Prop) : Prop :=
  ∃ es clock, w.heap[b]? = some (.map es clock) ∧ Fit P k hold es clock ∧ es.size ≤ m ∧ ∀ x ∈ es.toList, V x.key x.val
section
variable {P : Program} {k t e : TypeId} {w w' : World} {b m : Nat} {V : Value → Value → Prop}
theorem mapAll_made (w : World) (P : Program) (k : TypeId) (V : Value → Value → Prop) : MapAll (w.alloc (.map #[] 0)) P k w.heap.size 0 V := by
  obtain ⟨es, clock, h1, h2, h3, -⟩ := World.ownsMap_made (H := Value) w P k hold
  refine ⟨es, clock, h1, h2, h3, fun x hx => ?_⟩
  have : es.toList = [] := List.length_eq_zero_iff.1 (by simpa using h3)
  rw [this] at hx
  cases hx
theorem MapAll.keep (h : MapAll w P k b m V) (hb : w'.heap[b]? = w.heap[b]?) : MapAll w' P k b m V := by
  obtain ⟨es, clock, h1, r⟩ := h
  exact ⟨es, clock, hb.trans h1, r⟩
theorem MapAll.lt (h : MapAll w P k b m V) : b < w.heap.size := by
  obtain ⟨es, clock, h1, r⟩ := h
  exact (Array.getElem?_eq_some_iff.1 h1).1
theorem MapAll.below (h : MapAll w P k b m V) (hb : Below w.heap.size w w') : MapAll w' P k b m V := h.keep (hb.block b h.lt)
theorem MapAll.more (h : MapAll w P k b m V) {n : Nat} (hn : m ≤ n) : MapAll w P k b n V := by
  obtain ⟨es, clock, h1, h2, h3, h4⟩ := h
  exact ⟨es, clock, h1, h2, Nat.le_trans h3 hn, h4⟩
/-- no cell lies in a map's block -/
theorem MapAll.nocell (h : MapAll w P k b m V) (a : Addr) (ha : a.block = b) : w.cell? a = none := by
  obtain ⟨es, clock, h1, r⟩ := h
  obtain ⟨bb, o, s⟩ := a
  cases ha
  have h2 : w.heap[bb]? = some (.map es clock) := h1
  cases s with
  | none => simp [World.cell?, h2]
  | some q => simp [World.cell?, h2]
/-- 'v, ok := m[key]' -/
theorem MapAll.look (h : MapAll w P k b m V) (K : Keyed P k) (ht : P.underlying t = some (.map k e)) {z : Value} (hz : (zeroValue e).run P w = .ok z w) {key : Value} {kl : Lit} (hkey : keyOf P k key = some kl) :
    (Instr.lookup t (.map (some b)) key true).run P w = .ok (.tuple #[z, .bool false]) w ∨ ∃ v, V key v ∧ (Instr.lookup t (.map (some b)) key true).run P w = .ok (.tuple #[v, .bool true]) w := by
  obtain ⟨es, clock, hb, F, hs, hV⟩ := h
  rcases Maps.fit_look true K ht hz hb F hkey with ⟨hrun, _, hat⟩ | ⟨e0, y, hm, hk, hrun, hRv, hat, _⟩
  · exact Or.inl hrun
  · exact Or.inr ⟨e0.val, hk ▸ hV e0 hm, hrun⟩
/-- 'm[key] = v' -/
theorem MapAll.store (h : MapAll w P k b m V) (K : Keyed P k) (ht : P.underlying t = some (.map k e)) (hm : m < maxLen) {key : Value} {kl : Lit} (hkey : keyOf P k key = some kl) {v : Value} (hv : V key v) :
    ∃ w', (Instr.mapUpdate t (.map (some b)) key v).run P w = .ok () w' ∧ MapAll w' P k b (m + 1) V ∧ w.mapTurned w' b := by
  obtain ⟨es, clock, hb, F, hs, hV⟩ := h
  obtain ⟨es', clock', hrun, F', hput, -, -, hwho⟩ := Maps.fit_store (R' := hold) K ht hb F (Nat.lt_of_le_of_lt hs hm) (fun _ _ _ _ hz => hz) hkey (val := v) rfl
  refine ⟨_, hrun, ⟨es', clock', heap_setBlock_same hb _, F', ?_, fun x hx => ?_⟩, ⟨es, clock, es', clock', hb, rfl⟩⟩
  · have e1 : es'.size = ((es'.toList.map (rg P k hold)).foldr DataW.insert []).length := by rw [length_sorted]; simp
    rw [e1, hput]
    unfold putKey
    rw [length_insert]
    have e2 := List.length_filter_le (notKey kl) ((es.toList.map (rg P k hold)).foldr DataW.insert [])
    rw [length_sorted] at e2
    simp at e2
    omega
  · rcases hwho x hx with ⟨h1, -⟩ | ⟨h1, h2⟩
    · exact hV x h1
    · rw [h1, h2]; exact hv
end
end Go.Proofs.YtolhniepejhmfaaGreatDoor.Maps
/-
  Layer 8 (seek): the map of what was found: its keys (a directory's number and a name), what it may hold; how a map that is kept aside leaves all else as it is. Plain lemmas on worlds; no condition but those that each theorem bears.
-/
namespace Go.Proofs.YtolhniepejhmfaaGreatDoor.W08
open Go Go.RowKit Go.Proofs.YtolhniepejhmfaaGreatDoor.Strs Go.Proofs.YtolhniepejhmfaaGreatDoor.Maps
open Go.Proofs.YtolhniepejhmfaaGreatDoor.M07 (Tr inDir)

theorem laid_out : laidOutB Tryz.prog = true := by kernel_rfl
theorem place_row : (158 : TypeId) < Tryz.prog.types.size := of_decide_eq_true (by kernel_rfl)
theorem place_wide : (match Tryz.prog.underlying 158 with | some (.array _ _) | some (.struct _) => true | _ => false) = true := by rw [Tryz.underlying158]
set_option maxRecDepth 100000 in
theorem place_keyed : Maps.Keyed Tryz.prog 158   := Maps.Keyed.of_law (deep_law_laid laid_out (m := 2) (by omega) place_row (by kernel_rfl) place_wide)
theorem place_cells : Tryz.prog.cellsOf 158 = 2 := by kernel_rfl
theorem cells_int : Tryz.prog.cellsOf 3 = 1 := by kernel_rfl
theorem cells_string : Tryz.prog.cellsOf 9 = 1 := by kernel_rfl
theorem place_type : Tryz.prog.keyType 158 = true := by kernel_rfl
theorem types_some : ∃ m, Tryz.prog.types.size = m + 1 := by
  have h : (158 : Nat) < Tryz.prog.types.size := place_row
  exact ⟨Tryz.prog.types.size - 1, by omega⟩
theorem place_key (d : Int) (s : ByteArray) (hd : (Lit.int .i64 d).wf = true) (hs : s.size ≤ maxLen) : keyOf Tryz.prog 158 (.agg #[.int .i64 d, .string s]) = some (.string (keyBytes [.int .i64 d, .string s.data.toList])) := by
  obtain ⟨m, hm⟩ := types_some
  unfold keyOf
  simp only [Tryz.underlying158]
  rw [if_pos (by simp [place_type, Value.formed, Tryz.underlying158, place_cells]), hm]
  unfold Program.keyLits
  simp only [Tryz.underlying158, Value.cells]
  rw [if_pos (by simp [place_cells])]
  simp [cells_int, cells_string, Program.keyLits, Tryz.underlying3, Tryz.underlying9, hd, hs]
theorem seen_under : Tryz.prog.underlying 155 = some (.map 158 3) := Tryz.underlying155
theorem zero_int (w : World) : (zeroValue 3).run Tryz.prog w = .ok (.int .i64 0) w := by kernel_rfl
/-- what an entry tells: the node of that name in that directory -/
def found (t : Tr) (key v : Value) : Prop := ∀ (d : Int) (s : ByteArray), key = .agg #[.int .i64 d, .string s] → v = .int .i64 (inDir t.L d s.data.toList) ∧ inDir t.L d s.data.toList ≠ 0
/-- in w the block b holds a map of what was found, of at most m entries -/
abbrev Seen (t : Tr) (w : World) (b m : Nat) : Prop := MapAll w Tryz.prog 158 b m (found t)
section
variable {t : Tr} {w w' : World} {b m : Nat}
theorem Seen.ask (h : Seen t w b m) (d : Int) (s : ByteArray) (hd : (Lit.int .i64 d).wf = true) (hs : s.size ≤ maxLen) :
    (Instr.lookup 155 (.map (some b)) (.agg #[.int .i64 d, .string s]) true).run Tryz.prog w = .ok (.tuple #[.int .i64 0, .bool false]) w ∨
    (inDir t.L d s.data.toList ≠ 0 ∧ (Instr.lookup 155 (.map (some b)) (.agg #[.int .i64 d, .string s]) true).run Tryz.prog w = .ok (.tuple #[.int .i64 (inDir t.L d s.data.toList), .bool true]) w) := by
  rcases MapAll.look h place_keyed seen_under (zero_int w) (place_key d s hd hs) with h1 | ⟨v, hv, h1⟩
  · exact Or.inl h1
  · obtain ⟨e, h2⟩ := hv d s rfl
    subst e
    exact Or.inr ⟨h2, h1⟩
theorem Seen.put (h : Seen t w b m) (d : Int) (s : ByteArray) (hd : (Lit.int .i64 d).wf = true) (hs : s.size ≤ maxLen) (hm : m < maxLen) (hn : inDir t.L d s.data.toList ≠ 0) :
    ∃ w', (Instr.mapUpdate 155 (.map (some b)) (.agg #[.int .i64 d, .string s]) (.int .i64 (inDir t.L d s.data.toList))).run Tryz.prog w = .ok () w' ∧ Seen t w' b (m + 1) ∧ w.mapTurned w' b :=
  MapAll.store h place_keyed seen_under hm (place_key d s hd hs) (by
    intro d2 s2 e
    have e1 : d = d2 ∧ s = s2 := by simpa using e
    obtain ⟨rfl, rfl⟩ := e1
    exact ⟨rfl, hn⟩)
end

/-! all but a map -/
/-- nothing that was there has turned but the map in block b -/
structure Beside (b : Nat) (w w' : World) : Prop where
  os : w'.os = w.os
  tape : w'.tape = w.tape
  output : w'.output = w.output
  size : w.heap.size ≤ w'.heap.size
  block : ∀ i, i < w.heap.size → i ≠ b → w'.heap[i]? = w.heap[i]?
section
variable {w w' w'' : World} {b : Nat}
theorem Beside.refl (b : Nat) (w : World) : Beside b w w := ⟨rfl, rfl, rfl, Nat.le_refl _, fun _ _ _ => rfl⟩
theorem Beside.trans (h : Beside b w w') (k : Beside b w' w'') : Beside b w w'' := ⟨k.os.trans h.os, k.tape.trans h.tape, k.output.trans h.output, Nat.le_trans h.size k.size, fun i hi hb => (k.block i (Nat.lt_of_lt_of_le hi h.size) hb).trans (h.block i hi hb)⟩
theorem Beside.of_below (b : Nat) (h : Below w.heap.size w w') : Beside b w w' := ⟨h.os, h.tape, h.output, h.size, fun i hi _ => h.block i hi⟩
theorem Beside.of_turned (h : w.mapTurned w' b) : Beside b w w' := by
  have g := h.grown
  exact ⟨g.os, g.tape, g.output, g.size, fun i hi hb => g.block i hi (fun e => hb (Option.some.inj e))⟩
theorem Beside.below (h : Beside b w w') {B : Nat} (hb : B ≤ b) (hB : B ≤ w.heap.size) : Below B w w' := ⟨h.os, h.tape, h.output, h.size, fun i hi => h.block i (Nat.lt_of_lt_of_le hi hB) (by omega)⟩
theorem cell_block {w w' : World} (a : Addr) (h : w'.heap[a.block]? = w.heap[a.block]?) : w'.cell? a = w.cell? a := by
  obtain ⟨bb, o, s⟩ := a
  have h2 : w'.heap[bb]? = w.heap[bb]? := h
  unfold World.cell?
  simp only [h2]
/-- a cell that is there stays -/
theorem Beside.cell (h : Beside b w w') {a : Addr} {v : Value} (hc : w.cell? a = some v) (hn : a.block = b → w.cell? a = none) : w'.cell? a = some v := by
  by_cases e : a.block = b
  · rw [hn e] at hc; cases hc
  · have hl : a.block < w.heap.size := by
      rcases Nat.lt_or_ge a.block w.heap.size with q | q
      · exact q
      · have hz : w.heap[a.block]? = none := Array.getElem?_eq_none q
        have : w.cell? a = none := by
          obtain ⟨bb, o, s⟩ := a
          have hz2 : w.heap[bb]? = none := hz
          unfold World.cell?
          simp [hz2]
        rw [this] at hc; cases hc
    rw [cell_block a (h.block _ hl e)]
    exact hc
/-- texts stay, where no cell lies in the map's block -/
theorem Beside.texts (h : Beside b w w') (hn : ∀ a : Addr, a.block = b → w.cell? a = none) {B : Nat} {v : Value} {L : List (List UInt8)} (ht : Texts B w v L) : Texts B w' v L := by
  obtain ⟨A, c, e, h1, h2, h3⟩ := ht
  exact ⟨A, c, e, h1, h2, fun h0 => by
    obtain ⟨ad, e2, hb, hc⟩ := h3 h0
    exact ⟨ad, e2, hb, fun k hk => h.cell (hc k hk) (hn _)⟩⟩
end
end Go.Proofs.YtolhniepejhmfaaGreatDoor.W08
/-
  Layer 8 (seek): one step: the node to which one part leads; what was found is kept in a map; nothing else that was there is changed. The conditions stand in the statement.
-/
namespace Go.Proofs.YtolhniepejhmfaaGreatDoor.W08
set_option maxRecDepth 100000
open Go Go.RowKit Go.Proofs.YtolhniepejhmfaaGreatDoor.Strs Go.Proofs.YtolhniepejhmfaaGreatDoor.Recs Go.Proofs.YtolhniepejhmfaaGreatDoor.Range
open Go.Proofs.YtolhniepejhmfaaGreatDoor.M07 (Tr Nd nodeAt inDir Right)
open Go.Proofs.YtolhniepejhmfaaGreatDoor.M08 Go.Proofs.YtolhniepejhmfaaGreatDoor.M04
open Go.Proofs.YtolhniepejhmfaaGreatDoor.M03 (check)
open Go.Proofs.YtolhniepejhmfaaGreatDoor.W07 (Small Trees listed)
open Go.Proofs.YtolhniepejhmfaaGreatDoor.Kit (ret_str ret_bool ret_int mk_of mk_bytes ba_ext below_draws on)

/-- where one part leads from a directory, links not being followed -/
def stepN (t : Tr) (d : Int) (p : Bytes) : Int × Int :=
  if (nodeAt t.L d).kind ≠ 1 then (0, 7) else if p = [46, 46] then ((nodeAt t.L d).up, 0) else if check p ≠ 0 then (0, check p) else if inDir t.L d p = 0 then (0, 5) else (inDir t.L d p, 0)
section
variable {t : Tr} {d : Int} {p : Bytes}
theorem step_dir (h : ¬ (nodeAt t.L d).kind = 1) : stepN t d p = (0, 7) := if_pos h
theorem step_up (h : (nodeAt t.L d).kind = 1) (hp : p = [46, 46]) : stepN t d p = ((nodeAt t.L d).up, 0) := by unfold stepN; rw [if_neg (by simpa using h), if_pos hp]
theorem step_bad (h : (nodeAt t.L d).kind = 1) (hp : ¬ p = [46, 46]) (hc : check p ≠ 0) : stepN t d p = (0, check p) := by unfold stepN; rw [if_neg (by simpa using h), if_neg hp, if_pos hc]
theorem step_none (h : (nodeAt t.L d).kind = 1) (hp : ¬ p = [46, 46]) (hc : check p = 0) (hn : inDir t.L d p = 0) : stepN t d p = (0, 5) := by unfold stepN; rw [if_neg (by simpa using h), if_neg hp, if_neg (by simpa using hc), if_pos hn]
theorem step_on (h : (nodeAt t.L d).kind = 1) (hp : ¬ p = [46, 46]) (hc : check p = 0) (hn : ¬ inDir t.L d p = 0) : stepN t d p = (inDir t.L d p, 0) := by unfold stepN; rw [if_neg (by simpa using h), if_neg hp, if_neg (by simpa using hc), if_neg hn]
/-- an error ends it -/
theorem goTo_err {r : List Bytes} {last : Bool} {hops : Nat} (he : (stepN t d p).2 ≠ 0) : goTo t d (p :: r) last hops = (0, hops, (stepN t d p).2) ∧ (stepN t d p).1 = 0 := by
  by_cases h : (nodeAt t.L d).kind = 1
  · by_cases hp : p = [46, 46]
    · rw [step_up h hp] at he; exact absurd rfl he
    · by_cases hc : check p = 0
      · by_cases hn : inDir t.L d p = 0
        · rw [step_none h hp hc hn, go_none h hp hc hn]; exact ⟨rfl, rfl⟩
        · rw [step_on h hp hc hn] at he; exact absurd rfl he
      · rw [step_bad h hp hc, go_bad h hp hc]; exact ⟨rfl, rfl⟩
  · rw [step_dir h, go_no h]; exact ⟨rfl, rfl⟩
theorem up_dir (hR : Right t) (h : (nodeAt t.L d).kind = 1) : (nodeAt t.L (nodeAt t.L d).up).kind = 1 := hR.up _ (M07.at_some (by rw [h]; decide)).1
/-- no link, or a link at the end that is not to be followed -/
theorem goTo_on {r : List Bytes} {last : Bool} {hops : Nat} (he : (stepN t d p).2 = 0) (hk : (nodeAt t.L (stepN t d p).1).kind ≠ 3 ∨ (r = [] ∧ last = false)) : goTo t d (p :: r) last hops = goTo t (stepN t d p).1 r last hops := by
  by_cases h : (nodeAt t.L d).kind = 1
  · by_cases hp : p = [46, 46]
    · rw [step_up h hp, go_up h hp]
    · by_cases hc : check p = 0
      · by_cases hn : inDir t.L d p = 0
        · rw [step_none h hp hc hn] at he; exact absurd he (by decide)
        · rw [step_on h hp hc hn] at hk ⊢; exact go_on h hp hc hn hk
      · rw [step_bad h hp hc] at he; exact absurd he hc
  · rw [step_dir h] at he; exact absurd he (by decide)
theorem goTo_link (hR : Right t) {r : List Bytes} {last : Bool} {hops : Nat} (he : (stepN t d p).2 = 0) (hk : ¬ ((nodeAt t.L (stepN t d p).1).kind ≠ 3 ∨ (r = [] ∧ last = false))) :
    goTo t d (p :: r) last hops = if 40 ≤ hops then (0, hops, 10) else goTo t (M08.base d (nodeAt t.L (stepN t d p).1).data) (parts (nodeAt t.L (stepN t d p).1).data ++ r) last (hops + 1) := by
  by_cases h : (nodeAt t.L d).kind = 1
  · by_cases hp : p = [46, 46]
    · rw [step_up h hp] at hk
      exact absurd (Or.inl (by rw [up_dir hR h]; decide)) hk
    · by_cases hc : check p = 0
      · by_cases hn : inDir t.L d p = 0
        · rw [step_none h hp hc hn] at he; exact absurd he (by decide)
        · rw [step_on h hp hc hn] at hk ⊢
          by_cases h40 : 40 ≤ hops
          · rw [if_pos h40]; exact go_loop h hp hc hn hk h40
          · rw [if_neg h40]; exact go_link h hp hc hn hk h40
      · rw [step_bad h hp hc] at he; exact absurd he hc
  · rw [step_dir h] at he; exact absurd he (by decide)
theorem check_long (hl : 64 < p.length) : check p = 11 := by
  unfold M03.check
  rw [if_neg (by omega), if_pos hl]
theorem check_zero (h : Part p) (hl : ¬ 64 < p.length) (hz : (0 : UInt8) ∈ p) : check p = 11 := by
  unfold M03.check
  rw [if_neg (fun e => h.2.1 (List.length_eq_zero_iff.1 e)), if_neg hl, if_pos (List.any_eq_true.2 ⟨0, hz, by decide⟩)]
theorem check_good (h : Part p) (hl : ¬ 64 < p.length) (hz : (0 : UInt8) ∉ p) (hp : ¬ p = [46, 46]) : check p = 0 := by
  unfold M03.check
  rw [if_neg (fun e => h.2.1 (List.length_eq_zero_iff.1 e)), if_neg hl, if_neg, if_neg (by rintro (e | e); exact h.2.2 e; exact hp e)]
  rw [Bool.not_eq_true, List.any_eq_false]
  intro c hc
  have h0 : c ≠ 0 := fun e => hz (e ▸ hc)
  have h47 : c ≠ 47 := fun e => h.1 (e ▸ hc)
  simp [M03.badByte, h0, h47]
end
theorem num_wf {t : Tr} (hR : Right t) (hs : Small t) {d : Int} (h : (nodeAt t.L d).kind = 1) : (Lit.int .i64 d).wf = true := by
  have hm := M07.at_some (L := t.L) (n := d) (by rw [h]; decide)
  have he := hR.ends _ hm.1
  have hl := hs.2
  rw [hm.2] at he
  exact WalkArith.wf_i64 (by omega)
theorem box_keep {w2 w' : World} {p : Nat} {a b : Value} (hp : p < w2.heap.size) (h : w2.cell? ⟨p, 0, none⟩ = some a ∧ w2.cell? ⟨p, 1, none⟩ = some b) (hb : Below w2.heap.size w2 w') : w'.cell? ⟨p, 0, none⟩ = some a ∧ w'.cell? ⟨p, 1, none⟩ = some b ∧ Below w2.heap.size w2 w' :=
  ⟨(hb.cell (p := ⟨p, 0, none⟩) hp).trans h.1, (hb.cell (p := ⟨p, 1, none⟩) hp).trans h.2, hb⟩
/-- what a step leaves -/
def Stepped (t : Tr) (b m : Nat) (R : Int × Int) (w : World) (e : Ending) (w' : World) : Prop := e = .returned (.tuple #[.int .i64 R.1, .int .i64 R.2]) ∧ Seen t w' b (m + 1) ∧ Beside b w w'
theorem Stepped.of {t : Tr} {b m : Nat} {R : Int × Int} {w w' : World} {x y : Int} (hR : R = (x, y)) (hS : Seen t w b m) (hB : Below w.heap.size w w') : Stepped t b m R w (.returned (.tuple #[.int .i64 x, .int .i64 y])) w' := by
  subst hR
  exact ⟨rfl, (hS.below hB).more (by omega), .of_below b hB⟩
set_option maxHeartbeats 8000000 in
theorem step_any {Rep : (Nat → Prop) → World → Value → Tr → Prop} (C : Trees Rep) {F : Nat → Prop} {w : World} {v : Value} {t : Tr} (P : Rep F w v t) (G : Good t) (d : Int) (s : ByteArray) (hs : s.size ≤ 1099511627776) (hp : Part s.data.toList) (b m : Nat) (hm : m < maxLen) (S : Seen t w b m) (hF : ∀ k, F k → k ≠ b) :
    Calls Tryz.prog 109 #[v, .agg #[.int .i64 d, .string s], .map (some b)] w (Stepped t b m (stepN t d s.data.toList) w) := by
  have HR := Lib.hid (C.right P)
  have HG := Lib.hid G
  obtain ⟨w1, hw1⟩ : ∃ w1, w.alloc (.cells #[.int .i64 d, .string s] 158) = w1 := ⟨_, rfl⟩
  have B1 : Hid (Below w.heap.size w w1) := by show Below _ _ _; rw [← hw1]; exact (Below.refl w.heap.size w).alloc (Nat.le_refl _) _
  have Z1 : w1.heap.size = w.heap.size + 1 := by rw [← hw1]; simp
  have hp1 : w.heap.size < w1.heap.size := by omega
  have c0 : w1.cell? ⟨w.heap.size, 0, none⟩ = some (.int .i64 d) := by rw [← hw1]; simp
  have c1 : w1.cell? ⟨w.heap.size, 1, none⟩ = some (.string s) := by rw [← hw1]; simp
  have HK := Lib.hid (C.kind (C.below P B1.out) G.small d)
  have HS := Lib.hid S
  have HF := Lib.hid hF
  have HP := Lib.hid P
  have HPT := Lib.hid hp
  have HSI := Lib.hid hs
  clear P G S hF hp hs
  by_cases hk : (nodeAt t.L d).kind = 1
  · have tk : ((nodeAt t.L d).kind != 1) = false := by simp [hk]
    have HWF := Lib.hid (num_wf HR.out HG.out.small hk)
    by_cases hdd : s.data.toList = [46, 46]
    · have HX := Lib.hid (step_up (t := t) hk hdd)
      have ts : (s.toList == [46, 46]) = true := by rw [Lib.toList_data, hdd]; rfl
      have HUP := Lib.hid (fun (w' : World) (hb : Below w.heap.size w w') => C.up (C.below HP.out hb) HG.out.small d)
      generalize stepN t d s.data.toList = R at *
      generalize nodeAt t.L d = x at *
      clear hk hdd HWF
      go_enter Tryz.func109, Tryz.ntmps109
      go_wp2_with fail
      refine HK.out.mono ?_
      rintro e w2 ⟨rfl, hb2⟩
      obtain ⟨d0, d1, B2⟩ := box_keep hp1 ⟨c0, c1⟩ hb2
      have B2 := Lib.hid (on B1.out hb2)
      have hp2 : w.heap.size < w2.heap.size := Nat.lt_of_lt_of_le hp1 hb2.size
      clear hb2 c0 c1
      go_wp2_with fail
      refine (HUP.out _ B2.out).mono ?_
      rintro e w3 ⟨rfl, hb3⟩
      have B3 := Lib.hid (on B2.out hb3)
      clear hb3
      go_wp2_with fail
      go_ret2
      exact Stepped.of HX.out HS.out B3.out
    · have ts : (s.toList == [46, 46]) = false := by rw [Lib.toList_data, beq_eq_false_iff_ne]; exact hdd
      have HIB := Lib.hid (fun w' => Tryz.strings_IndexByte s 0 w')
      by_cases hl : 64 < s.data.toList.length
      · have HX := Lib.hid (step_bad (t := t) hk hdd (by rw [check_long hl]; decide))
        rw [check_long hl] at HX
        have tl : (64 : Int) < s.size := by rw [Lib.size_eq]; omega
        generalize stepN t d s.data.toList = R at *
        generalize nodeAt t.L d = x at *
        clear hk hdd HWF hl
        go_enter Tryz.func109, Tryz.ntmps109
        go_wp2_with fail
        refine HK.out.mono ?_
        rintro e w2 ⟨rfl, hb2⟩
        obtain ⟨d0, d1, B2⟩ := box_keep hp1 ⟨c0, c1⟩ hb2
        have B2 := Lib.hid (on B1.out hb2)
        have hp2 : w.heap.size < w2.heap.size := Nat.lt_of_lt_of_le hp1 hb2.size
        clear hb2 c0 c1
        go_wp2_with fail
        go_ret2
        exact Stepped.of HX.out HS.out B2.out
      · have tl : ¬ (64 : Int) < s.size := by rw [Lib.size_eq]; omega
        have hz8 : ((0 : Int).toNat.toUInt8 : UInt8) = 0 := rfl
        rw [hz8] at HIB
        by_cases hz : 0 ≤ Lib.indexByte s.data.toList 0
        · have hin : (0 : UInt8) ∈ s.data.toList := by obtain ⟨k, -, -, e, -⟩ := index_some _ _ hz; rw [e]; simp
          have HX := Lib.hid (step_bad (t := t) hk hdd (by rw [check_zero HPT.out hl hin]; decide))
          rw [check_zero HPT.out hl hin] at HX
          generalize stepN t d s.data.toList = R at *
          generalize Lib.indexByte s.data.toList 0 = z at *
          generalize nodeAt t.L d = x at *
          clear hk hdd HWF hl hin
          go_enter Tryz.func109, Tryz.ntmps109
          go_wp2_with fail
          refine HK.out.mono ?_
          rintro e w2 ⟨rfl, hb2⟩
          obtain ⟨d0, d1, B2⟩ := box_keep hp1 ⟨c0, c1⟩ hb2
          have B2 := Lib.hid (on B1.out hb2)
          have hp2 : w.heap.size < w2.heap.size := Nat.lt_of_lt_of_le hp1 hb2.size
          clear hb2 c0 c1
          go_wp2_with fail
          refine (HIB.out _).mono ?_
          rintro e w3 ⟨rfl, rfl⟩
          go_wp2_with fail
          go_ret2
          exact Stepped.of HX.out HS.out B2.out
        · have hin : (0 : UInt8) ∉ s.data.toList := index_none _ _ (by omega)
          have hck := check_good HPT.out hl hin hdd
          have HSL : Hid (s.size ≤ maxLen) := by have := HSI.out; show _ ≤ _; unfold maxLen; omega
          have HASK := Lib.hid (fun (w' : World) (hb : Below w.heap.size w w') => Seen.ask (HS.out.below hb) d s HWF.out HSL.out)
          have HLS := Lib.hid (fun (w' : World) (hb : Below w.heap.size w w') => C.list (C.below HP.out hb) HG.out.small d)
          have HNR := Lib.hid (fun (w' : World) (u : Value) (hu : W06.Ents w'.heap.size w' u (listed t d)) => near_any HR.out HG.out.small d s hu)
          by_cases hn : inDir t.L d s.data.toList = 0
          · have HX := Lib.hid (step_none (t := t) hk hdd hck hn)
            have HASK : Hid (∀ (w' : World), Below w.heap.size w w' → (Instr.lookup 155 (.map (some b)) (.agg #[.int .i64 d, .string s]) true).run Tryz.prog w' = .ok (.tuple #[.int .i64 0, .bool false]) w') := fun w' hb => by
              rcases HASK.out w' hb with h1 | ⟨h1, -⟩
              · exact h1
              · exact absurd hn h1
            rw [hn, show decide ((0 : Int) ≠ 0) = false from rfl] at HNR
            generalize stepN t d s.data.toList = R at *
            generalize Lib.indexByte s.data.toList 0 = z at *
            generalize nodeAt t.L d = x at *
            clear hk hdd HWF hl hin hck hn
            go_enter Tryz.func109, Tryz.ntmps109
            go_wp2_with fail
            refine HK.out.mono ?_
            rintro e w2 ⟨rfl, hb2⟩
            obtain ⟨d0, d1, B2⟩ := box_keep hp1 ⟨c0, c1⟩ hb2
            have B2 := Lib.hid (on B1.out hb2)
            have hp2 : w.heap.size < w2.heap.size := Nat.lt_of_lt_of_le hp1 hb2.size
            clear hb2 c0 c1
            go_wp2_with fail
            refine (HIB.out _).mono ?_
            rintro e w3 ⟨rfl, hw3⟩
            replace hw3 := hw3.symm
            subst hw3
            have hask := HASK.out _ B2.out
            go_wp2_with fail
            go_region_held3 (fun w' => w'.cell? ⟨w.heap.size, 0, none⟩ = some (.int .i64 d) ∧ w'.cell? ⟨w.heap.size, 1, none⟩ = some (.string s) ∧ Below w2.heap.size w2 w')
              (first | exact box_keep hp2 ⟨d0, d1⟩ (B3.out.trans (hb4.mono B3.out.size)) | exact box_keep hp2 ⟨d0, d1⟩ B3.out | exact ⟨d0, d1, below_draws w2 1⟩ | go_keep)
              (first
                | (go_at_call 35; refine (HLS.out _ (on B2.out (below_draws w2 1))).mono ?_; rintro e w3 ⟨u3, rfl, hu3, hb3⟩; have U3 := Lib.hid hu3; have B3 := Lib.hid ((below_draws w2 1).trans hb3); clear hu3 hb3)
                | (go_at_call 53; refine (HNR.out w3 u3 U3.out).mono ?_; rintro e w4 ⟨rfl, hb4⟩))
            obtain ⟨e0, e1, b4⟩ : w4.cell? ⟨w.heap.size, 0, none⟩ = some (.int .i64 d) ∧ w4.cell? ⟨w.heap.size, 1, none⟩ = some (.string s) ∧ Below w2.heap.size w2 w4 := by assumption
            have B4 := Lib.hid (on B2.out b4)
            clear b4 hb4 d0 d1 B3
            go_wp2_with fail
            go_ret2
            exact Stepped.of HX.out HS.out B4.out
          · have HX := Lib.hid (step_on (t := t) hk hdd hck hn)
            have HPUT := Lib.hid (fun (w' : World) (hb : Below w.heap.size w w') => Seen.put (HS.out.below hb) d s HWF.out HSL.out hm hn)
            rw [decide_eq_true hn] at HNR
            generalize stepN t d s.data.toList = R at *
            generalize Lib.indexByte s.data.toList 0 = z at *
            generalize nodeAt t.L d = x at *
            generalize inDir t.L d s.data.toList = y at *
            clear hk hdd HWF hl hin hck hn
            go_enter Tryz.func109, Tryz.ntmps109
            go_wp2_with fail
            refine HK.out.mono ?_
            rintro e w2 ⟨rfl, hb2⟩
            obtain ⟨d0, d1, B2⟩ := box_keep hp1 ⟨c0, c1⟩ hb2
            have B2 := Lib.hid (on B1.out hb2)
            have hp2 : w.heap.size < w2.heap.size := Nat.lt_of_lt_of_le hp1 hb2.size
            clear hb2 c0 c1
            go_wp2_with fail
            refine (HIB.out _).mono ?_
            rintro e w3 ⟨rfl, hw3⟩
            replace hw3 := hw3.symm
            subst hw3
            rcases HASK.out _ B2.out with hask | ⟨-, hask⟩
            · clear HASK
              go_wp2_with fail
              go_region_held3 (fun w' => w'.cell? ⟨w.heap.size, 0, none⟩ = some (.int .i64 d) ∧ w'.cell? ⟨w.heap.size, 1, none⟩ = some (.string s) ∧ Below w2.heap.size w2 w')
                (first | exact box_keep hp2 ⟨d0, d1⟩ (B3.out.trans (hb4.mono B3.out.size)) | exact box_keep hp2 ⟨d0, d1⟩ B3.out | exact ⟨d0, d1, below_draws w2 1⟩ | go_keep)
                (first
                  | (go_at_call 35; refine (HLS.out _ (on B2.out (below_draws w2 1))).mono ?_; rintro e w3 ⟨u3, rfl, hu3, hb3⟩; have U3 := Lib.hid hu3; have B3 := Lib.hid ((below_draws w2 1).trans hb3); clear hu3 hb3)
                  | (go_at_call 53; refine (HNR.out w3 u3 U3.out).mono ?_; rintro e w4 ⟨rfl, hb4⟩))
              obtain ⟨e0, e1, b4⟩ : w4.cell? ⟨w.heap.size, 0, none⟩ = some (.int .i64 d) ∧ w4.cell? ⟨w.heap.size, 1, none⟩ = some (.string s) ∧ Below w2.heap.size w2 w4 := by assumption
              have B4 := Lib.hid (on B2.out b4)
              clear b4 hb4 d0 d1 B3
              obtain ⟨w5, hput, S5, T5⟩ := HPUT.out w4 B4.out
              have S5 := Lib.hid S5
              have T5 := Lib.hid (Beside.of_turned T5)
              go_wp2_with fail
              go_ret2
              rw [HX.out]
              exact ⟨rfl, S5.out, (Beside.of_below b B4.out).trans T5.out⟩
            · clear HASK
              go_wp2_with fail
              go_ret2
              exact Stepped.of HX.out HS.out B2.out
  · have tk : ((nodeAt t.L d).kind != 1) = true := by simpa using hk
    have HX := Lib.hid (step_dir (p := s.data.toList) hk)
    generalize stepN t d s.data.toList = R at *
    generalize nodeAt t.L d = x at *
    clear hk
    go_enter Tryz.func109, Tryz.ntmps109
    go_wp2_with fail
    refine HK.out.mono ?_
    rintro e w2 ⟨rfl, hb2⟩
    obtain ⟨d0, d1, B2⟩ := box_keep hp1 ⟨c0, c1⟩ hb2
    have B2 := Lib.hid (on B1.out hb2)
    have hp2 : w.heap.size < w2.heap.size := Nat.lt_of_lt_of_le hp1 hb2.size
    clear hb2 c0 c1
    go_wp2_with fail
    go_ret2
    exact Stepped.of HX.out HS.out B2.out
    -- @end
    end Go.Proofs.YtolhniepejhmfaaGreatDoor.W08
