/-
  Texts joined, in build order, each with its own comment and its own conditions: W06Place, Shelf, W06Look, W06Around, W06Concat.
-/
import Derived.Test.YtolhniepejhmfaaGreatDoorJ01
import Derived.Shelf.Small.Strs
import Derived.Shelf.Strings.Search1
import Derived.Shelf.Strings.Prefix
import Derived.Test.YtolhniepejhmfaaGreatDoorProg
import Derived.Test.YtolhniepejhmfaaGreatDoorJ03
import Derived.Test.YtolhniepejhmfaaGreatDoorJ10
import Derived.Deep.LoopGhost
import Derived.Lib.AppendZeros
import Derived.Lib.Walk
/-
  Plain mathematics for layer 6 (ents), as the landed code goes: a name's place in entries that rise; those ahead of it, the one that has it, those behind; what is put, cut, merged, found next, told by these. Lists alone; no condition but those that each theorem bears.
-/
namespace Go.Proofs.YtolhniepejhmfaaGreatDoor.M06
open Go.Proofs.YtolhniepejhmfaaGreatDoor.M03

def low (L : List Ent) (s : List UInt8) : List Ent := L.filter (fun a => decide (lt a.1 s))
def mid (L : List Ent) (s : List UInt8) : List Ent := L.filter (fun a => decide (a.1 = s))
def high (L : List Ent) (s : List UInt8) : List Ent := L.filter (fun a => decide (lt s a.1))
/-- where a name stands: how many are ahead, and whether it is there -/
def place : List Ent → List UInt8 → Nat × Bool
  | [], _ => (0, false)
  | a :: r, s => if lt a.1 s then ((place r s).1 + 1, (place r s).2) else (0, decide (a.1 = s))
def wide (f : Bool) : Nat := if f = true then 1 else 0
theorem high_all : ∀ {L : List Ent} {s : List UInt8}, (∀ a ∈ L, lt s a.1) → low L s = [] ∧ mid L s = [] ∧ high L s = L := by
  intro L s h
  refine ⟨List.filter_eq_nil_iff.2 fun a ha => ?_, List.filter_eq_nil_iff.2 fun a ha => ?_, List.filter_eq_self.2 fun a ha => ?_⟩
  · simpa using lt_asymm (h a ha)
  · simpa using fun e : a.1 = s => lt_irrefl s (by have := h a ha; rwa [e] at this)
  · simpa using h a ha
theorem place_len : ∀ (L : List Ent) (s : List UInt8), (place L s).1 + wide (place L s).2 ≤ L.length
  | [], s => by simp [place, wide]
  | a :: r, s => by
    have ih := place_len r s
    unfold place
    by_cases h : lt a.1 s
    · rw [if_pos h]; simp only [List.length_cons]; omega
    · rw [if_neg h]; simp only [List.length_cons]; unfold wide; split <;> omega
theorem place_parts : ∀ {L : List Ent} (s : List UInt8), right L = true → low L s = L.take (place L s).1 ∧ mid L s = (L.take ((place L s).1 + wide (place L s).2)).drop (place L s).1 ∧ high L s = L.drop ((place L s).1 + wide (place L s).2)
  | [], s, _ => ⟨rfl, rfl, rfl⟩
  | a :: r, s, hr => by
    have hp := (right_iff _).1 hr
    rw [List.pairwise_cons] at hp
    have hr2 : right r = true := (right_iff _).2 hp.2
    obtain ⟨i1, i2, i3⟩ := place_parts s hr2
    unfold low at i1 ⊢
    unfold mid at i2 ⊢
    unfold high at i3 ⊢
    unfold place
    by_cases h : lt a.1 s
    · rw [if_pos h, List.filter_cons_of_pos (by simpa using h), List.filter_cons_of_neg (by simpa using fun e : a.1 = s => lt_irrefl s (by rwa [e] at h)), List.filter_cons_of_neg (by simpa using lt_asymm h), i1, i2, i3]
      refine ⟨rfl, ?_, ?_⟩
      · show _ = List.drop ((place r s).1 + 1) (List.take ((place r s).1 + 1 + wide (place r s).2) (a :: r))
        rw [show (place r s).1 + 1 + wide (place r s).2 = (place r s).1 + wide (place r s).2 + 1 by omega, List.take_succ_cons, List.drop_succ_cons]
      · show _ = List.drop ((place r s).1 + 1 + wide (place r s).2) (a :: r)
        rw [show (place r s).1 + 1 + wide (place r s).2 = (place r s).1 + wide (place r s).2 + 1 by omega, List.drop_succ_cons]
    · rw [if_neg h]
      by_cases e : a.1 = s
      · obtain ⟨q1, q2, q3⟩ := high_all (L := r) (s := s) (fun b hb => by rw [← e]; exact hp.1 b hb)
        unfold low at q1; unfold mid at q2; unfold high at q3
        rw [List.filter_cons_of_neg (by simpa using h), List.filter_cons_of_pos (by simpa using e), List.filter_cons_of_neg (by rw [e]; simpa using lt_irrefl s), q1, q2, q3]
        simp [e, wide]
      · have hs : lt s a.1 := by
          rcases lt_total a.1 s with q | q | q
          · exact absurd q h
          · exact absurd q e
          · exact q
        obtain ⟨q1, q2, q3⟩ := high_all (L := a :: r) (s := s) (fun b hb => by
          rcases List.mem_cons.1 hb with q | q
          · rw [q]; exact hs
          · exact lt_trans hs (hp.1 b q))
        unfold low at q1; unfold mid at q2; unfold high at q3
        rw [q1, q2, q3]
        simp [e, wide]
/-- a place, told by what is below and what isn't -/
theorem place_at : ∀ (L : List Ent) (s : List UInt8) (i : Nat), i ≤ L.length → (∀ k (h : k < L.length), k < i → lt (L[k]).1 s) → (∀ h : i < L.length, ¬ lt (L[i]).1 s) → place L s = (i, if h : i < L.length then decide ((L[i]).1 = s) else false)
  | [], s, i, hi, _, _ => by
    have : i = 0 := by simpa using hi
    subst this; simp [place]
  | a :: L, s, 0, _, _, h2 => by
    have := h2 (by simp)
    simp only [List.getElem_cons_zero] at this
    simp [place, this]
  | a :: L, s, i + 1, hi, h1, h2 => by
    have ha := h1 0 (by simp) (by omega)
    simp only [List.getElem_cons_zero] at ha
    have ih := place_at L s i (by simpa using hi) (fun k hk hki => by have := h1 (k + 1) (by simpa using hk) (by omega); simpa using this) (fun hk => by have := h2 (by simpa using hk); simpa using this)
    rw [place, if_pos ha, ih]
    simp
theorem rises_low {L : List Ent} (h : right L = true) {a b : Nat} {s : List UInt8} (hab : a ≤ b) (hb : b < L.length) (ha : a < L.length) (hs : lt (L[b]).1 s) : lt (L[a]).1 s := by
  rcases Nat.lt_or_ge a b with h1 | h1
  · exact lt_trans (List.pairwise_iff_getElem.1 ((right_iff _).1 h) a b ha hb h1) hs
  · obtain rfl : a = b := by omega
    exact hs
theorem rises_high {L : List Ent} (h : right L = true) {a b : Nat} {s : List UInt8} (hab : a ≤ b) (hb : b < L.length) (ha : a < L.length) (hs : ¬ lt (L[a]).1 s) : ¬ lt (L[b]).1 s := fun e => hs (rises_low h hab hb ha e)

theorem low_cut (L : List Ent) (s : List UInt8) : (cutL L s).filter (fun a => decide (lt a.1 s)) = low L s := by
  unfold cutL low
  rw [List.filter_filter]
  apply List.filter_congr
  intro a _
  by_cases h : lt a.1 s
  · have : ¬ a.1 = s := fun e => lt_irrefl s (by rwa [e] at h)
    simp [h, this]
  · simp [h]
theorem high_cut (L : List Ent) (s : List UInt8) : (cutL L s).filter (fun a => decide (lt s a.1)) = high L s := by
  unfold cutL high
  rw [List.filter_filter]
  apply List.filter_congr
  intro a _
  by_cases h : lt s a.1
  · have : ¬ a.1 = s := fun e => lt_irrefl s (by rwa [e] at h)
    simp [h, this]
  · simp [h]
theorem put_parts (L : List Ent) (e : Ent) : put L e = low (all L) e.1 ++ e :: high (all L) e.1 := by
  unfold put putL
  rw [low_cut, high_cut]
theorem low_all {L : List Ent} {s : List UInt8} (h : ∀ a ∈ L, lt a.1 s) : low L s = L ∧ high L s = [] := by
  refine ⟨List.filter_eq_self.2 fun a ha => ?_, List.filter_eq_nil_iff.2 fun a ha => ?_⟩
  · simpa using h a ha
  · simpa using lt_asymm (h a ha)
theorem cutL_parts : ∀ {L : List Ent} (s : List UInt8), right L = true → cutL L s = low L s ++ high L s
  | [], s, _ => rfl
  | a :: r, s, hr => by
    have hp := (right_iff _).1 hr
    rw [List.pairwise_cons] at hp
    have ih := cutL_parts s ((right_iff _).2 hp.2)
    unfold cutL low high at ih ⊢
    rcases lt_total a.1 s with h | h | h
    · have : ¬ a.1 = s := fun e => lt_irrefl s (by rwa [e] at h)
      rw [List.filter_cons_of_pos (by simpa using this), List.filter_cons_of_pos (by simpa using h), List.filter_cons_of_neg (by simpa using lt_asymm h), ih]; rfl
    · rw [List.filter_cons_of_neg (by simpa using h), List.filter_cons_of_neg (by rw [h]; simpa using lt_irrefl s), List.filter_cons_of_neg (by rw [h]; simpa using lt_irrefl s), ih]
    · have : ¬ a.1 = s := fun e => lt_irrefl s (by rwa [e] at h)
      obtain ⟨q1, q2, q3⟩ := high_all (L := r) (s := s) (fun b hb => lt_trans h (hp.1 b hb))
      unfold low at q1; unfold mid at q2; unfold high at q3
      rw [List.filter_cons_of_pos (by simpa using this), List.filter_cons_of_neg (by simpa using lt_asymm h), List.filter_cons_of_pos (by simpa using h), ih, q1, q3]; rfl
theorem cut_parts (L : List Ent) (s : List UInt8) : cut L s = low (all L) s ++ high (all L) s := cutL_parts s (right_all L)
def first : List Ent → Int × Bool
  | [] => (0, false)
  | a :: _ => (a.2, true)
def firstE : List Ent → Ent × Bool
  | [] => (([], 0), false)
  | a :: _ => (a, true)
theorem find_parts : ∀ (L : List Ent) (s : List UInt8), find L s = first (mid L s)
  | [], s => rfl
  | a :: r, s => by
    have ih := find_parts r s
    unfold mid at ih ⊢
    by_cases h : a.1 = s
    · rw [find, if_pos h, List.filter_cons_of_pos (by simpa using h)]; rfl
    · rw [find, if_neg h, List.filter_cons_of_neg (by simpa using h), ih]
theorem next_parts : ∀ (L : List Ent) (s : List UInt8), next L s = firstE (high L s)
  | [], s => rfl
  | a :: r, s => by
    have ih := next_parts r s
    unfold high at ih ⊢
    by_cases h : lt s a.1
    · rw [next, if_pos h, List.filter_cons_of_pos (by simpa using h)]; rfl
    · rw [next, if_neg h, List.filter_cons_of_neg (by simpa using h), ih]
theorem low_len (L : List Ent) (s : List UInt8) : (low L s).length ≤ L.length := List.length_filter_le _ _
theorem high_len (L : List Ent) (s : List UInt8) : (high L s).length ≤ L.length := List.length_filter_le _ _
theorem low_high_len : ∀ (L : List Ent) (s : List UInt8), (low L s).length + (high L s).length ≤ L.length
  | [], s => by simp [low, high]
  | a :: r, s => by
    have ih := low_high_len r s
    unfold low high at ih ⊢
    by_cases h : lt a.1 s
    · rw [List.filter_cons_of_pos (by simpa using h), List.filter_cons_of_neg (by simpa using lt_asymm h)]
      simp only [List.length_cons]; omega
    · rw [List.filter_cons_of_neg (by simpa using h)]
      have h1 : (List.filter (fun a => decide (lt s a.1)) (a :: r)).length ≤ (List.filter (fun a => decide (lt s a.1)) r).length + 1 := by
        rw [List.filter_cons]; split <;> simp
      simp only [List.length_cons]; omega
/-- one more is merged: what is ready lies ahead of it -/
theorem merge_step {out rs : List Ent} {e : Ent} (hr : right (out ++ rs) = true) (h : ∀ a ∈ out, lt a.1 e.1) : put (out ++ rs) e = (out ++ low rs e.1 ++ [e]) ++ high rs e.1 := by
  rw [put_parts, all_right hr]
  obtain ⟨q1, q2⟩ := low_all h
  unfold low at q1 ⊢; unfold high at q2 ⊢
  rw [List.filter_append, List.filter_append, q1, q2]
  simp
theorem right_high {out rs : List Ent} (hr : right (out ++ rs) = true) : right rs = true := (right_iff _).2 (List.pairwise_append.1 ((right_iff _).1 hr)).2.1
theorem low_below {L : List Ent} {s : List UInt8} {a : Ent} (h : a ∈ low L s) : lt a.1 s := by have := (List.mem_filter.1 h).2; simpa using this
end Go.Proofs.YtolhniepejhmfaaGreatDoor.M06
/-
  The library's contracts that this seat's proofs use, laid at the seat's translation by the kit's own commands (lay-shelf, lay-plain): each says what one function of Go's library returns, under the conditions that stand in its statement.
-/
namespace Go.Proofs
open Go.Shelf
def Tryz.lays106_ren : Go.Shelf.Ren := ⟨fun | 106 => 93 | 213 => 107 | 265 => 114 | n => n, fun | 9 => 9 | 3 => 3 | n => n, fun | n => n⟩
theorem Tryz.lays106 : Go.Proofs.Lays.n106 Tryz.prog Tryz.lays106_ren := {
  mixed := by kernel_rfl
  f106 := Tryz.func93.trans (congrArg some (by kernel_rfl))
  f213 := Tryz.func107.trans (congrArg some (by kernel_rfl))
  f265 := Tryz.func114.trans (congrArg some (by kernel_rfl))
  t3 := Tryz.underlying3
  a3 := Tryz.isAgg3
  z3 := Tryz.sizeOf3
  v3 := Tryz.zeroValue3
  t9 := Tryz.underlying9
  a9 := Tryz.isAgg9
  z9 := Tryz.sizeOf9
  v9 := Tryz.zeroValue9 }
open Go.RowKit in
theorem Tryz.strings_Compare (a b : ByteArray) (w : World) :
    Calls Tryz.prog 93 #[.string a, .string b] w fun e w' => e = .returned (.int .i64 (Lib.compareBytes a.data.toList b.data.toList)) ∧ w' = w := Any.strings_Compare Tryz.lays106 a b w
def Tryz.lays137_ren : Go.Shelf.Ren := ⟨fun | 137 => 117 | 217 => 121 | 266 => 125 | n => n, fun | 9 => 9 | 5 => 5 | 3 => 3 | n => n, fun | n => n⟩
theorem Tryz.lays137 : Go.Proofs.Lays.n137 Tryz.prog Tryz.lays137_ren := {
  mixed := by kernel_rfl
  f137 := Tryz.func117.trans (congrArg some (by kernel_rfl))
  f217 := Tryz.func121.trans (congrArg some (by kernel_rfl))
  f266 := Tryz.func125.trans (congrArg some (by kernel_rfl))
  t3 := Tryz.underlying3
  a3 := Tryz.isAgg3
  z3 := Tryz.sizeOf3
  v3 := Tryz.zeroValue3
  t5 := Tryz.underlying5
  a5 := Tryz.isAgg5
  z5 := Tryz.sizeOf5
  v5 := Tryz.zeroValue5
  t9 := Tryz.underlying9
  a9 := Tryz.isAgg9
  z9 := Tryz.sizeOf9
  v9 := Tryz.zeroValue9 }
open Go.RowKit in
theorem Tryz.strings_IndexByte (s : ByteArray) (c : Int) (w : World) :
    Calls Tryz.prog 117 #[.string s, .int .u8 c] w fun e w' => e = .returned (.int .i64 (Lib.indexByte s.data.toList c.toNat.toUInt8)) ∧ w' = w := Any.strings_IndexByte Tryz.lays137 s c w
def Tryz.lays217_ren : Go.Shelf.Ren := ⟨fun | 217 => 121 | 266 => 125 | n => n, fun | 9 => 9 | 5 => 5 | 3 => 3 | n => n, fun | n => n⟩
theorem Tryz.lays217 : Go.Proofs.Lays.n217 Tryz.prog Tryz.lays217_ren := {
  mixed := by kernel_rfl
  f217 := Tryz.func121.trans (congrArg some (by kernel_rfl))
  f266 := Tryz.func125.trans (congrArg some (by kernel_rfl))
  t3 := Tryz.underlying3
  a3 := Tryz.isAgg3
  z3 := Tryz.sizeOf3
  v3 := Tryz.zeroValue3
  t5 := Tryz.underlying5
  a5 := Tryz.isAgg5
  z5 := Tryz.sizeOf5
  v5 := Tryz.zeroValue5
  t9 := Tryz.underlying9
  a9 := Tryz.isAgg9
  z9 := Tryz.sizeOf9
  v9 := Tryz.zeroValue9 }
open Go.RowKit Go.Lib in
theorem Tryz.stringslite_IndexByte (s : ByteArray) (c : Int) (w : World) :
    Calls Tryz.prog 121 #[.string s, .int .u8 c] w fun e w' => e = .returned (.int .i64 (Lib.indexByte s.data.toList c.toNat.toUInt8)) ∧ w' = w := Any.stringslite_IndexByte Tryz.lays217 s c w
def Tryz.lays99_ren : Go.Shelf.Ren := ⟨fun | 99 => 110 | 206 => 118 | n => n, fun | 9 => 9 | 4 => 4 | 3 => 3 | n => n, fun | n => n⟩
theorem Tryz.lays99 : Go.Proofs.Lays.n99 Tryz.prog Tryz.lays99_ren := {
  mixed := by kernel_rfl
  f99 := Tryz.func110.trans (congrArg some (by kernel_rfl))
  f206 := Tryz.func118.trans (congrArg some (by kernel_rfl))
  t3 := Tryz.underlying3
  a3 := Tryz.isAgg3
  z3 := Tryz.sizeOf3
  v3 := Tryz.zeroValue3
  t4 := Tryz.underlying4
  a4 := Tryz.isAgg4
  z4 := Tryz.sizeOf4
  v4 := Tryz.zeroValue4
  t9 := Tryz.underlying9
  a9 := Tryz.isAgg9
  z9 := Tryz.sizeOf9
  v9 := Tryz.zeroValue9 }
open Go.RowKit Go.Lib in
theorem Tryz.strings_HasPrefix (s p : ByteArray) (w : World) :
    Calls Tryz.prog 110 #[.string s, .string p] w fun e w' => e = .returned (.bool (Lib.hasPrefix s.data.toList p.data.toList)) ∧ w' = w := Any.strings_HasPrefix Tryz.lays99 s p w
end Go.Proofs
/-
  Layer 6 (ents), walks: the landed code's search: the order of an entry and a name, slices.BinarySearchFunc with it: a name's place in entries that rise, and whether it is there; new memory may be laid, nothing that was there is changed.
-/
namespace Go.Proofs.YtolhniepejhmfaaGreatDoor.W06
set_option maxRecDepth 100000
open Go Go.RowKit Go.Proofs.YtolhniepejhmfaaGreatDoor.Strs Go.Proofs.YtolhniepejhmfaaGreatDoor.Recs Go.Proofs.YtolhniepejhmfaaGreatDoor.M06
open Go.Proofs.YtolhniepejhmfaaGreatDoor.M03 (lt)
open Go.Proofs.YtolhniepejhmfaaGreatDoor.W03 (less_bytes same_bytes ret_place)
open Go.Proofs.YtolhniepejhmfaaGreatDoor.Kit (ret_str ret_bool ret_int mk_of mk_bytes ba_ext below_draws on)

theorem order_any (t s : ByteArray) (z : Int) (w : World) :
    Calls Tryz.prog 92 #[.agg #[.string t, .int .i64 z], .string s] w fun e w' => e = .returned (.int .i64 (Lib.compareBytes t.data.toList s.data.toList)) ∧ Below w.heap.size w w' := by
  have HC := Lib.hid (Tryz.strings_Compare t s)
  generalize Lib.compareBytes t.data.toList s.data.toList = r at *
  go_enter Tryz.func92, Tryz.ntmps92
  go_wp2_with fail
  refine (HC.out _).mono ?_
  rintro e w' ⟨rfl, rfl⟩
  go_wp2_with fail
  go_ret
  exact ⟨rfl, (Below.refl w.heap.size w).alloc (Nat.le_refl _) _⟩
/-- what the order says, in words -/
theorem cmp_neg {a b : List UInt8} (h : lt a b) : decide (Lib.compareBytes a b < 0) = true := by rw [decide_eq_true_eq]; unfold M03.lt at h; omega
theorem cmp_pos {a b : List UInt8} (h : ¬ lt a b) : decide (Lib.compareBytes a b < 0) = false := by
  rw [decide_eq_false_iff_not]; intro q
  unfold M03.lt at h
  rcases M03.cmp_three a b with e | e | e <;> omega
theorem cmp_nil (a b : List UInt8) : (Lib.compareBytes a b == 0) = decide (a = b) := by
  by_cases h : a = b
  · subst h; rw [M03.cmp_self]; simp
  · have : ¬ Lib.compareBytes a b = 0 := fun e => h (M03.cmp_zero e)
    simp [h, this]
theorem ret_found {a b : Int} {c d : Bool} (h : a = b) (h2 : c = d) : Ending.returned (.tuple #[.int .i64 a, .bool c]) = .returned (.tuple #[.int .i64 b, .bool d]) := by rw [h, h2]

set_option maxHeartbeats 2000000 in
set_option maxRecDepth 100000 in
theorem search_any (v : Value) (L : List Ent) (s : ByteArray) (w : World) (h : Ents w.heap.size w v L) (hr : right L = true) (hn : L.length ≤ 1099511627776) :
    Calls Tryz.prog 94 #[v, .string s, .func (.func 92) #[] #[]] w fun e w' => e = .returned (.tuple #[.int .i64 ((place L s.data.toList).1 : Nat), .bool (place L s.data.toList).2]) ∧ Below w.heap.size w w' := by
  obtain ⟨A, c, rfl, hA1, hA2⟩ := h.form
  have H := Lib.hid h
  have HR := Lib.hid hr
  unfold maxLen at hA2
  clear h hr
  generalize hm : L.length = n at *
  have HM := Lib.hid hm
  clear hm
  go_enter Tryz.func94, Tryz.ntmps94
  go_wp2
  go_loopg [9, 10] n (fun g s9 s10 wr => ∃ lo hi : Nat, s9 = .int .i64 lo ∧ s10 = .int .i64 hi ∧ lo ≤ hi ∧ hi ≤ n ∧ hi - lo ≤ g ∧ Below w.heap.size w wr ∧ Hid (∀ k (h : k < L.length), k < lo → lt (L[k]).1 s.data.toList) ∧ Hid (∀ k (h : k < L.length), hi ≤ k → ¬ lt (L[k]).1 s.data.toList))
  case atStart => exact ⟨0, n, rfl, rfl, Nat.zero_le _, Nat.le_refl _, by omega, Below.refl _ _, fun t _ ht => absurd ht (Nat.not_lt_zero _), fun t h1 h2 => by rw [HM.out] at h1; omega⟩
  case round =>
    obtain ⟨lo, hi, rfl, rfl, hlh, hin, hg, hb, h1, h2⟩ := hrel
    by_cases hlt : lo < hi
    · obtain ⟨b, o, hl1, t, rfl, hbl, ht, hc0, hc1⟩ := Ents.at_ (H.out.below hb) (k := (lo + hi) / 2) (by omega)
      have HT := Lib.hid ht
      have HC := Lib.hid (order_any t s (L[(lo + hi) / 2]).2 wr)
      have HB := Lib.hid hb
      clear ht hb
      by_cases hl : lt t.data.toList s.data.toList
      · have HL : Hid (∀ k (h : k < L.length), k < (lo + hi) / 2 + 1 → lt (L[k]).1 s.data.toList) := fun k hk hk2 => rises_low HR.out (show k ≤ (lo + hi) / 2 by omega) hl1 hk (by rw [← HT.out]; exact hl)
        have t1 := cmp_neg hl
        clear hl
        generalize Lib.compareBytes t.data.toList s.data.toList = r at *
        go_wp2_with fail
        refine (HC.out).mono ?_
        rintro e w' ⟨rfl, hb2⟩
        have B2 := Lib.hid (HB.out.trans (hb2.mono HB.out.size))
        clear hb2
        go_wp2_with fail
        go_roundg (hi - ((lo + hi) / 2 + 1))
        case measure => omega
        case rel => exact ⟨(lo + hi) / 2 + 1, hi, by rw [show ((lo : Int) + (hi : Int)) / 2 + 1 = (((lo + hi) / 2 + 1 : Nat) : Int) by omega], rfl, by omega, hin, Nat.le_refl _, B2.out, HL, h2⟩
      · have HL : Hid (∀ k (h : k < L.length), (lo + hi) / 2 ≤ k → ¬ lt (L[k]).1 s.data.toList) := fun k hk hk2 => rises_high HR.out hk2 hk hl1 (by rw [← HT.out]; exact hl)
        have t1 := cmp_pos hl
        clear hl
        generalize Lib.compareBytes t.data.toList s.data.toList = r at *
        go_wp2_with fail
        refine (HC.out).mono ?_
        rintro e w' ⟨rfl, hb2⟩
        have B2 := Lib.hid (HB.out.trans (hb2.mono HB.out.size))
        clear hb2
        go_wp2_with fail
        go_roundg ((lo + hi) / 2 - lo)
        case measure => omega
        case rel => exact ⟨lo, (lo + hi) / 2, rfl, by rw [show ((lo : Int) + (hi : Int)) / 2 = (((lo + hi) / 2 : Nat) : Int) by omega], by omega, by omega, Nat.le_refl _, B2.out, h1, HL⟩
    · obtain rfl : hi = lo := by omega
      have HF := Lib.hid (place_at L s.data.toList hi (by rw [HM.out]; exact hin) h1.out (fun hk => h2.out hi hk (Nat.le_refl _)))
      by_cases hnn : hi < n
      · obtain ⟨b, o, hl1, t, rfl, hbl, ht, hc0, hc1⟩ := Ents.at_ (H.out.below hb) hnn
        have HT := Lib.hid ht
        have HC := Lib.hid (order_any t s (L[hi]).2 wr)
        have HB := Lib.hid hb
        have HQ := Lib.hid (cmp_nil t.data.toList s.data.toList)
        have HE : Hid ((place L s.data.toList).2 = (Lib.compareBytes t.data.toList s.data.toList == 0)) := by
          show _ = _
          rw [HF.out, HQ.out, HT.out]; simp only [dif_pos hl1]
        clear ht hb HQ
        generalize Lib.compareBytes t.data.toList s.data.toList = r at *
        go_wp2_with fail
        refine (HC.out).mono ?_
        rintro e w' ⟨rfl, hb2⟩
        have B2 := Lib.hid (HB.out.trans (hb2.mono HB.out.size))
        clear hb2
        go_wp2_with fail
        go_ret2
        exact ⟨ret_found (by rw [HF.out]) HE.out.symm, B2.out⟩
      · have HE : Hid ((place L s.data.toList).2 = false) := by
          show _ = _
          rw [HF.out]; simp only; rw [dif_neg (by rw [HM.out]; exact hnn)]
        go_wp2_with fail
        go_ret2
        exact ⟨ret_found (by rw [HF.out]) HE.out.symm, hb⟩
end Go.Proofs.YtolhniepejhmfaaGreatDoor.W06
/-
  Layer 6 (ents), walks: the landed code's Right, usable and around: whether names rise; the entries, or none; those ahead of a name, the one that has it, those behind; new memory may be laid, nothing that was there is changed.
-/
namespace Go.Proofs.YtolhniepejhmfaaGreatDoor.W06
set_option maxRecDepth 100000
open Go Go.RowKit Go.Proofs.YtolhniepejhmfaaGreatDoor.Strs Go.Proofs.YtolhniepejhmfaaGreatDoor.Recs Go.Proofs.YtolhniepejhmfaaGreatDoor.M06
open Go.Proofs.YtolhniepejhmfaaGreatDoor.M03 (lt)
open Go.Proofs.YtolhniepejhmfaaGreatDoor.W03 (less_bytes same_bytes ret_place)
open Go.Proofs.YtolhniepejhmfaaGreatDoor.Kit (ret_str ret_bool ret_int mk_of mk_bytes ba_ext below_draws on)

set_option maxHeartbeats 400000 in
theorem codeRight_any (v : Value) (L : List Ent) (B : Nat) (w : World) (h : Ents B w v L) (hn : L.length ≤ 1099511627776) :
    Calls Tryz.prog 95 #[v] w fun e w' => e = .returned (.bool (right L)) ∧ ∃ n, w' = w.drewN n := by
  obtain ⟨A, c, rfl, hA1, hA2⟩ := h.form
  have H := Lib.hid h
  unfold maxLen at hA2
  clear h
  generalize hm : L.length = n at *
  have HM := Lib.hid hm
  clear hm
  go_enter Tryz.func95, Tryz.ntmps95
  go_wp2
  go_loopw [3] (fun i wr => ∃ k : Nat, k ≤ n ∧ i = .int .i64 (k + 1) ∧ Hid (right L = right (L.drop k)) ∧ ∃ q, wr = w.drewN q) (fun i _ => n + 1 - (intOf i).toNat)
  case atStart => exact ⟨0, Nat.zero_le _, rfl, rfl, 0, rfl⟩
  case round =>
    obtain ⟨k, hk, rfl, hr, q, rfl⟩ := hrel
    have hk1 : IntKind.i64.wrap ((k : Int) + 1 - 1) = k := by rw [IntKind.wrap_i64]; omega
    by_cases hlt : k + 1 < n
    · obtain ⟨b, o, hl1, s, rfl, hbl, hs, hc0, hc1⟩ := Ents.at_ H.out (k := k) (by omega)
      obtain ⟨b', o', hl2, t, he, hbl2, ht, hd0, hd1⟩ := Ents.at_ H.out (k := k + 1) hlt
      cases he
      have HS := Lib.hid (right_step (L := L) (k := k) hl2)
      rw [← hs, ← ht, ← hr.out] at HS
      have hlb := less_bytes t s
      have hsb := same_bytes t s
      clear hs ht
      by_cases hl : lt s.data.toList t.data.toList
      · have t1 : Op.bytesLess t.toList s.toList = false := by rw [hlb]; simpa using M03.lt_asymm hl
        have t2 : (t.toList == s.toList) = false := by rw [hsb]; simpa using fun e : t.data.toList = s.data.toList => M03.lt_irrefl _ (e ▸ hl)
        have HX : Hid (right L = right (L.drop (k + 1))) := by have := HS.out; rw [decide_eq_true hl, Bool.true_and] at this; exact this
        clear hlb hsb hl
        go_wp2_with fail
        go_quiet (fail)
        go_wp2_with fail
        go_roundw
        case rel => exact ⟨k + 1, by omega, by go_num, HX, q + nq, by first | rfl | rw [World.drewN_drewN]⟩
        case measure => simp [intOf]; omega
      · have HX : Hid (right L = false) := by have := HS.out; rw [decide_eq_false hl, Bool.false_and] at this; exact this
        by_cases hl2 : lt t.data.toList s.data.toList
        · have t1 : Op.bytesLess t.toList s.toList = true := by rw [hlb]; simpa using hl2
          clear hlb hsb hl hl2
          go_wp2_with fail
          go_quiet (fail)
          go_wp2_with fail
          go_ret
          exact ⟨ret_bool HX.out.symm, q + nq, by first | rfl | rw [World.drewN_drewN]⟩
        · have t1 : Op.bytesLess t.toList s.toList = false := by rw [hlb]; simpa using hl2
          have t2 : (t.toList == s.toList) = true := by
            rw [hsb]
            rcases M03.lt_total t.data.toList s.data.toList with e | e | e
            · exact absurd e hl2
            · simpa using e
            · exact absurd e hl
          clear hlb hsb hl hl2
          go_wp2_with fail
          go_quiet (fail)
          go_wp2_with fail
          go_ret
          exact ⟨ret_bool HX.out.symm, q + nq, by first | rfl | rw [World.drewN_drewN]⟩
    · have HX := Lib.hid (hr.out.trans (right_last (by rw [HM.out]; exact hlt)))
      go_wp2_with fail
      go_ret
      exact ⟨ret_bool HX.out.symm, q, rfl⟩
theorem usable_any (v : Value) (L : List Ent) (B : Nat) (w : World) (h : Ents B w v L) (hn : L.length ≤ 1099511627776) :
    Calls Tryz.prog 77 #[v] w fun e w' => (∃ u, e = .returned u ∧ Ents B w u (all L)) ∧ ∃ n, w' = w.drewN n := by
  have HR := Lib.hid (codeRight_any v L B w h hn)
  have H := Lib.hid h
  obtain ⟨A, c, rfl, hA1, hA2⟩ := h.form
  clear h
  cases hr : right L with
  | true =>
    have HA := Lib.hid (all_right hr)
    rw [hr] at HR
    clear hr
    go_enter Tryz.func77, Tryz.ntmps77
    go_wp2_with fail
    refine HR.out.mono ?_
    rintro e w1 ⟨rfl, q, rfl⟩
    go_wp2_with fail
    go_ret
    exact ⟨⟨_, rfl, by rw [HA.out]; exact H.out⟩, q, rfl⟩
  | false =>
    have HA : Hid (all L = []) := by show _ = _; unfold all; rw [hr]; rfl
    rw [hr] at HR
    clear hr
    go_enter Tryz.func77, Tryz.ntmps77
    go_wp2_with fail
    refine HR.out.mono ?_
    rintro e w1 ⟨rfl, q, rfl⟩
    go_wp2_with fail
    go_ret
    exact ⟨⟨_, rfl, by rw [HA.out]; exact recs_nil _ _ _ _⟩, q, rfl⟩
/-- what around hands out -/
def Parts3 (B : Nat) (w : World) (L : List Ent) (s : List UInt8) (e : Ending) (w' : World) : Prop :=
  ∃ v1 v2 v3, e = .returned (.tuple #[v1, v2, v3]) ∧ Ents B w' v1 (low L s) ∧ Ents B w' v2 (M06.mid L s) ∧ Ents B w' v3 (high L s) ∧ Below w.heap.size w w'
set_option maxHeartbeats 1000000 in
theorem around_any (v : Value) (L : List Ent) (B : Nat) (s : ByteArray) (w : World) (h : Ents B w v L) (hB : B ≤ w.heap.size) (hr : right L = true) (hn : L.length ≤ 1099511627776) :
    Calls Tryz.prog 76 #[v, .string s] w (Parts3 B w L s.data.toList) := by
  have HS := Lib.hid (search_any v L s w (h.more hB) hr hn)
  obtain ⟨p1, p2, p3⟩ := place_parts s.data.toList hr
  have P1 := Lib.hid p1
  have P2 := Lib.hid p2
  have P3 := Lib.hid p3
  have hpl := place_len L s.data.toList
  have H := Lib.hid h
  obtain ⟨A, c, rfl, hA1, hA2⟩ := h.form
  unfold maxLen at hA2
  clear h hr p1 p2 p3
  generalize place L s.data.toList = pf at *
  obtain ⟨p, f⟩ := pf
  generalize hm : L.length = n at *
  clear hm
  cases f with
  | true =>
    simp only [wide, if_true] at hpl P2 P3
    by_cases hc : c = p + 1
    · subst hc
      go_enter Tryz.func76, Tryz.ntmps76
      go_wp2_with fail
      refine HS.out.mono ?_
      rintro e w1 ⟨rfl, hb1⟩
      have B1 := Lib.hid hb1
      clear hb1
      go_wp2_with fail
      go_quiet (fail)
      go_wp2_with fail
      go_ret3
      refine ⟨_, _, _, rfl, ?_, ?_, ?_, B1.out.trans ((below_draws w1 _).mono B1.out.size)⟩
      · rw [P1.out]; exact (H.out.below (B1.out.mono hB)).take (by omega)
      · rw [P2.out]; exact (H.out.below (B1.out.mono hB)).one_last entC_len (by omega) hpl
      · rw [P3.out]; exact (H.out.below (B1.out.mono hB)).drop_last hpl
    · have hc2 : ¬ p + 1 = c := fun e => hc e.symm
      go_enter Tryz.func76, Tryz.ntmps76
      go_wp2_with fail
      refine HS.out.mono ?_
      rintro e w1 ⟨rfl, hb1⟩
      have B1 := Lib.hid hb1
      clear hb1
      go_wp2_with fail
      go_quiet (fail)
      go_wp2_with fail
      go_ret3
      refine ⟨_, _, _, rfl, ?_, ?_, ?_, B1.out.trans ((below_draws w1 _).mono B1.out.size)⟩
      · rw [P1.out]; exact (H.out.below (B1.out.mono hB)).take (by omega)
      · rw [P2.out]; exact (H.out.below (B1.out.mono hB)).one entC_len (by omega) hpl
      · rw [P3.out]; exact (H.out.below (B1.out.mono hB)).drop entC_len (by omega) hpl
  | false =>
    simp only [wide, Bool.false_eq_true, if_false, Nat.add_zero] at hpl P2 P3
    by_cases hc : c = p
    · subst hc
      go_enter Tryz.func76, Tryz.ntmps76
      go_wp2_with fail
      refine HS.out.mono ?_
      rintro e w1 ⟨rfl, hb1⟩
      have B1 := Lib.hid hb1
      clear hb1
      go_wp2_with fail
      go_quiet (fail)
      go_wp2_with fail
      go_ret3
      refine ⟨_, _, _, rfl, ?_, ?_, ?_, B1.out.trans ((below_draws w1 _).mono B1.out.size)⟩
      · rw [P1.out]; exact (H.out.below (B1.out.mono hB)).take (by omega)
      · rw [P2.out]; exact Recs.void (Nat.zero_le _)
      · rw [P3.out]; exact (H.out.below (B1.out.mono hB)).drop_last hpl
    · have hc2 : ¬ p = c := fun e => hc e.symm
      go_enter Tryz.func76, Tryz.ntmps76
      go_wp2_with fail
      refine HS.out.mono ?_
      rintro e w1 ⟨rfl, hb1⟩
      have B1 := Lib.hid hb1
      clear hb1
      go_wp2_with fail
      go_quiet (fail)
      go_wp2_with fail
      go_ret3
      refine ⟨_, _, _, rfl, ?_, ?_, ?_, B1.out.trans ((below_draws w1 _).mono B1.out.size)⟩
      · rw [P1.out]; exact (H.out.below (B1.out.mono hB)).take (by omega)
      · rw [P2.out]; exact Recs.void (c' := c - p) (by unfold maxLen; omega)
      · rw [P3.out]; exact (H.out.below (B1.out.mono hB)).drop entC_len (by omega) hpl
end Go.Proofs.YtolhniepejhmfaaGreatDoor.W06
/-
  Walks of Go's library on slices of entries: slices.Grow of nil, slices.Concat: all the entries, one slice behind the other, in new memory; nothing that was there is changed. The conditions stand in the statements.
-/
namespace Go.Proofs.YtolhniepejhmfaaGreatDoor.W06
set_option maxRecDepth 100000
open Go Go.RowKit Go.Proofs.YtolhniepejhmfaaGreatDoor.Strs Go.Proofs.YtolhniepejhmfaaGreatDoor.Recs Go.Proofs.YtolhniepejhmfaaGreatDoor.M06
open Go.Proofs.YtolhniepejhmfaaGreatDoor.Kit (ret_str ret_bool ret_int mk_of mk_bytes ba_ext below_draws on)

theorem entC_one (r : Ent) : ∀ c ∈ entC r, c.oneCell' = true := by intro c hc; simp [entC, strV] at hc; rcases hc with rfl | rfl <;> rfl
theorem grow_none (n : Nat) (w : World) (hn : n ≤ 4398046511104) :
    Calls Tryz.prog 96 #[.slice none 0 0, .int .i64 n] w (MakesE w []) := by
  obtain ⟨i0, hi, hz0, hz1, hz2⟩ := info_parts ent_info
  have h1 : ¬ ((n : Int) < 0) := by omega
  rcases Nat.eq_zero_or_pos n with h0 | h0
  · subst h0
    go_enter Tryz.func96, Tryz.ntmps96
    go_wp2_with fail
    go_ret
    exact ⟨_, rfl, own_ents_nil _ _, Below.refl _ _⟩
  · have HR := Lib.hid (fun ty => Lib.run_append_nil_zeros (P := Tryz.prog) w 81 3 ty 104 i0 (.agg #[.string ⟨#[]⟩, .int .i64 0]) .i64 .i64 Tryz.underlying81 Tryz.underlying3 hi hz0 n h0 (by rw [hz1]; omega) (by omega) (by rw [hz2]; omega))
    have hG1 := grownCap_ge w n 0 104
    have hG2 := grownCap_le_maxLen w n 0 104 (by unfold maxLen; omega)
    generalize grownCap w n 0 104 = G at *
    have HZ : Hid ((Builtin.zeroCells (Value.agg #[.string ⟨#[]⟩, .int .i64 0]).cells n ++ Builtin.zeroCells (Value.agg #[.string ⟨#[]⟩, .int .i64 0]).cells (G - n)).size = G * 2) := by
      show _ = _
      simp [Builtin.zeroCells]
      rw [show (Value.agg #[.string ⟨#[]⟩, .int .i64 0]).cells.size = 2 from rfl]
      omega
    unfold maxLen at hG2
    generalize Builtin.zeroCells (Value.agg #[.string ⟨#[]⟩, .int .i64 0]).cells n ++ Builtin.zeroCells (Value.agg #[.string ⟨#[]⟩, .int .i64 0]).cells (G - n) = Z at *
    go_enter Tryz.func96, Tryz.ntmps96
    go_wp2_with (at_builtin; refine Lib.wpList_append_run _ rfl _ _ _ _ rfl _ _ rfl rfl _ _ (HR.out _) ?_)
    go_ret
    refine ⟨_, rfl, ⟨rfl, Or.inr ⟨w.heap.size, G, Z, rfl, Nat.le_refl _, ?_, Nat.zero_le _, ?_, HZ.out, by simp⟩⟩, ?_⟩
    · show (w.heap.push _)[w.heap.size]? = _
      simp
    · unfold maxLen; omega
    · exact ((Below.refl w.heap.size w).alloc (Nat.le_refl _) _).drew
/-- a row of slices of entries -/
def Lists (B : Nat) (w : World) (b o : Nat) (Ls : List (List Ent)) : Prop := ∀ j (h : j < Ls.length), ∃ A c, w.cell? ⟨b, o + j, none⟩ = some (.slice A (Ls[j]).length c) ∧ Ents B w (.slice A (Ls[j]).length c) Ls[j]
theorem Lists.below {B : Nat} {w w' : World} {b o : Nat} {Ls : List (List Ent)} (h : Lists B w b o Ls) (hb : b < B) (hw : Below B w w') : Lists B w' b o Ls := fun j hj => by
  obtain ⟨A, c, h1, h2⟩ := h j hj
  exact ⟨A, c, by rw [hw.cell hb]; exact h1, h2.below hw⟩
theorem flat_next {Ls : List (List Ent)} {k : Nat} (hk : k < Ls.length) : (Ls.take (k + 1)).flatten = (Ls.take k).flatten ++ Ls[k] := by
  rw [List.take_succ_eq_append_getElem hk, List.flatten_append]; simp
theorem flat_all {Ls : List (List Ent)} {k : Nat} (hk : ¬ k < Ls.length) : (Ls.take k).flatten = Ls.flatten := by rw [List.take_of_length_le (by omega)]
theorem flat_upto (Ls : List (List Ent)) (k : Nat) : (Ls.take k).flatten.length ≤ Ls.flatten.length := by
  have : Ls.flatten = (Ls.take k).flatten ++ (Ls.drop k).flatten := by rw [← List.flatten_append, List.take_append_drop]
  rw [this, List.length_append]; omega
theorem own_ents_all {w : World} {base : Nat} {v : Value} {out L : List Ent} (h : w.ownsRow base 104 2 v (out.length + L.length) (out.flatMap entC ++ L.flatMap entC)) : OwnEnts w base v (out ++ L) := by
  unfold OwnEnts
  rw [List.length_append, List.flatMap_append]
  exact h
set_option maxHeartbeats 1000000 in
theorem concat_any (b o m cap B : Nat) (Ls : List (List Ent)) (w : World) (hm : Ls.length = m) (hL : Lists B w b o Ls) (hb : b < B) (hB : B ≤ w.heap.size) (hm2 : m ≤ 1099511627776) (ht : Ls.flatten.length ≤ 4398046511104) :
    Calls Tryz.prog 78 #[.slice (some ⟨b, o, none⟩) m cap] w (MakesE w Ls.flatten) := by
  obtain ⟨i0, hi, hz0, hz1, hz2⟩ := info_parts ent_info
  have H := Lib.hid hL
  have HM := Lib.hid hm
  clear hL hm
  have HI := Lib.hid hi
  go_enter Tryz.func78, Tryz.ntmps78
  go_wp2_with fail
  go_loopw [3, 11] (fun u i wr => ∃ k z : Nat, k ≤ m ∧ i = .int .i64 k ∧ u = .int .i64 z ∧ Hid (z = (Ls.take k).flatten.length) ∧ wr = w) (fun _ i _ => m - (intOf i).toNat)
  case atStart => exact ⟨0, 0, Nat.zero_le _, rfl, rfl, rfl, rfl⟩
  case round =>
    obtain ⟨k, z, hk, rfl, rfl, hz, hwr⟩ := hrel
    have hwr := hwr.symm
    subst hwr
    by_cases hlt : k < m
    · have hk2 : k < Ls.length := by rw [HM.out]; exact hlt
      obtain ⟨A, c, hc, hE⟩ := H.out k hk2
      have hup := flat_upto Ls (k + 1)
      rw [flat_next hk2, List.length_append, ← hz.out] at hup
      have HZ : Hid (z + (Ls[k]).length = (Ls.take (k + 1)).flatten.length) := by show _ = _; rw [flat_next hk2, List.length_append, ← hz.out]
      clear hE
      generalize (Ls[k]).length = n at *
      have h0 : ¬ ((z : Int) + (n : Int) < 0) := by omega
      go_wp2_with fail
      go_roundw
      case rel => exact ⟨k + 1, z + n, by omega, by go_num, by go_num, HZ, by trivial⟩
      case measure => simp [intOf]; omega
    · have HZ : Hid (z = Ls.flatten.length) := hz.out.trans (by rw [flat_all (by rw [HM.out]; exact hlt)])
      have hzz : z ≤ 4398046511104 := by rw [HZ.out]; exact ht
      go_wp2_with fail
      refine (grow_none z w hzz).mono ?_
      rintro e w1 ⟨u, rfl, hu, hb1⟩
      have U := Lib.hid hu
      have B1 := Lib.hid hb1
      clear hu hb1
      clear hzz HZ hz
      go_wp2_with fail
      go_loopw [6, 27] (fun u i wr => ∃ k : Nat, k ≤ m ∧ i = .int .i64 k ∧ Hid (OwnEnts wr w.heap.size u (Ls.take k).flatten) ∧ Below w.heap.size w wr) (fun _ i _ => m - (intOf i).toNat)
      case atStart => exact ⟨0, Nat.zero_le _, rfl, U.out, B1.out⟩
      case round =>
        clear U B1
        obtain ⟨k, hk, rfl, hown, hb1⟩ := hrel
        have hbs := hb1.size
        by_cases hlt : k < m
        · have hk2 : k < Ls.length := by rw [HM.out]; exact hlt
          obtain ⟨A, c, hc, hE⟩ := (H.out.below hb (hb1.mono hB)) k hk2
          have hup := flat_upto Ls (k + 1)
          have HN := Lib.hid (flat_next hk2)
          rw [HN.out, List.length_append] at hup
          have HE := Lib.hid hE
          have HT := Lib.hid ht
          clear hE ht
          generalize (Ls.take k).flatten = out at *
          generalize Ls[k] = L at *
          have a1 : out.length + L.length ≤ maxLen := by have := HT.out; unfold maxLen; omega
          have a2 : (out.length + L.length) * 24 ≤ 140737488355328 := by have := HT.out; omega
          go_wp2_with (at_builtin; refine wpList_append_recs rfl (.tmp 31) (.tmp 32) 81 rfl w.heap.size 104 i0 (.agg #[.string ⟨#[]⟩, .int .i64 0]) 2 24 Tryz.underlying81 HI.out hz0 hz1 hz2 rfl (by decide) _ _ _ rfl hown.out _ L B rfl HE.out entC_len entC_one a1 a2 hbs ?_; intro v1 w2 hown1 hg2 _)
          have O2 := Lib.hid (own_ents_all hown1)
          have B2 := Lib.hid (hb1.grown hg2 hbs (fun k hk => (hown.out.lt k hk).1))
          clear hown1 hg2 a1 a2
          rw [← HN.out] at O2
          go_wp2
          go_roundw
          case rel => exact ⟨k + 1, by omega, by go_num, O2, B2.out⟩
          case measure => simp [intOf]; omega
        · have HX := Lib.hid (flat_all (Ls := Ls) (k := k) (by rw [HM.out]; exact hlt))
          rw [HX.out] at hown
          go_wp2_with fail
          go_ret
          exact ⟨_, rfl, hown.out, hb1⟩
end Go.Proofs.YtolhniepejhmfaaGreatDoor.W06
