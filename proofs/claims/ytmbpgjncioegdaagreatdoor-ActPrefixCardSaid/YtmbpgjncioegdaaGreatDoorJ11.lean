/-
  Texts joined, in build order, each with its own comment and its own conditions: W08Lives, W02Same, W09Asks, W09Task, W10Math, W19Math, W20Math, W19Walk, W04Last, W04Pieces, Shelf, W04Seq.
-/
import Derived.Test.YtmbpgjncioegdaaGreatDoorJ10
import Derived.Test.YtmbpgjncioegdaaGreatDoorJ01
import Derived.Test.YtmbpgjncioegdaaGreatDoorChecked
import Derived.WalkSpells
import Derived.WalkLawsBesides
import Derived.Deep.QuietTactic
import Derived.BigQuiet
import Derived.Test.YtmbpgjncioegdaaGreatDoorJ09
import Derived.Deep.RegionHeld3
import Derived.Test.YtmbpgjncioegdaaGreatDoorJ06
import Derived.Lib.AppendStr
import Derived.Lib.Bytealg
import Derived.Shelf.Small.Strs
import Derived.Shelf.Strings.Search1
import Derived.Shelf.Strings.Prefix
import Derived.Test.YtmbpgjncioegdaaGreatDoorProg
import Derived.RangeFuncBound
import Derived.Shelf.Abstract
import Derived.Shelf.RegionOpen
import Derived.WalkKit
import Derived.OwnWalkIn
import Derived.TacticsInMore
import Derived.LoopNIn
import Derived.LoopIn
/-
  Layer 8 (seek), a walk of the law's lives over the contracts: it returns true; nothing that was there is changed.
-/
namespace Go.Proofs.YtmbpgjncioegdaaGreatDoor.W08
open Go Go.RowKit Go.Proofs.YtmbpgjncioegdaaGreatDoor.Strs Go.Proofs.YtmbpgjncioegdaaGreatDoor.Recs Go.Proofs.YtmbpgjncioegdaaGreatDoor.Range
open Go.Proofs.YtmbpgjncioegdaaGreatDoor.M07 (Tr Nd nodeAt inDir Right put put_right)
open Go.Proofs.YtmbpgjncioegdaaGreatDoor.M08
open Go.Proofs.YtmbpgjncioegdaaGreatDoor.M03 (check)
open Go.Proofs.YtmbpgjncioegdaaGreatDoor.W07 (Small Trees Nodes)
open Go.Proofs.YtmbpgjncioegdaaGreatDoor.Kit (ret_str ret_bool ret_int mk_of mk_bytes ba_ext below_draws on)

end Go.Proofs.YtmbpgjncioegdaaGreatDoor.W08
/-
  Layer 2 (words), a walk: the plain answer's Same: whether two slices of texts read alike; the world as it was, but for draws.
-/
namespace Go.Proofs.YtmbpgjncioegdaaGreatDoor.W02
open Go Go.RowKit Go.Proofs.YtmbpgjncioegdaaGreatDoor.Strs

theorem ret_bool {a b : Bool} (h : a = b) : Ending.returned (.bool a) = .returned (.bool b) := by rw [h]
end Go.Proofs.YtmbpgjncioegdaaGreatDoor.W02
/-
  Layer 9 (posix), walks over the contracts: the law's lives, and PosixAsks: each returns true; nothing that was there is changed. The conditions stand in the statements.
-/
namespace Go.Proofs.YtmbpgjncioegdaaGreatDoor.W09
open Go Go.RowKit Go.Proofs.YtmbpgjncioegdaaGreatDoor.Strs Go.Proofs.YtmbpgjncioegdaaGreatDoor.Recs Go.Proofs.YtmbpgjncioegdaaGreatDoor.Range
open Go.Proofs.YtmbpgjncioegdaaGreatDoor.M07 (Tr Nd nodeAt inDir Right listDir)
open Go.Proofs.YtmbpgjncioegdaaGreatDoor.M08 Go.Proofs.YtmbpgjncioegdaaGreatDoor.M09
open Go.Proofs.YtmbpgjncioegdaaGreatDoor.W07 (Small Trees Wrote Nodes nodeV TreeBox heap_top)
open Go.Proofs.YtmbpgjncioegdaaGreatDoor.W08 (Sn Snodes snC snC_len isFew few_is made)
open Go.Proofs.YtmbpgjncioegdaaGreatDoor.Kit (ret_str ret_bool ret_int mk_of mk_bytes ba_ext below_draws on)

end Go.Proofs.YtmbpgjncioegdaaGreatDoor.W09
/-
  Layer 9 (posix): tasks as records; the law's Short and do: what each returns. The conditions stand in the statements.
-/
namespace Go.Proofs.YtmbpgjncioegdaaGreatDoor.W09
set_option maxRecDepth 100000
open Go Go.RowKit Go.Proofs.YtmbpgjncioegdaaGreatDoor.Strs Go.Proofs.YtmbpgjncioegdaaGreatDoor.Recs Go.Proofs.YtmbpgjncioegdaaGreatDoor.Range
open Go.Proofs.YtmbpgjncioegdaaGreatDoor.M07 (Tr Nd nodeAt inDir Right listDir)
open Go.Proofs.YtmbpgjncioegdaaGreatDoor.M08 Go.Proofs.YtmbpgjncioegdaaGreatDoor.M09
open Go.Proofs.YtmbpgjncioegdaaGreatDoor.W07 (Small Trees Wrote Nodes nodeV TreeBox heap_top)
open Go.Proofs.YtmbpgjncioegdaaGreatDoor.Kit (ret_str ret_bool ret_int mk_of mk_bytes ba_ext below_draws on)

def okTk (x : Tk) : Bool := decide (x.path.length ≤ 2000) && decide (x.text.length ≤ 2000)
def isShort9 (l : List Tk) (many : Int) : Bool := l.all okTk && decide ((l.length : Int) ≤ many)
def okTo (l : List Tk) (k : Nat) : Prop := ∀ x ∈ l.take k, okTk x = true
theorem ok_next {l : List Tk} {k : Nat} (hk : k < l.length) (h : okTo l k) (h2 : okTk l[k] = true) : okTo l (k + 1) := by
  intro x hx
  rw [List.take_succ_eq_append_getElem hk] at hx
  rcases List.mem_append.1 hx with hx | hx
  · exact h x hx
  · rw [List.mem_singleton.1 hx]; exact h2
theorem ok_end {l : List Tk} {k : Nat} {many : Int} (hk : ¬ k < l.length) (h : okTo l k) : isShort9 l many = decide ((l.length : Int) ≤ many) := by
  unfold okTo at h
  rw [List.take_of_length_le (by omega)] at h
  unfold isShort9
  rw [List.all_eq_true.2 h, Bool.true_and]
theorem ok_no {l : List Tk} {k : Nat} {many : Int} (hk : k < l.length) (h2 : okTk l[k] = false) : isShort9 l many = false := by
  unfold isShort9
  rw [Bool.and_eq_false_iff]
  left
  rw [List.all_eq_false]
  exact ⟨l[k], List.getElem_mem hk, by rw [h2]; simp⟩
theorem short9_is {l : List Tk} {many : Int} (h : isShort9 l many = true) : (∀ x ∈ l, x.path.length ≤ 2000 ∧ x.text.length ≤ 2000) ∧ (l.length : Int) ≤ many := by
  unfold isShort9 okTk at h
  simp only [Bool.and_eq_true, decide_eq_true_eq, List.all_eq_true] at h
  exact h
set_option maxHeartbeats 2000000 in
theorem short9_any (v : Value) (L : List Tk) (many : Int) (B : Nat) (w : World) (h : Tasks B w v L) : Calls Tryz.prog 8 #[v, .int .i64 many] w fun e w' => e = .returned (.bool (isShort9 L many)) ∧ w' = w := by
  have H := Lib.hid h
  obtain ⟨A, c, rfl, hA1, hA2⟩ := h.form
  unfold maxLen at hA2
  clear h
  generalize hm : L.length = m at *
  have HM := Lib.hid hm
  clear hm
  go_enter Tryz.func8, Tryz.ntmps8
  go_wp2_with fail
  go_loop [5] (fun i => ∃ k : Nat, k ≤ m ∧ i = .int .i64 k ∧ Hid (okTo L k)) (fun i => m - (intOf i).toNat)
  case atStart => exact ⟨0, Nat.zero_le _, rfl, fun x hx => by simp at hx⟩
  case round =>
    obtain ⟨k, hk, rfl, hr⟩ := hrel
    by_cases hlt : k < m
    · obtain ⟨b, o, hl1, rfl, hbl, hc0, hc1, hc2⟩ := Tasks.at_ H.out hlt
      have e1 : ((⟨(L[k]).path.toArray⟩ : ByteArray).size : Int) = ((L[k]).path.length : Int) := by rw [Lib.size_eq]
      have e2 : ((⟨(L[k]).text.toArray⟩ : ByteArray).size : Int) = ((L[k]).text.length : Int) := by rw [Lib.size_eq]
      have HOK : Hid (okTk L[k] = (decide ((L[k]).path.length ≤ 2000) && decide ((L[k]).text.length ≤ 2000))) := rfl
      generalize (⟨(L[k]).path.toArray⟩ : ByteArray) = sp at *
      generalize (⟨(L[k]).text.toArray⟩ : ByteArray) = st at *
      by_cases h1 : (L[k]).path.length ≤ 2000
      · have t1 : ¬ (2000 : Int) < sp.size := by omega
        by_cases h2 : (L[k]).text.length ≤ 2000
        · have HX := Lib.hid (ok_next hl1 hr.out (by rw [HOK.out, decide_eq_true h1, decide_eq_true h2]; rfl))
          have t2 : ¬ (2000 : Int) < st.size := by omega
          clear h1 h2 e1 e2
          go_wp2_with fail
          go_round
          case rel => exact ⟨k + 1, by omega, by go_num, HX⟩
          case measure => simp [intOf]; omega
        · have HX := Lib.hid (ok_no (many := many) hl1 (by rw [HOK.out, decide_eq_false h2, Bool.and_false]))
          have t2 : (2000 : Int) < st.size := by omega
          clear h1 h2 e1 e2
          go_wp2_with fail
          go_ret
          exact ⟨ret_bool HX.out.symm, rfl⟩
      · have HX := Lib.hid (ok_no (many := many) hl1 (by rw [HOK.out, decide_eq_false h1, Bool.false_and]))
        have t1 : (2000 : Int) < sp.size := by omega
        clear h1 e1 e2
        go_wp2_with fail
        go_ret
        exact ⟨ret_bool HX.out.symm, rfl⟩
    · have HX := Lib.hid (ok_end (many := many) (by rw [HM.out]; exact hlt) hr.out)
      rw [HM.out] at HX
      go_wp2_with fail
      go_ret
      exact ⟨ret_bool HX.out.symm, rfl⟩
theorem wrote_after {Rep : (Nat → Prop) → World → Value → Tr → Prop} {F : Nat → Prop} {w w1 w' : World} {v : Value} {t' : Tr} (hb : Below w.heap.size w w1) (h : Wrote Rep F v t' w1 w') : Wrote Rep F v t' w w' := by
  obtain ⟨F', h1, h2, h3⟩ := h
  exact ⟨F', h1, (Turns.new hb).trans h2, fun k hk => (h3 k hk).imp id (fun h => Nat.le_trans hb.size h)⟩
end Go.Proofs.YtmbpgjncioegdaaGreatDoor.W09
/-
  Plain mathematics for layer 10 (fs): a tree whose changes may fail, as functions; how far tasks are done. Lists alone. No condition but those that each theorem bears.
-/
namespace Go.Proofs.YtmbpgjncioegdaaGreatDoor.M10
open Go.Proofs.YtmbpgjncioegdaaGreatDoor.M07 (Tr Right)
open Go.Proofs.YtmbpgjncioegdaaGreatDoor.M09
open Go.Proofs.YtmbpgjncioegdaaGreatDoor.W09 (Tk Within)

abbrev Bytes := List UInt8
/-- a fault: of which change, and its error -/
structure Fl where
  at_ : Int
  err : Int
/-- a tree, its faults, the changes, and whether it is down -/
structure Fs where
  t : Tr
  faults : List Fl
  count : Int
  down : Bool
/-- does this fault strike the change n? -/
def strikes (n : Int) (x : Fl) : Bool := decide (x.at_ = n) && decide (x.err ≠ 0)
/-- the error of the first fault that strikes; 0: none -/
def fault : List Fl → Int → Int
  | [], _ => 0
  | x :: l, n => if strikes n x then x.err else fault l n
noncomputable def doFs (f : Fs) (k : Int) (p x : Bytes) : Fs × Int :=
  if f.down = true then (f, 17) else if k < 1 ∨ 6 < k then (f, 2)
  else if fault f.faults (f.count + 1) ≠ 0 then ({ f with count := f.count + 1, down := decide (fault f.faults (f.count + 1) = 17) }, fault f.faults (f.count + 1))
  else ({ f with t := (doTask f.t k p x).1, count := f.count + 1 }, (doTask f.t k p x).2)
noncomputable def applyAll (t : Tr) : List Tk → Tr × Nat × Int
  | [] => (t, 0, 0)
  | x :: l => if (doTask t x.kind x.path x.text).2 ≠ 0 then (t, 0, (doTask t x.kind x.path x.text).2)
    else ((applyAll (doTask t x.kind x.path x.text).1 l).1, (applyAll (doTask t x.kind x.path x.text).1 l).2.1 + 1, (applyAll (doTask t x.kind x.path x.text).1 l).2.2)

/-! the first fault that strikes, found from the left -/
theorem fault_none {l : List Fl} {n : Int} (h : ∀ x ∈ l, strikes n x = false) : fault l n = 0 := by
  induction l with
  | nil => rfl
  | cons a r ih =>
    unfold fault
    rw [h a List.mem_cons_self, if_neg (by simp)]
    exact ih fun x hx => h x (List.mem_cons_of_mem _ hx)
theorem fault_at {l : List Fl} {n : Int} {k : Nat} (hk : k < l.length) (h : ∀ x ∈ l.take k, strikes n x = false) (hs : strikes n l[k] = true) : fault l n = l[k].err := by
  induction l generalizing k with
  | nil => simp at hk
  | cons a r ih =>
    unfold fault
    cases k with
    | zero =>
      have : strikes n a = true := hs
      rw [this, if_pos rfl]; rfl
    | succ m =>
      rw [h a (by rw [List.take_succ_cons]; exact List.mem_cons_self), if_neg (by simp)]
      exact ih (by simpa using hk) (fun x hx => h x (by rw [List.take_succ_cons]; exact List.mem_cons_of_mem _ hx)) hs
theorem strikes_err {n : Int} {x : Fl} (h : strikes n x = true) : x.at_ = n ∧ x.err ≠ 0 := by
  unfold strikes at h
  simp only [Bool.and_eq_true, decide_eq_true_eq] at h
  exact h

/-! the table of the faults by their changes -/
theorem fault_snoc (l : List Fl) (x : Fl) (n : Int) : fault (l ++ [x]) n = if fault l n ≠ 0 then fault l n else if strikes n x then x.err else 0 := by
  induction l with
  | nil => rfl
  | cons a r ih =>
    show (if strikes n a then a.err else fault (r ++ [x]) n) = if (if strikes n a then a.err else fault r n) ≠ 0 then (if strikes n a then a.err else fault r n) else _
    by_cases h : strikes n a = true
    · have := (strikes_err h).2
      rw [if_pos h, if_pos h, if_pos this]
    · rw [if_neg h, if_neg h]; exact ih
/-- the error that the change n has, if it has one -/
def tab (l : List Fl) (n : Int) : Option Value := if n < 1 then none else if fault l n = 0 then none else some (.int .i64 (fault l n))
theorem tab_nil (n : Int) : tab [] n = none := by
  unfold tab
  split
  · rfl
  · rfl
theorem tab_skip {l : List Fl} {x : Fl} (h : x.at_ < 1 ∨ x.err = 0) (n : Int) : tab (l ++ [x]) n = tab l n := by
  unfold tab
  by_cases hn : n < 1
  · rw [if_pos hn, if_pos hn]
  · rw [if_neg hn, if_neg hn]
    have e : fault (l ++ [x]) n = fault l n := by
      rw [fault_snoc]
      by_cases h2 : fault l n ≠ 0
      · rw [if_pos h2]
      · rw [if_neg h2]
        have hs : ¬ strikes n x = true := fun hs => by
          obtain ⟨e1, e2⟩ := strikes_err hs
          rcases h with h | h
          · omega
          · exact e2 h
        rw [if_neg hs]
        exact (Decidable.not_not.1 h2).symm
    rw [e]
theorem tab_taken {l : List Fl} {x : Fl} (h : (tab l x.at_).isSome = true) (n : Int) : tab (l ++ [x]) n = tab l n := by
  unfold tab at *
  by_cases hn : n < 1
  · rw [if_pos hn, if_pos hn]
  · rw [if_neg hn, if_neg hn]
    have e : fault (l ++ [x]) n = fault l n := by
      rw [fault_snoc]
      by_cases h2 : fault l n ≠ 0
      · rw [if_pos h2]
      · rw [if_neg h2]
        have hs : ¬ strikes n x = true := fun hs => by
          obtain ⟨e1, e2⟩ := strikes_err hs
          rw [e1, if_neg hn, if_pos (Decidable.not_not.1 h2)] at h
          cases h
        rw [if_neg hs]
        exact (Decidable.not_not.1 h2).symm
    rw [e]
theorem tab_new {l : List Fl} {x : Fl} (h1 : ¬ x.at_ < 1) (h2 : x.err ≠ 0) (h : tab l x.at_ = none) (n : Int) : tab (l ++ [x]) n = if n = x.at_ then some (.int .i64 x.err) else tab l n := by
  have h0 : fault l x.at_ = 0 := by
    unfold tab at h
    rw [if_neg h1] at h
    by_cases e : fault l x.at_ = 0
    · exact e
    · rw [if_neg e] at h; cases h
  by_cases e : n = x.at_
  · rw [if_pos e, e]
    unfold tab
    have hs : strikes x.at_ x = true := by unfold strikes; simp [h2]
    have e2 : fault (l ++ [x]) x.at_ = x.err := by rw [fault_snoc, h0, if_neg (fun h => h rfl), if_pos hs]
    rw [if_neg h1, e2, if_neg h2]
  · rw [if_neg e]
    unfold tab
    have hs : ¬ strikes n x = true := fun hs => e (strikes_err hs).1.symm
    have e2 : fault (l ++ [x]) n = fault l n := by
      rw [fault_snoc]
      by_cases h3 : fault l n ≠ 0
      · rw [if_pos h3]
      · rw [if_neg h3, if_neg hs]; exact (Decidable.not_not.1 h3).symm
    rw [e2]
theorem tab_at {l : List Fl} {n : Int} (hn : 1 ≤ n) : ((tab l n).getD (.int .i64 0) = .int .i64 (fault l n)) ∧ (tab l n).isSome = decide (fault l n ≠ 0) := by
  unfold tab
  rw [if_neg (by omega)]
  by_cases h : fault l n = 0
  · rw [if_pos h, h]; exact ⟨rfl, rfl⟩
  · rw [if_neg h]; exact ⟨rfl, by simp [h]⟩

/-! what the tree becomes -/
theorem kept_fs (f : Fs) (k : Int) (p x : Bytes) : Kept f.t (doFs f k p x).1.t := by
  unfold doFs
  split
  · exact Kept.refl _
  · split
    · exact Kept.refl _
    · split
      · exact Kept.refl _
      · exact kept_do _ _ _ _
theorem faults_fs (f : Fs) (k : Int) (p x : Bytes) : (doFs f k p x).1.faults = f.faults := by
  unfold doFs
  split
  · rfl
  · split
    · rfl
    · split <;> rfl
theorem count_fs (f : Fs) (k : Int) (p x : Bytes) : f.count ≤ (doFs f k p x).1.count ∧ (doFs f k p x).1.count ≤ f.count + 1 := by
  unfold doFs
  split
  · exact ⟨Int.le_refl _, by show f.count ≤ _; omega⟩
  · split
    · exact ⟨Int.le_refl _, by show f.count ≤ _; omega⟩
    · split <;> exact ⟨by show f.count ≤ f.count + 1; omega, Int.le_refl _⟩

/-! tasks one by one: behind k tasks without an error the rest is done -/
/-- k tasks were done without an error, and t is what they left -/
inductive Done (t0 : Tr) (l : List Tk) : Nat → Tr → Prop where
  | start : Done t0 l 0 t0
  | next {k : Nat} {t : Tr} (h : Done t0 l k t) (hk : k < l.length) (he : (doTask t l[k].kind l[k].path l[k].text).2 = 0) : Done t0 l (k + 1) (doTask t l[k].kind l[k].path l[k].text).1
theorem Done.rest {t0 t : Tr} {l : List Tk} {k : Nat} (h : Done t0 l k t) : k ≤ l.length ∧ applyAll t0 l = ((applyAll t (l.drop k)).1, (applyAll t (l.drop k)).2.1 + k, (applyAll t (l.drop k)).2.2) := by
  induction h with
  | start => exact ⟨Nat.zero_le _, by simp⟩
  | @next k t h hk he ih =>
    refine ⟨hk, ?_⟩
    rw [ih.2, List.drop_eq_getElem_cons hk]
    unfold applyAll
    rw [if_neg (fun e => e he)]
    show _ = (_, _ + (k + 1), _)
    rw [show ∀ a : Nat, a + 1 + k = a + (k + 1) from fun a => by omega]
    rw [← applyAll.eq_def]
theorem Done.all {t0 t : Tr} {l : List Tk} {k : Nat} (h : Done t0 l k t) (hk : ¬ k < l.length) : applyAll t0 l = (t, l.length, 0) := by
  obtain ⟨h1, h2⟩ := h.rest
  have : k = l.length := by omega
  subst this
  rw [h2, List.drop_length]
  show (t, 0 + l.length, (0 : Int)) = _
  rw [Nat.zero_add]
theorem Done.stop {t0 t : Tr} {l : List Tk} {k : Nat} (h : Done t0 l k t) (hk : k < l.length) (he : (doTask t l[k].kind l[k].path l[k].text).2 ≠ 0) : applyAll t0 l = (t, k, (doTask t l[k].kind l[k].path l[k].text).2) := by
  rw [h.rest.2, List.drop_eq_getElem_cons hk]
  unfold applyAll
  rw [if_pos he]
  show (t, 0 + k, _) = _
  rw [Nat.zero_add]
theorem Done.within {t0 t : Tr} {l : List Tk} {k n : Nat} (h : Done t0 l k t) (hw : Within t0 n) : Within t (n + k) := by
  induction h with
  | start => exact hw
  | next _ _ _ ih => exact ih.next (kept_do _ _ _ _)
end Go.Proofs.YtmbpgjncioegdaaGreatDoor.M10
/-
  Plain mathematics for layer 19 (task): texts as words, tasks as lines; lists of bytes alone. No condition but those that each theorem bears.
-/
namespace Go.Proofs.YtmbpgjncioegdaaGreatDoor.M19
open Go
open Go.Proofs.YtmbpgjncioegdaaGreatDoor.W09 (Tk)
open Go.Proofs.YtmbpgjncioegdaaGreatDoor.M04 (isPath)

abbrev Bytes := List UInt8
/-- a byte that stands as it is -/
def plain (c : UInt8) : Bool := decide (33 ≤ c.toNat) && decide (c.toNat ≤ 126) && decide (c.toNat ≠ 37)
def hexB (n : Nat) : UInt8 := if n < 10 then UInt8.ofNat (48 + n) else UInt8.ofNat (55 + n)
def word (c : UInt8) : Bytes := if plain c then [c] else [37, hexB (c.toNat / 16), hexB (c.toNat % 16)]
/-- a text as a word -/
def shield (l : Bytes) : Bytes := l.flatMap word
/-- a digit's number -/
def dig (c : UInt8) : Option Nat := if 48 ≤ c.toNat ∧ c.toNat ≤ 57 then some (c.toNat - 48) else if 65 ≤ c.toNat ∧ c.toNat ≤ 70 then some (c.toNat - 55) else none
def hexed (a b : UInt8) : Option UInt8 := match dig a, dig b with
  | some x, some y => if plain (UInt8.ofNat (16 * x + y)) then none else some (UInt8.ofNat (16 * x + y))
  | _, _ => none
def second (r : Bytes) : Option (UInt8 × Nat) := match r with
  | a :: b :: _ => (hexed a b).map fun x => (x, 3)
  | _ => none
/-- the byte that a word tells first, and by how many bytes -/
def first (l : Bytes) : Option (UInt8 × Nat) := match l with
  | [] => none
  | c :: r => if plain c = true then some (c, 1) else if c = 37 then second r else none
theorem first_plain {c : UInt8} {r : Bytes} (h : plain c = true) : first (c :: r) = some (c, 1) := if_pos h
theorem first_sign {r : Bytes} : first (37 :: r) = second r := by
  show (if plain 37 = true then some (37, 1) else if (37 : UInt8) = 37 then second r else none) = _
  rw [if_neg (by decide), if_pos rfl]
theorem all_bytes {p : UInt8 → Bool} (h : ∀ n, n < 256 → p (UInt8.ofNat n) = true) (c : UInt8) : p c = true := by
  have := h c.toNat c.toNat_lt
  rwa [UInt8.ofNat_toNat] at this
theorem hexed_word (c : UInt8) (h : plain c = false) : hexed (hexB (c.toNat / 16)) (hexB (c.toNat % 16)) = some c := by
  have := all_bytes (p := fun c => plain c || decide (hexed (hexB (c.toNat / 16)) (hexB (c.toNat % 16)) = some c)) (by decide +kernel) c
  simpa [h] using this
theorem word_plain {c : UInt8} (h : plain c = true) : word c = [c] := by unfold word; rw [if_pos h]
theorem word_not {c : UInt8} (h : plain c = false) : word c = [37, hexB (c.toNat / 16), hexB (c.toNat % 16)] := by unfold word; rw [if_neg (by rw [h]; decide)]
theorem first_word (c : UInt8) (r : Bytes) : first (word c ++ r) = some (c, (word c).length) := by
  cases h : plain c with
  | true => rw [word_plain h]; exact first_plain h
  | false =>
    rw [word_not h]
    refine first_sign.trans ?_
    show (hexed _ _).map _ = _
    rw [hexed_word c h]; rfl
theorem word_pos (c : UInt8) : 0 < (word c).length := by
  unfold word; split <;> simp
theorem shield_nil : shield [] = [] := rfl
theorem shield_cons (c : UInt8) (l : Bytes) : shield (c :: l) = word c ++ shield l := rfl
theorem shield_cut : ∀ (a r x : Bytes), shield a ++ r = shield x → ∃ y, x = a ++ y ∧ r = shield y
  | [], r, x, h => ⟨x, rfl, h⟩
  | c :: a, r, x, h => by
    match x with
    | [] =>
      rw [shield_cons, shield_nil] at h
      have := congrArg List.length h
      rw [List.length_append, List.length_append, List.length_nil] at this
      have := word_pos c
      omega
    | c' :: x =>
      rw [shield_cons, shield_cons, List.append_assoc] at h
      have h1 := first_word c (shield a ++ r)
      rw [h, first_word] at h1
      injection h1 with h1
      injection h1 with h1 h2
      subst h1
      obtain ⟨y, rfl, hr⟩ := shield_cut a r x (List.append_cancel_left h)
      exact ⟨y, rfl, hr⟩
theorem stops {a r x : Bytes} (h : first r = none) (hr : r ≠ []) : shield x ≠ shield a ++ r := by
  intro e
  obtain ⟨y, rfl, hy⟩ := shield_cut a r x e.symm
  match y with
  | [] => exact hr hy
  | c :: y => rw [hy, shield_cons, first_word] at h; cases h

/-- a kind's word -/
def verb (k : Int) : Bytes := if k = 1 then [109, 107, 100, 105, 114] else if k = 2 then [114, 109, 100, 105, 114] else if k = 3 then [108, 105, 110, 107] else if k = 4 then [117, 110, 108, 105, 110, 107] else if k = 5 then [109, 111, 118, 101] else [119, 114, 105, 116, 101]
/-- whether a kind's line has a second word -/
def has (k : Int) : Bool := k == 3 || k == 5 || k == 6
def Kind (k : Int) : Prop := 1 ≤ k ∧ k ≤ 6
theorem kinds {k : Int} (h : Kind k) : k = 1 ∨ k = 2 ∨ k = 3 ∨ k = 4 ∨ k = 5 ∨ k = 6 := by unfold Kind at h; omega
/-- whether a node may be put there -/
def place (l : Bytes) : Bool := isPath l && decide (l ≠ [47])
/-- whether a task of a kind may have such a text -/
def mays (k : Int) (t : Bytes) : Bool := if k = 1 ∨ k = 2 ∨ k = 4 then decide (t = []) else if k = 3 then decide (t ≠ []) && decide (t.length ≤ 65536) else if k = 5 then place t else decide (k = 6) && decide (t.length ≤ 65536)
def right (x : Tk) : Bool := place x.path && mays x.kind x.text
def fits (x : Tk) : Prop := Kind x.kind ∧ (has x.kind = false → x.text = [])
def zero : Tk := ⟨0, [], []⟩
end Go.Proofs.YtmbpgjncioegdaaGreatDoor.M19
/-
  Plain mathematics for layer 20 (act): which tasks may be a plan, plans tried and done; whatever fails, the tree is that behind the first tasks. Lists alone. No condition but those that each theorem bears.
-/
namespace Go.Proofs.YtmbpgjncioegdaaGreatDoor.M20
open Go.Proofs.YtmbpgjncioegdaaGreatDoor.M07 (Tr Right)
open Go.Proofs.YtmbpgjncioegdaaGreatDoor.M09
open Go.Proofs.YtmbpgjncioegdaaGreatDoor.M10
open Go.Proofs.YtmbpgjncioegdaaGreatDoor.M19 (right)
open Go.Proofs.YtmbpgjncioegdaaGreatDoor.W09 (Tk Within)

/-- what is wrong with tasks by themselves -/
def may (l : List Tk) : Int := if l.all right = true then (if 10000 < l.length then 21 else 0) else 2
/-- the first k tasks are Right -/
def rightTo (l : List Tk) (k : Nat) : Prop := ∀ x ∈ l.take k, right x = true
theorem right_start (l : List Tk) : rightTo l 0 := fun x hx => by simp at hx
theorem right_next {l : List Tk} {k : Nat} (hk : k < l.length) (h : rightTo l k) (h2 : right l[k] = true) : rightTo l (k + 1) := by
  intro x hx
  rw [List.take_succ_eq_append_getElem hk] at hx
  rcases List.mem_append.1 hx with hx | hx
  · exact h x hx
  · rw [List.mem_singleton.1 hx]; exact h2
theorem may_no {l : List Tk} {k : Nat} (hk : k < l.length) (h2 : right l[k] = false) : may l = 2 := by
  unfold may
  rw [if_neg]
  rw [List.all_eq_true]
  intro h
  have := h _ (List.getElem_mem hk)
  rw [h2] at this
  cases this
theorem may_end {l : List Tk} {k : Nat} (hk : ¬ k < l.length) (h : rightTo l k) : may l = if 10000 < l.length then 21 else 0 := by
  unfold rightTo at h
  rw [List.take_of_length_le (by omega)] at h
  unfold may
  rw [if_pos (List.all_eq_true.2 h)]
/-- how many tasks have no error, and the first error -/
noncomputable def valid (t : Tr) (l : List Tk) : Nat × Int := if may l ≠ 0 then (0, may l) else ((applyAll t l).2.1, (applyAll t l).2.2)
/-- the first n tasks of a list; none if n is below 1 -/
def firsts (l : List Tk) (n : Int) : List Tk := l.take (min (max n 0) l.length).toNat
noncomputable def after (t : Tr) (l : List Tk) (n : Int) : Tr := (applyAll t (firsts l n)).1
noncomputable def runAll (f : Fs) : List Tk → Fs × Nat × Int
  | [] => (f, 0, 0)
  | x :: l => if (doFs f x.kind x.path x.text).2 ≠ 0 then ((doFs f x.kind x.path x.text).1, 0, (doFs f x.kind x.path x.text).2)
    else ((runAll (doFs f x.kind x.path x.text).1 l).1, (runAll (doFs f x.kind x.path x.text).1 l).2.1 + 1, (runAll (doFs f x.kind x.path x.text).1 l).2.2)
noncomputable def run (f : Fs) (l : List Tk) : Fs × Nat × Int := if may l ≠ 0 then (f, 0, may l) else runAll f l

theorem valid_no {t : Tr} {l : List Tk} (h : may l ≠ 0) : valid t l = (0, may l) := if_pos h
theorem valid_ok {t : Tr} {l : List Tk} (h : may l = 0) : valid t l = ((applyAll t l).2.1, (applyAll t l).2.2) := if_neg (fun e => e h)
theorem run_no {f : Fs} {l : List Tk} (h : may l ≠ 0) : run f l = (f, 0, may l) := if_pos h
theorem run_ok {f : Fs} {l : List Tk} (h : may l = 0) : run f l = runAll f l := if_neg (fun e => e h)

/-! tasks run one by one -/
/-- k tasks were run without an error, and f is what they left -/
inductive Ran (f0 : Fs) (l : List Tk) : Nat → Fs → Prop where
  | start : Ran f0 l 0 f0
  | next {k : Nat} {f : Fs} (h : Ran f0 l k f) (hk : k < l.length) (he : (doFs f l[k].kind l[k].path l[k].text).2 = 0) : Ran f0 l (k + 1) (doFs f l[k].kind l[k].path l[k].text).1
theorem Ran.rest {f0 f : Fs} {l : List Tk} {k : Nat} (h : Ran f0 l k f) : k ≤ l.length ∧ runAll f0 l = ((runAll f (l.drop k)).1, (runAll f (l.drop k)).2.1 + k, (runAll f (l.drop k)).2.2) := by
  induction h with
  | start => exact ⟨Nat.zero_le _, by simp⟩
  | @next k f h hk he ih =>
    refine ⟨hk, ?_⟩
    rw [ih.2, List.drop_eq_getElem_cons hk]
    unfold runAll
    rw [if_neg (fun e => e he)]
    show _ = (_, _ + (k + 1), _)
    rw [show ∀ a : Nat, a + 1 + k = a + (k + 1) from fun a => by omega]
    rw [← runAll.eq_def]
theorem Ran.all {f0 f : Fs} {l : List Tk} {k : Nat} (h : Ran f0 l k f) (hk : ¬ k < l.length) : runAll f0 l = (f, l.length, 0) := by
  obtain ⟨h1, h2⟩ := h.rest
  have : k = l.length := by omega
  subst this
  rw [h2, List.drop_length]
  show (f, 0 + l.length, (0 : Int)) = _
  rw [Nat.zero_add]
theorem Ran.stop {f0 f : Fs} {l : List Tk} {k : Nat} (h : Ran f0 l k f) (hk : k < l.length) (he : (doFs f l[k].kind l[k].path l[k].text).2 ≠ 0) : runAll f0 l = ((doFs f l[k].kind l[k].path l[k].text).1, k, (doFs f l[k].kind l[k].path l[k].text).2) := by
  rw [h.rest.2, List.drop_eq_getElem_cons hk]
  unfold runAll
  rw [if_pos he]
  show (_, 0 + k, _) = _
  rw [Nat.zero_add]
theorem ran_stop {f0 f : Fs} {l : List Tk} {k : Nat} {y : Tk} (h : Ran f0 l k f) (hy : l[k]? = some y) (he : (doFs f y.kind y.path y.text).2 ≠ 0) : runAll f0 l = ((doFs f y.kind y.path y.text).1, k, (doFs f y.kind y.path y.text).2) := by
  obtain ⟨hk, rfl⟩ := List.getElem?_eq_some_iff.1 hy
  exact h.stop hk he
theorem ran_next {f0 f : Fs} {l : List Tk} {k : Nat} {y : Tk} (h : Ran f0 l k f) (hy : l[k]? = some y) (he : (doFs f y.kind y.path y.text).2 = 0) : Ran f0 l (k + 1) (doFs f y.kind y.path y.text).1 := by
  obtain ⟨hk, rfl⟩ := List.getElem?_eq_some_iff.1 hy
  exact h.next hk he
theorem Ran.within {f0 f : Fs} {l : List Tk} {k n : Nat} (h : Ran f0 l k f) (hw : Within f0.t n) : Within f.t (n + k) := by
  induction h with
  | start => exact hw
  | next _ _ _ ih => exact ih.next (kept_fs _ _ _ _)
theorem Ran.counts {f0 f : Fs} {l : List Tk} {k : Nat} (h : Ran f0 l k f) : f0.count ≤ f.count ∧ f.count ≤ f0.count + k ∧ f.faults = f0.faults := by
  induction h with
  | start => exact ⟨Int.le_refl _, by omega, rfl⟩
  | next _ _ _ ih =>
    rename_i k g h hk he
    have := count_fs g l[k].kind l[k].path l[k].text
    exact ⟨by omega, by omega, by rw [faults_fs]; exact ih.2.2⟩

/-! whatever fails -/
/-- one task: with an error the tree stays; without one it is as on a tree without faults -/
theorem fs_tree (f : Fs) (k : Int) (p x : Bytes) : ((doFs f k p x).2 ≠ 0 → (doFs f k p x).1.t = f.t) ∧ ((doFs f k p x).2 = 0 → (doTask f.t k p x).2 = 0 ∧ (doFs f k p x).1.t = (doTask f.t k p x).1) := by
  unfold doFs
  split
  · exact ⟨fun _ => rfl, fun h => by have : (17 : Int) = 0 := h; omega⟩
  · split
    · exact ⟨fun _ => rfl, fun h => by have : (2 : Int) = 0 := h; omega⟩
    · split
      · rename_i h
        exact ⟨fun _ => rfl, fun h2 => absurd h2 h⟩
      · exact ⟨fun h => do_err h, fun h => ⟨h, rfl⟩⟩
/-- the tree behind the tasks that were run is that behind as many of them -/
theorem run_tree (l : List Tk) : ∀ f : Fs, (runAll f l).2.1 ≤ l.length ∧ (runAll f l).1.t = (applyAll f.t (l.take (runAll f l).2.1)).1 := by
  induction l with
  | nil => exact fun f => ⟨Nat.le_refl _, rfl⟩
  | cons x l ih =>
    intro f
    obtain ⟨h1, h2⟩ := fs_tree f x.kind x.path x.text
    unfold runAll
    by_cases he : (doFs f x.kind x.path x.text).2 ≠ 0
    · rw [if_pos he]
      exact ⟨Nat.zero_le _, h1 he⟩
    · rw [if_neg he]
      obtain ⟨e1, e2⟩ := h2 (Decidable.not_not.1 he)
      obtain ⟨i1, i2⟩ := ih (doFs f x.kind x.path x.text).1
      refine ⟨Nat.succ_le_succ i1, ?_⟩
      show (runAll (doFs f x.kind x.path x.text).1 l).1.t = (applyAll f.t (x :: l.take (runAll (doFs f x.kind x.path x.text).1 l).2.1)).1
      rw [i2]
      conv => rhs; unfold applyAll
      rw [if_neg (fun e => e e1), e2]
theorem run_done (l : List Tk) : ∀ f : Fs, (runAll f l).2.2 = 0 → (runAll f l).2.1 = l.length := by
  induction l with
  | nil => exact fun f _ => rfl
  | cons x l ih =>
    intro f
    unfold runAll
    by_cases he : (doFs f x.kind x.path x.text).2 ≠ 0
    · rw [if_pos he]
      exact fun h => absurd h he
    · rw [if_neg he]
      exact fun h => congrArg (· + 1) (ih _ h)
theorem right_kind {x : Tk} (h : right x = true) : 1 ≤ x.kind ∧ x.kind ≤ 6 := by
  unfold right at h
  rw [Bool.and_eq_true] at h
  have h := h.2
  unfold M19.mays at h
  split at h
  · omega
  · split at h
    · omega
    · split at h
      · omega
      · simp only [Bool.and_eq_true, decide_eq_true_eq] at h
        omega
/-- without faults what is valid is done -/
theorem run_valid (l : List Tk) : ∀ f : Fs, l.all right = true → f.faults = [] → f.down = false → (applyAll f.t l).2.2 = 0 → (runAll f l).2.2 = 0 := by
  induction l with
  | nil => exact fun f _ _ _ _ => rfl
  | cons x l ih =>
    intro f hr hf hd h
    rw [List.all_cons, Bool.and_eq_true] at hr
    have hk : ¬ (x.kind < 1 ∨ 6 < x.kind) := fun hk => by
      have := right_kind hr.1
      omega
    have hD : doFs f x.kind x.path x.text = ({ f with t := (doTask f.t x.kind x.path x.text).1, count := f.count + 1 }, (doTask f.t x.kind x.path x.text).2) := by
      unfold doFs
      rw [if_neg (by rw [hd]; decide), if_neg hk, hf, if_neg (by rw [show fault [] (f.count + 1) = 0 from rfl]; exact fun e => e rfl)]
    unfold applyAll at h
    by_cases he : (doTask f.t x.kind x.path x.text).2 ≠ 0
    · rw [if_pos he] at h
      exact absurd h he
    · rw [if_neg he] at h
      have he0 := Decidable.not_not.1 he
      unfold runAll
      rw [hD, if_neg (fun e => e he0)]
      exact ih _ hr.2 hf hd h
/-- what was run is a beginning of the plan -/
theorem run_after (f : Fs) (l : List Tk) : (run f l).2.1 ≤ l.length ∧ (run f l).1.t = after f.t l ((run f l).2.1 : Int) := by
  unfold after firsts
  by_cases h : may l = 0
  · rw [run_ok h]
    obtain ⟨h1, h2⟩ := run_tree l f
    refine ⟨h1, ?_⟩
    rw [show (min (max ((runAll f l).2.1 : Int) 0) (l.length : Int)).toNat = (runAll f l).2.1 by omega]
    exact h2
  · rw [run_no h]
    exact ⟨Nat.zero_le _, by rw [show (min (max (((0 : Nat)) : Int) 0) (l.length : Int)).toNat = 0 by omega]; rfl⟩
theorem run_all (f : Fs) (l : List Tk) (h : (run f l).2.2 = 0) : (run f l).2.1 = l.length := by
  by_cases hm : may l = 0
  · rw [run_ok hm] at h ⊢; exact run_done l f h
  · rw [run_no hm] at h; exact absurd h hm
theorem valid_runs (f : Fs) (l : List Tk) (h : (valid f.t l).2 = 0) (hf : f.faults = []) (hd : f.down = false) : (run f l).2.2 = 0 := by
  have hm : may l = 0 := Decidable.byContradiction fun hm => by rw [valid_no hm] at h; exact hm h
  rw [valid_ok hm] at h
  rw [run_ok hm]
  refine run_valid l f ?_ hf hd h
  unfold may at hm
  by_cases ha : l.all right = true
  · exact ha
  · rw [if_neg ha] at hm; omega
theorem firsts_len (l : List Tk) (n : Int) : (firsts l n).length ≤ l.length := by unfold firsts; rw [List.length_take]; omega
end Go.Proofs.YtmbpgjncioegdaaGreatDoor.M20
/-
  Layer 19 (task), walks over bytes and kinds: standsAsIs, hasText; the document's digit, verb. The conditions stand in the statements.
-/
namespace Go.Proofs.YtmbpgjncioegdaaGreatDoor.W19
open Go Go.RowKit Go.Proofs.YtmbpgjncioegdaaGreatDoor.M19
open Go.Proofs.YtmbpgjncioegdaaGreatDoor.Kit (ret_str ret_bool ret_int mk_of mk_bytes ba_ext below_draws on)

def plainZ (z : Int) : Bool := decide (33 ≤ z) && decide (z ≤ 126) && decide (z ≠ 37)
theorem plain_of (c : UInt8) : plainZ (c.toNat : Int) = plain c := by
  unfold plainZ plain
  congr 1
  · congr 1
    · rw [decide_eq_decide]; omega
    · rw [decide_eq_decide]; omega
  · rw [decide_eq_decide]; omega
end Go.Proofs.YtmbpgjncioegdaaGreatDoor.W19
/-
  The place of the last slash in a text and in a row of bytes: what Go's strings.LastIndexByte and bytes.LastIndexByte return at a slash. No condition but those that each theorem bears.
-/
namespace Go.Proofs.YtmbpgjncioegdaaGreatDoor.W04
set_option maxRecDepth 100000
open Go Go.RowKit
open Go.Proofs.YtmbpgjncioegdaaGreatDoor.Kit (ret_str ret_bool ret_int byte_eq byte_ne drop_next drop_end)

/-- the place of the last slash; -1 where there is none -/
def lastSlash (l : List UInt8) : Int := if (47 : UInt8) ∈ l then ((l.length - 1 - (l.reverse.idxOf 47) : Nat) : Int) else -1
theorem last_at {l : List UInt8} {k : Nat} (hk : k < l.length) (h : l.getD k 0 = 47) (h2 : (47 : UInt8) ∉ l.drop (k + 1)) : lastSlash l = k := by
  have e : l = l.take k ++ 47 :: l.drop (k + 1) := by
    conv => lhs; rw [← List.take_append_drop k l, List.drop_eq_getElem_cons hk]
    rw [List.getD_eq_getElem?_getD, List.getElem?_eq_getElem hk] at h
    simp at h
    rw [h]
  have hm : (47 : UInt8) ∈ l := by rw [e]; simp
  have hr : l.reverse = (l.drop (k + 1)).reverse ++ 47 :: (l.take k).reverse := by conv => lhs; rw [e]; simp
  have hi : l.reverse.idxOf 47 = (l.drop (k + 1)).length := by
    rw [hr, List.idxOf_append, if_neg (by simpa using h2)]
    simp
  unfold lastSlash
  rw [if_pos hm, hi, List.length_drop]
  congr 1; omega
theorem last_none {l : List UInt8} (h : (47 : UInt8) ∉ l) : lastSlash l = -1 := by unfold lastSlash; rw [if_neg h]
theorem last_le (l : List UInt8) : -1 ≤ lastSlash l ∧ lastSlash l ≤ l.length := by unfold lastSlash; split <;> omega
theorem drop_zero_no {l : List UInt8} (h : (47 : UInt8) ∉ l.drop 0) : (47 : UInt8) ∉ l := by simpa using h
theorem drop_more {s : ByteArray} {k : Nat} (hk : k < s.size) (h : (47 : UInt8) ∉ s.data.toList.drop (k + 1)) (hc : ¬ s[k] = 47) : (47 : UInt8) ∉ s.data.toList.drop k := by
  rw [drop_next s k hk]
  simp only [List.mem_cons, not_or]
  exact ⟨fun e => hc e.symm, h⟩

theorem cells_get (d : ByteArray) (k : Nat) (hk : k < d.size) : (Lib.strCells d)[k]? = some (.int .u8 (d[k].toNat : Int)) := by
  have h2 : k < d.data.toList.length := by rw [← Lib.size_eq]; exact hk
  unfold Lib.strCells
  rw [List.getElem?_map, List.getElem?_eq_getElem h2]
  rfl
theorem add_zero_at (g k : Nat) : (⟨g, 0, none⟩ : Addr).add k = ⟨g, k, none⟩ := by unfold Addr.add; split <;> simp_all
theorem last_bytes (g n cap base : Nat) (d : ByteArray) (hd : d.size = n) (hc : n ≤ cap) (hm : cap ≤ maxLen) (w : World) (hr : w.ownsRow base 5 1 (.slice (some ⟨g, 0, none⟩) n cap) n (Lib.strCells d)) :
    Calls Tryz.prog 134 #[.slice (some ⟨g, 0, none⟩) n cap, .int .u8 47] w fun e w' => e = .returned (.int .i64 (lastSlash d.data.toList)) ∧ ∃ m, w' = w.drewN m := by
  subst hd
  unfold maxLen at hm
  have HC : Hid (∀ k : Nat, (hk : k < d.size) → w.cell? ⟨g, k, none⟩ = some (.int .u8 (d[k].toNat : Int))) := by
    show ∀ k : Nat, (hk : k < d.size) → _
    intro k hk
    have := hr.cells (g := g) rfl k _ (cells_get d k hk)
    rw [add_zero_at] at this
    exact this
  clear hr
  have H : Hid (Calls Tryz.prog 142 #[.slice (some ⟨g, 0, none⟩) d.size cap, .int .u8 47] w fun e w' => e = .returned (.int .i64 (lastSlash d.data.toList)) ∧ ∃ m, w' = w.drewN m) := by
    show Calls _ _ _ _ _
    have HL : Hid (∀ k : Nat, (hk : k < d.size) → d[k] = 47 → (47 : UInt8) ∉ d.data.toList.drop (k + 1) → lastSlash d.data.toList = k) := by
      show ∀ k : Nat, (hk : k < d.size) → d[k] = 47 → (47 : UInt8) ∉ d.data.toList.drop (k + 1) → lastSlash d.data.toList = k
      intro k hk h1 h2
      exact last_at (by rw [← Lib.size_eq]; exact hk) (by rw [Kit.byte_get d k hk]; exact h1) h2
    have HN : Hid ((47 : UInt8) ∉ d.data.toList.drop 0 → lastSlash d.data.toList = -1) := fun h => last_none (drop_zero_no h)
    have HM := Lib.hid (fun (k : Nat) => @drop_more d k)
    have H0 : Hid ((47 : UInt8) ∉ d.data.toList.drop d.size) := by
      show (47 : UInt8) ∉ d.data.toList.drop d.size
      rw [drop_end d d.size (Nat.lt_irrefl _)]; simp
    generalize lastSlash d.data.toList = r at *
    go_enter Tryz.func142, Tryz.ntmps142
    go_wp2
    go_loopw [5] (fun i wr => ∃ k m : Nat, k ≤ d.size ∧ i = .int .i64 ((k : Int) - 1) ∧ wr = w.drewN m ∧ Hid ((47 : UInt8) ∉ d.data.toList.drop k)) (fun i _ => (intOf i + 1).toNat)
    case atStart => exact ⟨d.size, 0, Nat.le_refl _, rfl, rfl, H0⟩
    case round =>
      obtain ⟨k, m, hk, rfl, rfl, hd⟩ := hrel
      cases k with
      | zero =>
        have HX : Hid (r = -1) := HN.out hd.out
        clear HL HN HM H0 hd
        go_wp2
        go_ret
        exact ⟨ret_int HX.out.symm, m, rfl⟩
      | succ k =>
        have e1 : ((k + 1 : Nat) : Int) - 1 = k := by omega
        rw [e1]
        have hlt : k < d.size := hk
        have hcell := HC.out k hlt
        clear e1
        by_cases h47 : (d[k].toNat : Int) = 47
        · have HX : Hid (r = k) := HL.out k hlt (byte_eq (d := 47) h47) hd.out
          have t47 : ((d[k].toNat : Int) == 47) = true := by simp [h47]
          clear h47 HL HN HM H0 hd
          go_wp2
          go_ret
          exact ⟨ret_int HX.out.symm, _, rfl⟩
        · have HX : Hid ((47 : UInt8) ∉ d.data.toList.drop k) := HM.out k hlt hd.out (byte_ne (d := 47) h47)
          have t47 : ((d[k].toNat : Int) == 47) = false := by simp [h47]
          clear h47 HL HN HM H0 hd
          go_wp2
          go_roundw
          case rel => exact ⟨k, _, by omega, rfl, rfl, HX⟩
          case measure => simp [intOf]
  go_enter Tryz.func134, Tryz.ntmps134
  go_wp2_with fail
  refine (H.out).mono ?_
  rintro e w1 ⟨rfl, m, rfl⟩
  go_wp2_with fail
  go_ret
  exact ⟨rfl, m, rfl⟩
end Go.Proofs.YtmbpgjncioegdaaGreatDoor.W04
/-
  Layer 4 (path), plain mathematics: a text cut at each slash; its parts are those of the pieces that are neither empty nor one point. No condition but those that each theorem bears.
-/
namespace Go.Proofs.YtmbpgjncioegdaaGreatDoor.M04
open Go
open Go.Proofs.YtmbpgjncioegdaaGreatDoor.Kit (mk_bytes mk_of drop_bytes take_bytes ba_ext)

/-- what stands between the slashes -/
def pieces : Bytes → List Bytes
  | [] => [[]]
  | c :: r => if c = 47 then [] :: pieces r else (match pieces r with
    | [] => [[c]]
    | p :: q => (c :: p) :: q)
theorem pieces_ne (l : Bytes) : pieces l ≠ [] := by
  cases l with
  | nil => simp [pieces]
  | cons c r =>
    unfold pieces
    split
    · simp
    · split <;> simp
theorem pieces_slash (r : Bytes) : pieces (47 :: r) = [] :: pieces r := by rw [pieces, if_pos rfl]
theorem pieces_other {c : UInt8} (h : c ≠ 47) (r : Bytes) : ∃ p q, pieces r = p :: q ∧ pieces (c :: r) = (c :: p) :: q := by
  cases hp : pieces r with
  | nil => exact absurd hp (pieces_ne r)
  | cons p q => exact ⟨p, q, rfl, by rw [pieces, if_neg h, hp]⟩
theorem pieces_whole : ∀ (l : Bytes), (47 : UInt8) ∉ l → pieces l = [l]
  | [], _ => rfl
  | c :: r, h => by
    simp only [List.mem_cons, not_or] at h
    obtain ⟨p, q, e1, e2⟩ := pieces_other (c := c) (fun e => h.1 e.symm) r
    rw [pieces_whole r h.2] at e1
    injection e1 with e1 e3
    rw [e2, ← e1, ← e3]
theorem pieces_cut : ∀ (a r : Bytes), (47 : UInt8) ∉ a → pieces (a ++ 47 :: r) = a :: pieces r
  | [], r, _ => pieces_slash r
  | c :: a, r, h => by
    simp only [List.mem_cons, not_or] at h
    obtain ⟨p, q, e1, e2⟩ := pieces_other (c := c) (fun e => h.1 e.symm) (a ++ 47 :: r)
    rw [pieces_cut a r h.2] at e1
    injection e1 with e1 e3
    show pieces (c :: (a ++ 47 :: r)) = _
    rw [e2, ← e1, ← e3]
/-- whether a piece is a part -/
def keeps (p : Bytes) : Bool := p != [] && p != [46]
theorem flush_keeps (p : Bytes) : flush p = if keeps p = true then [p] else [] := by
  unfold flush keeps
  by_cases h1 : p = [] <;> by_cases h2 : p = [46] <;> simp [h1, h2]
theorem pgo_pieces : ∀ (l now : Bytes) (p : Bytes) (q : List Bytes), pieces l = p :: q → pgo l now = ((now ++ p) :: q).filter keeps
  | [], now, p, q, h => by
    injection h with h1 h2
    subst h1 h2
    rw [pgo, flush_keeps, List.append_nil, List.filter_cons, List.filter_nil]
  | c :: r, now, p, q, h => by
    unfold pgo
    split
    · rename_i hc
      subst hc
      rw [pieces_slash] at h
      injection h with h1 h2
      subst h1
      obtain ⟨p2, q2, e⟩ : ∃ p2 q2, pieces r = p2 :: q2 := by
        cases hp : pieces r with
        | nil => exact absurd hp (pieces_ne r)
        | cons p q => exact ⟨p, q, rfl⟩
      rw [pgo_pieces r [] p2 q2 e, List.nil_append, ← h2, e, List.append_nil, flush_keeps, List.filter_cons (x := now)]
      split <;> rfl
    · rename_i hc
      obtain ⟨p2, q2, e1, e2⟩ := pieces_other hc r
      rw [e2] at h
      injection h with h1 h2
      subst h1 h2
      rw [pgo_pieces r (now ++ [c]) p2 q2 e1]
      simp
theorem parts_pieces (l : Bytes) : parts l = (pieces l).filter keeps := by
  cases hp : pieces l with
  | nil => exact absurd hp (pieces_ne l)
  | cons p q => unfold parts; rw [pgo_pieces l [] p q hp, List.nil_append]

/-! texts of bytes -/
def mk (l : Bytes) : ByteArray := ⟨l.toArray⟩
def piecesOf (s : ByteArray) : List ByteArray := (pieces s.data.toList).map mk
def partsOf (s : ByteArray) : List ByteArray := (parts s.data.toList).map mk
theorem data_mk (s : ByteArray) : mk s.data.toList = s := mk_bytes s
theorem map_data (L : List Bytes) : (L.map mk).map (fun x => x.data.toList) = L := by rw [List.map_map]; exact List.map_id _
/-- whether a piece is a part -/
def keepsOf (x : ByteArray) : Bool := keeps x.data.toList
theorem partsOf_pieces (s : ByteArray) : partsOf s = (piecesOf s).filter keepsOf := by
  unfold partsOf piecesOf
  rw [parts_pieces, List.filter_map]
  rfl
theorem index_none : ∀ (l : Bytes) (c : UInt8), Lib.indexByte l c < 0 → c ∉ l
  | [], _, _ => by simp
  | d :: r, c, h => by
    rw [Lib.indexByte] at h
    split at h
    · omega
    · rename_i hd
      have h1 := Lib.indexByte_ge r c
      simp only [List.mem_cons, not_or]
      refine ⟨fun e => hd (by simp [e]), index_none r c ?_⟩
      split at h
      · rename_i h2
        simp at h2; omega
      · omega
theorem index_some : ∀ (l : Bytes) (c : UInt8), 0 ≤ Lib.indexByte l c → ∃ k : Nat, Lib.indexByte l c = k ∧ k < l.length ∧ l = l.take k ++ c :: l.drop (k + 1) ∧ c ∉ l.take k
  | [], c, h => by simp [Lib.indexByte] at h
  | d :: r, c, h => by
    rw [Lib.indexByte] at h ⊢
    split at h
    · rename_i hd
      rw [if_pos hd]
      have : d = c := by simpa using hd
      subst this
      exact ⟨0, rfl, by simp, by simp, by simp⟩
    · rename_i hd
      rw [if_neg hd]
      split at h
      · omega
      · rename_i h2
        rw [if_neg h2]
        have h1 := Lib.indexByte_ge r c
        simp at h2
        obtain ⟨k, e1, e2, e3, e4⟩ := index_some r c (by omega)
        refine ⟨k + 1, by rw [e1]; rfl, by simp; omega, ?_, ?_⟩
        · show d :: r = d :: (r.take k ++ c :: r.drop (k + 1))
          rw [← e3]
        · rw [List.take_succ_cons]
          simp only [List.mem_cons, not_or]
          exact ⟨fun e => hd (by simp [e]), e4⟩
/-- the first slash of a text: none, or at k -/
theorem first_slash (r : ByteArray) : (Lib.indexByte r.data.toList 47 = -1 ∧ piecesOf r = [r]) ∨
    (∃ k : Nat, Lib.indexByte r.data.toList 47 = k ∧ k < r.size ∧ piecesOf r = r.extract 0 k :: piecesOf (r.extract (k + 1) r.size)) := by
  rcases Int.lt_or_le (Lib.indexByte r.data.toList 47) 0 with h | h
  · left
    have h1 := Lib.indexByte_ge r.data.toList 47
    refine ⟨by omega, ?_⟩
    unfold piecesOf
    rw [pieces_whole _ (index_none _ _ h), List.map_singleton, data_mk]
  · right
    obtain ⟨k, e1, e2, e3, e4⟩ := index_some _ _ h
    refine ⟨k, e1, by rw [Lib.size_eq]; exact e2, ?_⟩
    unfold piecesOf
    rw [drop_bytes]
    conv => lhs; rw [e3, pieces_cut _ _ e4]
    rw [List.map_cons]
    congr 1
    apply ba_ext
    rw [take_bytes]; rfl
end Go.Proofs.YtmbpgjncioegdaaGreatDoor.M04
/-
  The library's contracts that this seat's proofs use, laid at the seat's translation by the kit's own commands (lay-shelf, lay-plain): each says what one function of Go's library returns, under the conditions that stand in its statement.
-/
namespace Go.Proofs
open Go.Shelf
def Tryz.lays106_ren : Go.Shelf.Ren := ⟨fun | 106 => 104 | 213 => 121 | 265 => 133 | n => n, fun | 9 => 9 | 3 => 3 | n => n, fun | n => n⟩
theorem Tryz.lays106 : Go.Proofs.Lays.n106 Tryz.prog Tryz.lays106_ren := {
  mixed := by kernel_rfl
  f106 := Tryz.func104.trans (congrArg some (by kernel_rfl))
  f213 := Tryz.func121.trans (congrArg some (by kernel_rfl))
  f265 := Tryz.func133.trans (congrArg some (by kernel_rfl))
  t3 := Tryz.underlying3
  a3 := Tryz.isAgg3
  z3 := Tryz.sizeOf3
  v3 := Tryz.zeroValue3
  t9 := Tryz.underlying9
  a9 := Tryz.isAgg9
  z9 := Tryz.sizeOf9
  v9 := Tryz.zeroValue9 }
open Go.RowKit in
theorem Tryz.strings_Compare (a b : ByteArray) (w : World) :
    Calls Tryz.prog 104 #[.string a, .string b] w fun e w' => e = .returned (.int .i64 (Lib.compareBytes a.data.toList b.data.toList)) ∧ w' = w := Any.strings_Compare Tryz.lays106 a b w
def Tryz.lays137_ren : Go.Shelf.Ren := ⟨fun | 137 => 144 | 217 => 150 | 266 => 153 | n => n, fun | 9 => 9 | 5 => 5 | 3 => 3 | n => n, fun | n => n⟩
theorem Tryz.lays137 : Go.Proofs.Lays.n137 Tryz.prog Tryz.lays137_ren := {
  mixed := by kernel_rfl
  f137 := Tryz.func144.trans (congrArg some (by kernel_rfl))
  f217 := Tryz.func150.trans (congrArg some (by kernel_rfl))
  f266 := Tryz.func153.trans (congrArg some (by kernel_rfl))
  t3 := Tryz.underlying3
  a3 := Tryz.isAgg3
  z3 := Tryz.sizeOf3
  v3 := Tryz.zeroValue3
  t5 := Tryz.underlying5
  a5 := Tryz.isAgg5
  z5 := Tryz.sizeOf5
  v5 := Tryz.zeroValue5
  t9 := Tryz.underlying9
  a9 := Tryz.isAgg9
  z9 := Tryz.sizeOf9
  v9 := Tryz.zeroValue9 }
open Go.RowKit in
theorem Tryz.strings_IndexByte (s : ByteArray) (c : Int) (w : World) :
    Calls Tryz.prog 144 #[.string s, .int .u8 c] w fun e w' => e = .returned (.int .i64 (Lib.indexByte s.data.toList c.toNat.toUInt8)) ∧ w' = w := Any.strings_IndexByte Tryz.lays137 s c w
def Tryz.lays217_ren : Go.Shelf.Ren := ⟨fun | 217 => 150 | 266 => 153 | n => n, fun | 9 => 9 | 5 => 5 | 3 => 3 | n => n, fun | n => n⟩
theorem Tryz.lays217 : Go.Proofs.Lays.n217 Tryz.prog Tryz.lays217_ren := {
  mixed := by kernel_rfl
  f217 := Tryz.func150.trans (congrArg some (by kernel_rfl))
  f266 := Tryz.func153.trans (congrArg some (by kernel_rfl))
  t3 := Tryz.underlying3
  a3 := Tryz.isAgg3
  z3 := Tryz.sizeOf3
  v3 := Tryz.zeroValue3
  t5 := Tryz.underlying5
  a5 := Tryz.isAgg5
  z5 := Tryz.sizeOf5
  v5 := Tryz.zeroValue5
  t9 := Tryz.underlying9
  a9 := Tryz.isAgg9
  z9 := Tryz.sizeOf9
  v9 := Tryz.zeroValue9 }
open Go.RowKit Go.Lib in
theorem Tryz.stringslite_IndexByte (s : ByteArray) (c : Int) (w : World) :
    Calls Tryz.prog 150 #[.string s, .int .u8 c] w fun e w' => e = .returned (.int .i64 (Lib.indexByte s.data.toList c.toNat.toUInt8)) ∧ w' = w := Any.stringslite_IndexByte Tryz.lays217 s c w
def Tryz.lays99_ren : Go.Shelf.Ren := ⟨fun | 99 => 138 | 206 => 145 | n => n, fun | 9 => 9 | 4 => 4 | 3 => 3 | n => n, fun | n => n⟩
theorem Tryz.lays99 : Go.Proofs.Lays.n99 Tryz.prog Tryz.lays99_ren := {
  mixed := by kernel_rfl
  f99 := Tryz.func138.trans (congrArg some (by kernel_rfl))
  f206 := Tryz.func145.trans (congrArg some (by kernel_rfl))
  t3 := Tryz.underlying3
  a3 := Tryz.isAgg3
  z3 := Tryz.sizeOf3
  v3 := Tryz.zeroValue3
  t4 := Tryz.underlying4
  a4 := Tryz.isAgg4
  z4 := Tryz.sizeOf4
  v4 := Tryz.zeroValue4
  t9 := Tryz.underlying9
  a9 := Tryz.isAgg9
  z9 := Tryz.sizeOf9
  v9 := Tryz.zeroValue9 }
open Go.RowKit Go.Lib in
theorem Tryz.strings_HasPrefix (s p : ByteArray) (w : World) :
    Calls Tryz.prog 138 #[.string s, .string p] w fun e w' => e = .returned (.bool (Lib.hasPrefix s.data.toList p.data.toList)) ∧ w' = w := Any.strings_HasPrefix Tryz.lays99 s p w
end Go.Proofs
/-
  Layer 4 (path), walks: what Go's strings.SplitSeq at one slash hands out, and what the program's own iterator of a path's parts hands out, as contracts of iterators; at every text of at most 2^40 bytes.
-/
namespace Go.Proofs.YtmbpgjncioegdaaGreatDoor.W04
set_option maxRecDepth 100000
open Go Go.RowKit Go.Shelf Go.Proofs.YtmbpgjncioegdaaGreatDoor.Range Go.Proofs.YtmbpgjncioegdaaGreatDoor.M04
open Go.Proofs.YtmbpgjncioegdaaGreatDoor.Kit (ret_str ret_bool ret_int mk_of mk_bytes below_draws on)
attribute [local go_sem] Oper.semAt_some

theorem index_slash (s : ByteArray) (w : World) : Calls Tryz.prog 149 #[.string s, .string ⟨#[47]⟩] w fun e w' => e = .returned (.int .i64 (Lib.indexByte s.data.toList 47)) ∧ ∃ n, w' = w.drewN n := by
  have H : Hid (∀ w : World, Calls Tryz.prog 150 #[.string s, .int .u8 47] w fun e w' => e = .returned (.int .i64 (Lib.indexByte s.data.toList 47)) ∧ w' = w) := fun w => Tryz.stringslite_IndexByte s 47 w
  have H2 : Hid (∀ w : World, Calls Tryz.prog 152 #[.string s, .string ⟨#[47]⟩] w fun e w' => e = .returned (.int .i64 (Lib.indexByte s.data.toList 47)) ∧ ∃ n, w' = w.drewN n) := by
    show ∀ w : World, _
    intro w
    cases ht : ([47] == s.toList) with
    | true =>
      have e : s.data.toList = [47] := by rw [← Lib.toList_data]; exact (beq_iff_eq.1 ht).symm
      have e2 : Lib.indexByte s.data.toList 47 = 0 := by rw [e]; rfl
      rw [e2]
      clear e e2 H
      go_enter Tryz.func152, Tryz.ntmps152
      go_wp2_with fail
      go_ret
      exact ⟨rfl, 0, rfl⟩
    | false =>
      generalize Lib.indexByte s.data.toList 47 = r at *
      go_enter Tryz.func152, Tryz.ntmps152
      go_wp2_with fail
      refine Calls.mono (H.out _) ?_
      rintro e w1 ⟨rfl, rfl⟩
      go_wp2_with fail
      go_ret
      exact ⟨rfl, 0, rfl⟩
  generalize Lib.indexByte s.data.toList 47 = r at *
  go_enter Tryz.func149, Tryz.ntmps149
  go_wp2_with fail
  refine (H2.out _).mono ?_
  rintro e w1 ⟨rfl, n, rfl⟩
  go_wp2_with fail
  go_ret
  exact ⟨rfl, n, rfl⟩
/-- the three variables that strings.SplitSeq's iterator has caught: the separator, what is left of the text, and how much of the separator is kept -/
def caught (b : Nat) : Array Value := #[.pointer (some ⟨b + 1, 0, none⟩), .pointer (some ⟨b, 0, none⟩), .pointer (some ⟨b + 2, 0, none⟩)]
def three (w : World) (s : ByteArray) : World := ((w.alloc (.cells #[.string s] 9)).alloc (.cells #[.string ⟨#[47]⟩] 9)).alloc (.cells #[.int .i64 0] 3)
theorem splitSeq_at (s : ByteArray) (w : World) : Calls Tryz.prog 136 #[.string s, .string ⟨#[47]⟩] w fun e w' => e = .returned (.func (.func 147) #[] (caught w.heap.size)) ∧ w' = three w s := by
  have H : Hid (∀ w : World, Calls Tryz.prog 143 #[.string s, .string ⟨#[47]⟩, .int .i64 0] w fun e w' => e = .returned (.func (.func 147) #[] (caught w.heap.size)) ∧ w' = three w s) := by
    show ∀ w : World, _
    intro w
    go_enter Tryz.func143, Tryz.ntmps143
    go_wp2_with fail
    go_ret
    exact ⟨rfl, rfl⟩
  go_enter Tryz.func136, Tryz.ntmps136
  go_wp2_with fail
  refine (H.out _).mono ?_
  rintro e w1 ⟨rfl, rfl⟩
  go_wp2_with fail
  go_ret
  exact ⟨rfl, rfl⟩

def restOf (b : Nat) (W : World) : Nat := match W.cell? ⟨b, 0, none⟩ with
  | some (.string r) => r.size
  | _ => 0
theorem restOf_eq {b : Nat} {W : World} {r : ByteArray} (h : W.cell? ⟨b, 0, none⟩ = some (.string r)) : restOf b W = r.size := by unfold restOf; rw [h]
/-- the blocks of the three variables -/
def Three (b k : Nat) : Prop := b ≤ k ∧ k < b + 3
set_option maxRecDepth 100000 in
set_option maxHeartbeats 2000000 in
theorem split_seq (b : Nat) (s : ByteArray) (hs : s.size ≤ 281474976710656) (w0 : World) (c0 : w0.cell? ⟨b, 0, none⟩ = some (.string s)) (f0 : w0.frozen? ⟨b, 0, none⟩ = false)
    (c1 : w0.cell? ⟨b + 1, 0, none⟩ = some (.string ⟨#[47]⟩)) (c2 : w0.cell? ⟨b + 2, 0, none⟩ = some (.int .i64 0)) (hb : b + 2 < w0.heap.size) :
    Seq Tryz.prog 147 (caught b) (fun x : ByteArray => .string x) (Three b) 0 (piecesOf s) w0 := by
  intro l J Jx W hW hJ hJx hY h0
  replace c0 : W.cell? ⟨b, 0, none⟩ = some (.string s) := (hW.cell (p := ⟨b, 0, none⟩) (by simp; omega)).trans c0
  replace f0 : W.frozen? ⟨b, 0, none⟩ = false := (World.frozen?_of_block (hW.block _ (by simp; omega))).trans f0
  replace c1 : W.cell? ⟨b + 1, 0, none⟩ = some (.string ⟨#[47]⟩) := (hW.cell (p := ⟨b + 1, 0, none⟩) (by simp; omega)).trans c1
  replace c2 : W.cell? ⟨b + 2, 0, none⟩ = some (.int .i64 0) := (hW.cell (p := ⟨b + 2, 0, none⟩) (by simp; omega)).trans c2
  have HI := Lib.hid index_slash
  refine (callsIn_wide (n := 9)).1 ?_
  refine callsIn_of_wp Tryz.func147 rfl trivial ?_ rfl
  simp only [Tryz.ntmps147, caught, List.size_toArray, List.length_cons, List.length_nil, Nat.reduceAdd, Nat.reduceSub, Array.replicate_succ, Array.replicate_zero, List.push_toArray, List.append_toArray, List.nil_append, List.cons_append]
  gi_wp2
  gi_loopw [7, 8] (fun i f wr => ∃ (pre : List ByteArray) (r : ByteArray), Hid (pre ++ piecesOf r = piecesOf s) ∧ Hid (J pre wr) ∧ r.size ≤ s.size ∧ W.heap.size ≤ wr.heap.size ∧
      wr.cell? ⟨b, 0, none⟩ = some (.string r) ∧ wr.frozen? ⟨b, 0, none⟩ = false ∧ wr.cell? ⟨b + 1, 0, none⟩ = some (.string ⟨#[47]⟩) ∧ wr.cell? ⟨b + 2, 0, none⟩ = some (.int .i64 0)) (fun _ _ wr => restOf b wr)
  case atStart => exact ⟨[], s, rfl, h0, Nat.le_refl _, Nat.le_refl _, c0, f0, c1, c2⟩
  case round =>
    obtain ⟨pre, r, hp, hj, hr, hsz, d0, g0, d1, d2⟩ := hrel
    clear c0 f0 c1 c2 h0
    rcases first_slash r with ⟨hi, hq⟩ | ⟨k, hi, hk, hq⟩
    · have HI2 := Lib.hid (HI.out r)
      rw [hi] at HI2
      gi_wp2
      refine ⟨trivial, ?_⟩
      gi_at_call 149
      refine (callsIn_wide.2 (HI2.out _)).mono ?_
      rintro e w' ⟨rfl, m, rfl⟩
      have hpre : pre ++ [r] = piecesOf s := by rw [← hp.out, hq]
      obtain ⟨fn, tmps, assign, body, hy, hR⟩ := hY pre r (wr.drewN m) (hJ _ _ _ hj.out (Turns.draw _ _ _)) hsz (by rw [hpre]; exact List.prefix_refl _)
      clear hY
      gi_wp2
      refine (round_wide _ hR).mono ?_
      rintro e W3 (⟨rfl, hJ3, -⟩ | ⟨rfl, hJx3, -⟩)
      · gi_wp2
        go_end0
        exact ⟨⟨_, rfl⟩, .inl (by rw [← hpre]; exact hJ3)⟩
      · gi_wp2
        go_end0
        exact ⟨⟨_, rfl⟩, .inr ⟨_, by rw [hpre]; exact List.prefix_refl _, hJx3⟩⟩
    · have HI2 := Lib.hid (HI.out r)
      rw [hi] at HI2
      gi_wp2
      refine ⟨trivial, ?_⟩
      gi_at_call 149
      refine (callsIn_wide.2 (HI2.out _)).mono ?_
      rintro e w' ⟨rfl, m, rfl⟩
      have hpre : (pre ++ [r.extract 0 k]) ++ piecesOf (r.extract (k + 1) r.size) = piecesOf s := by rw [List.append_assoc, List.singleton_append, ← hq]; exact hp.out
      obtain ⟨fn, tmps, assign, body, hy, hR⟩ := hY pre (r.extract 0 k) (wr.drewN m) (hJ _ _ _ hj.out (Turns.draw _ _ _)) hsz ⟨_, hpre⟩
      gi_wp2
      refine (round_wide _ hR).mono ?_
      rintro e W3 (⟨rfl, hJ3, hk3⟩ | ⟨rfl, hJx3, -⟩)
      · have e0 := restOf_eq d0
        have own : ∀ i, b ≤ i → i < b + 3 → ¬ ¬ Its (Three b) W.heap.size 0 i := fun i h1 h2 h => h (Or.inl ⟨h1, h2⟩)
        have f3 : W3.frozen? ⟨b, 0, none⟩ = false := (hk3.frozen (a := ⟨b, 0, none⟩) d0 (own b (Nat.le_refl _) (by omega))).trans g0
        replace d0 : W3.cell? ⟨b, 0, none⟩ = some (.string r) := hk3.cell (a := ⟨b, 0, none⟩) d0 (own b (Nat.le_refl _) (by omega))
        replace d1 : W3.cell? ⟨b + 1, 0, none⟩ = some (.string ⟨#[47]⟩) := hk3.cell (a := ⟨b + 1, 0, none⟩) d1 (own (b + 1) (by omega) (by omega))
        replace d2 : W3.cell? ⟨b + 2, 0, none⟩ = some (.int .i64 0) := hk3.cell (a := ⟨b + 2, 0, none⟩) d2 (own (b + 2) (by omega) (by omega))
        have hs3 : W.heap.size ≤ W3.heap.size := Nat.le_trans hsz hk3.size
        clear hY hR hy own
        gi_wp2
        go_roundw
        case rel =>
          refine ⟨pre ++ [r.extract 0 k], r.extract (k + 1) r.size, hpre, ?_, ?_, ?_, ?_, ?_, ?_, ?_⟩
          · exact hJ _ _ _ hJ3 (Turns.setCell _ (Or.inl ⟨Nat.le_refl _, by simp⟩))
          · rw [ByteArray.size_extract]; omega
          · simpa using hs3
          · exact World.cell?_setCell_same' _ _ _ (by rw [d0]; rfl)
          · rw [World.frozen?_setCell]; exact f3
          · exact (grown_set W3 ⟨b, 0, none⟩ _).cell d1 (by simp)
          · exact (grown_set W3 ⟨b, 0, none⟩ _).cell d2 (by simp)
        case measure =>
          rw [e0, restOf_eq (World.cell?_setCell_same' _ _ _ (by rw [d0]; rfl)), ByteArray.size_extract]
          omega
      · gi_wp2
        refine bodyPost_ret (results_none rfl _ _ _) rfl ?_
        exact ⟨⟨_, rfl⟩, .inr ⟨_, ⟨_, hpre⟩, hJx3⟩⟩

end Go.Proofs.YtmbpgjncioegdaaGreatDoor.W04
