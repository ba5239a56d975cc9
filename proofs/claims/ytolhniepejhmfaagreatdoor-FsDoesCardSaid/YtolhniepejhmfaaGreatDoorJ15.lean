/-
  Texts joined, in build order, each with its own comment and its own conditions: W08Lives, W02Same, W09Asks, W09Task, OpenTasks, W10Math.
-/
import Derived.Test.YtolhniepejhmfaaGreatDoorJ14
import Derived.Test.YtolhniepejhmfaaGreatDoorJ01
import Derived.Test.YtolhniepejhmfaaGreatDoorChecked
import Derived.WalkSpells
import Derived.WalkLawsBesides
import Derived.Deep.QuietTactic
import Derived.BigQuiet
import Derived.Test.YtolhniepejhmfaaGreatDoorJ13
import Derived.Deep.RegionHeld3
/-
  Layer 8 (seek), a walk of the law's lives over the contracts: it returns true; nothing that was there is changed.
-/
namespace Go.Proofs.YtolhniepejhmfaaGreatDoor.W08
open Go Go.RowKit Go.Proofs.YtolhniepejhmfaaGreatDoor.Strs Go.Proofs.YtolhniepejhmfaaGreatDoor.Recs Go.Proofs.YtolhniepejhmfaaGreatDoor.Range
open Go.Proofs.YtolhniepejhmfaaGreatDoor.M07 (Tr Nd nodeAt inDir Right put put_right)
open Go.Proofs.YtolhniepejhmfaaGreatDoor.M08
open Go.Proofs.YtolhniepejhmfaaGreatDoor.M03 (check)
open Go.Proofs.YtolhniepejhmfaaGreatDoor.W07 (Small Trees Nodes)
open Go.Proofs.YtolhniepejhmfaaGreatDoor.Kit (ret_str ret_bool ret_int mk_of mk_bytes ba_ext below_draws on)

def fourN : List Sn := [⟨-1, [97], 1, []⟩, ⟨0, [98], 1, []⟩, ⟨1, [99], 2, [120]⟩, ⟨-1, [108], 3, [97, 47, 98]⟩]
def fourT : Tr := ⟨[⟨1, 1, [], 1, []⟩, ⟨2, 1, [97], 1, []⟩, ⟨3, 2, [98], 1, []⟩, ⟨4, 3, [99], 2, [120]⟩, ⟨5, 1, [108], 3, [97, 47, 98]⟩], 5⟩
theorem four_made : (made fourN).1 = fourT := by rfl
theorem four_good : Good fourT ∧ Right fourT := by rw [← four_made]; exact made_good (by decide)
theorem four_find : M08.find fourT [108, 47, 99] false = (4, 0) := by
  have e : goTo fourT 1 [[108], [99]] false 0 = (4, 1, 0) := by
    rw [go_link (by rfl) (by decide) (by rfl) (by decide) (by decide) (by decide)]
    show goTo fourT 1 [[97], [98], [99]] false 1 = _
    rw [go_on (by rfl) (by decide) (by rfl) (by decide) (Or.inl (by decide))]
    show goTo fourT 2 [[98], [99]] false 1 = _
    rw [go_on (by rfl) (by decide) (by rfl) (by decide) (Or.inl (by decide))]
    show goTo fourT 3 [[99]] false 1 = _
    rw [go_on (by rfl) (by decide) (by rfl) (by decide) (Or.inl (by decide))]
    show goTo fourT 4 [] false 1 = _
    rw [go_nil]
  unfold M08.find
  rw [if_neg (by decide), if_neg (by decide)]
  show ((goTo fourT 1 [[108], [99]] false 0).1, _) = _
  rw [show M04.parts [108, 47, 99] = [[108], [99]] from rfl, e]
theorem four_real : real fourT 4 = ([47, 97, 47, 98, 47, 99], true) := by
  have hR := four_good.2
  have n2 : names fourT 2 = [[97]] := by rw [names_next hR (by decide) (by decide)]; show names fourT 1 ++ _ = _; rw [names_root]; rfl
  have n3 : names fourT 3 = [[97], [98]] := by rw [names_next hR (by decide) (by decide)]; show names fourT 2 ++ _ = _; rw [n2]; rfl
  have n4 : names fourT 4 = [[97], [98], [99]] := by rw [names_next hR (by decide) (by decide)]; show names fourT 3 ++ _ = _; rw [n3]; rfl
  unfold real
  rw [if_neg (by decide), n4]; rfl
theorem four_nodes (w : World) (t : TypeId) : Snodes (w.heap.size + 1) (w.alloc (.cells #[.int .i64 (-1), .string ⟨#[97]⟩, .int .i64 1, .string ⟨#[]⟩, .int .i64 0, .string ⟨#[98]⟩, .int .i64 1, .string ⟨#[]⟩, .int .i64 1, .string ⟨#[99]⟩, .int .i64 2, .string ⟨#[120]⟩, .int .i64 (-1), .string ⟨#[108]⟩, .int .i64 3, .string ⟨#[97, 47, 98]⟩] t)) (.slice (some ⟨w.heap.size, 0, none⟩) 4 4) fourN := by
  refine ⟨_, 4, rfl, Nat.le_refl _, by decide, fun _ => ⟨_, rfl, Nat.lt_succ_self _, fun k hk j hj => ?_⟩⟩
  have hf := flat_at snC_len fourN k hk j hj
  have hlt : j < (snC fourN[k]).length := by rw [snC_len]; exact hj
  rw [List.getElem?_eq_getElem hlt] at hf ⊢
  exact cells_new w (fourN.flatMap snC) t (k * 4 + j) _ hf
end Go.Proofs.YtolhniepejhmfaaGreatDoor.W08
/-
  Layer 2 (words), a walk: the plain answer's Same: whether two slices of texts read alike; the world as it was, but for draws.
-/
namespace Go.Proofs.YtolhniepejhmfaaGreatDoor.W02
open Go Go.RowKit Go.Proofs.YtolhniepejhmfaaGreatDoor.Strs

theorem ret_bool {a b : Bool} (h : a = b) : Ending.returned (.bool a) = .returned (.bool b) := by rw [h]
theorem same_upto {La Lb : List (List UInt8)} {k : Nat} (hl : La.length = Lb.length) (hk : ¬ k < La.length) (h : ∀ j, j < k → La.getD j [] = Lb.getD j []) : La = Lb := by
  apply List.ext_getElem hl
  intro i h1 h2
  have := h i (by omega)
  simpa [List.getD_eq_getElem?_getD, h1, h2] using this
theorem differ_at {La Lb : List (List UInt8)} {k : Nat} (h : ¬ La.getD k [] = Lb.getD k []) : ¬ La = Lb := fun e => h (by rw [e])

end Go.Proofs.YtolhniepejhmfaaGreatDoor.W02
/-
  Layer 9 (posix), walks over the contracts: the law's lives, and PosixAsks: each returns true; nothing that was there is changed. The conditions stand in the statements.
-/
namespace Go.Proofs.YtolhniepejhmfaaGreatDoor.W09
open Go Go.RowKit Go.Proofs.YtolhniepejhmfaaGreatDoor.Strs Go.Proofs.YtolhniepejhmfaaGreatDoor.Recs Go.Proofs.YtolhniepejhmfaaGreatDoor.Range
open Go.Proofs.YtolhniepejhmfaaGreatDoor.M07 (Tr Nd nodeAt inDir Right listDir)
open Go.Proofs.YtolhniepejhmfaaGreatDoor.M08 Go.Proofs.YtolhniepejhmfaaGreatDoor.M09
open Go.Proofs.YtolhniepejhmfaaGreatDoor.W07 (Small Trees Wrote Nodes nodeV TreeBox heap_top)
open Go.Proofs.YtolhniepejhmfaaGreatDoor.W08 (Sn Snodes snC snC_len isFew few_is made)
open Go.Proofs.YtolhniepejhmfaaGreatDoor.Kit (ret_str ret_bool ret_int mk_of mk_bytes ba_ext below_draws on)

/-- behind a call that may write the tree: it reads as t' all the same, in blocks of the law's own -/
theorem wrote_on {Rep : (Nat → Prop) → World → Value → Tr → Prop} {F : Nat → Prop} {w0 w w' : World} {v : Value} {t' : Tr} (hF : ∀ k, F k → w0.heap.size ≤ k) (hB : Below w0.heap.size w0 w) (h : Wrote Rep F v t' w w') : ∃ F', Rep F' w' v t' ∧ (∀ k, F' k → w0.heap.size ≤ k) ∧ Below w0.heap.size w0 w' := by
  obtain ⟨F', h1, h2, h3⟩ := h
  exact ⟨F', h1, fun k hk => (h3 k hk).elim (hF k) (fun h => Nat.le_trans hB.size h), hB.trans (h2.below hF hB.size)⟩
def twoN : List Sn := [⟨-1, [97], 1, []⟩, ⟨-1, [108], 3, [97]⟩]
def twoT : Tr := ⟨[⟨1, 1, [], 1, []⟩, ⟨2, 1, [97], 1, []⟩, ⟨3, 1, [108], 3, [97]⟩], 3⟩
def threeT : Tr := ⟨[⟨1, 1, [], 1, []⟩, ⟨2, 1, [97], 1, []⟩, ⟨3, 1, [108], 3, [97]⟩, ⟨4, 2, [102], 2, [120]⟩], 4⟩
theorem two_made : (made twoN).1 = twoT := by rfl
theorem two_within : Within twoT 61 := by rw [← two_made]; exact made_within (by decide)
theorem two_find : M08.find twoT [108, 47, 102] true = (0, 5) := by
  have e : goTo twoT 1 [[108], [102]] true 0 = (0, 1, 5) := by
    rw [go_link (by rfl) (by decide) (by rfl) (by decide) (by decide) (by decide)]
    show goTo twoT 1 [[97], [102]] true 1 = _
    rw [go_on (by rfl) (by decide) (by rfl) (by decide) (Or.inl (by decide))]
    show goTo twoT 2 [[102]] true 1 = _
    rw [go_none (by rfl) (by decide) (by rfl) (by decide)]
  unfold M08.find
  rw [if_neg (by decide), if_neg (by decide)]
  show ((goTo twoT 1 [[108], [102]] true 0).1, _) = _
  rw [show M04.parts [108, 47, 102] = [[108], [102]] from rfl, e]
theorem two_spot : spot twoT [108, 47, 102] = (2, [102], 0) := by
  have e : goTo twoT 1 [[108]] true 0 = (2, 1, 0) := by
    rw [go_link (by rfl) (by decide) (by rfl) (by decide) (by decide) (by decide)]
    show goTo twoT 1 [[97]] true 1 = _
    rw [go_on (by rfl) (by decide) (by rfl) (by decide) (Or.inl (by decide))]
    show goTo twoT 2 [] true 1 = _
    rw [go_nil]
  unfold spot
  rw [if_neg (by decide), if_neg (by decide), if_neg (by decide)]
  have hp : M04.parts [108, 47, 102] = [[108], [102]] := rfl
  simp only [hp, show ([[108], [102]] : List (List UInt8)).dropLast = [[108]] from rfl, e]
  rfl
theorem two_write : write twoT [108, 47, 102] [120] = (threeT, 0) := by
  unfold write
  rw [two_find, if_neg (by decide), if_neg (by decide), two_spot, if_neg (by decide), if_neg (by decide)]
  unfold putAt
  rw [two_spot, if_neg (by decide)]
  rfl
theorem three_within : Within threeT 62 := by have := two_within.next (kept_write twoT [108, 47, 102] [120]); rw [two_write] at this; exact this
theorem three_data : M09.data threeT [47, 97, 47, 102] true 2 8 = ([120], 0) := by
  have e : M08.find threeT [47, 97, 47, 102] true = (4, 0) := by
    have e : goTo threeT 1 [[97], [102]] true 0 = (4, 0, 0) := by
      rw [go_on (by rfl) (by decide) (by rfl) (by decide) (Or.inl (by decide))]
      show goTo threeT 2 [[102]] true 0 = _
      rw [go_on (by rfl) (by decide) (by rfl) (by decide) (Or.inl (by decide))]
      show goTo threeT 4 [] true 0 = _
      rw [go_nil]
    unfold M08.find
    rw [if_neg (by decide), if_neg (by decide)]
    show ((goTo threeT 1 [[97], [102]] true 0).1, _) = _
    rw [show M04.parts [47, 97, 47, 102] = [[97], [102]] from rfl, e]
  unfold M09.data
  rw [e]; rfl
theorem two_nodes (w : World) (t : TypeId) : Snodes (w.heap.size + 1) (w.alloc (.cells #[.int .i64 (-1), .string ⟨#[97]⟩, .int .i64 1, .string ⟨#[]⟩, .int .i64 (-1), .string ⟨#[108]⟩, .int .i64 3, .string ⟨#[97]⟩] t)) (.slice (some ⟨w.heap.size, 0, none⟩) 2 2) twoN := by
  refine ⟨_, 2, rfl, Nat.le_refl _, by decide, fun _ => ⟨_, rfl, Nat.lt_succ_self _, fun k hk j hj => ?_⟩⟩
  have hf := flat_at snC_len twoN k hk j hj
  have hlt : j < (snC twoN[k]).length := by rw [snC_len]; exact hj
  rw [List.getElem?_eq_getElem hlt] at hf ⊢
  exact cells_new w (twoN.flatMap snC) t (k * 4 + j) _ hf
theorem same_hold {w1 w' w'' : World} {p q : Nat} {y0 y1 : Value} (hp : p < w1.heap.size) (hq : q < w1.heap.size) (hS : w'.cell? ⟨p, 0, none⟩ = some y0 ∧ w'.cell? ⟨q, 0, none⟩ = some y1 ∧ Below w1.heap.size w1 w') (hb : Below w'.heap.size w' w'') : w''.cell? ⟨p, 0, none⟩ = some y0 ∧ w''.cell? ⟨q, 0, none⟩ = some y1 ∧ Below w1.heap.size w1 w'' := by
  have hs := hS.2.2.size
  exact ⟨(hb.cell (by show p < _; omega)).trans hS.1, (hb.cell (by show q < _; omega)).trans hS.2.1, on hS.2.2 hb⟩
end Go.Proofs.YtolhniepejhmfaaGreatDoor.W09
/-
  Layer 9 (posix): tasks as records; the law's Short and do: what each returns. The conditions stand in the statements.
-/
namespace Go.Proofs.YtolhniepejhmfaaGreatDoor.W09
set_option maxRecDepth 100000
open Go Go.RowKit Go.Proofs.YtolhniepejhmfaaGreatDoor.Strs Go.Proofs.YtolhniepejhmfaaGreatDoor.Recs Go.Proofs.YtolhniepejhmfaaGreatDoor.Range
open Go.Proofs.YtolhniepejhmfaaGreatDoor.M07 (Tr Nd nodeAt inDir Right listDir)
open Go.Proofs.YtolhniepejhmfaaGreatDoor.M08 Go.Proofs.YtolhniepejhmfaaGreatDoor.M09
open Go.Proofs.YtolhniepejhmfaaGreatDoor.W07 (Small Trees Wrote Nodes nodeV TreeBox heap_top)
open Go.Proofs.YtolhniepejhmfaaGreatDoor.Kit (ret_str ret_bool ret_int mk_of mk_bytes ba_ext below_draws on)

structure Tk where
  kind : Int
  path : Bytes
  text : Bytes
def tkC (x : Tk) : List Value := [.int .i64 x.kind, strV x.path, strV x.text]
theorem tkC_len (x : Tk) : (tkC x).length = 3 := rfl
abbrev Tasks (B : Nat) (w : World) (v : Value) (L : List Tk) : Prop := Recs tkC 3 B w v L
theorem Tasks.at_ {B : Nat} {w : World} {L : List Tk} {A : Option Addr} {n c : Nat} (h : Tasks B w (.slice A n c) L) {k : Nat} (hk : k < n) : ∃ (b o : Nat) (hl : k < L.length), A = some ⟨b, o, none⟩ ∧ b < B ∧ w.cell? ⟨b, o + k * 3, none⟩ = some (.int .i64 (L[k]).kind) ∧ w.cell? ⟨b, o + k * 3 + 1, none⟩ = some (.string ⟨(L[k]).path.toArray⟩) ∧ w.cell? ⟨b, o + k * 3 + 2, none⟩ = some (.string ⟨(L[k]).text.toArray⟩) := by
  obtain ⟨b, o, hl, rfl, hb, hc⟩ := Recs.flat_ h tkC_len (by omega) hk
  exact ⟨b, o, hl, rfl, hb, hc 0 (by omega), hc 1 (by omega), hc 2 (by omega)⟩
def okTk (x : Tk) : Bool := decide (x.path.length ≤ 2000) && decide (x.text.length ≤ 2000)
def isShort9 (l : List Tk) (many : Int) : Bool := l.all okTk && decide ((l.length : Int) ≤ many)
def okTo (l : List Tk) (k : Nat) : Prop := ∀ x ∈ l.take k, okTk x = true
theorem ok_next {l : List Tk} {k : Nat} (hk : k < l.length) (h : okTo l k) (h2 : okTk l[k] = true) : okTo l (k + 1) := by
  intro x hx
  rw [List.take_succ_eq_append_getElem hk] at hx
  rcases List.mem_append.1 hx with hx | hx
  · exact h x hx
  · rw [List.mem_singleton.1 hx]; exact h2
theorem ok_end {l : List Tk} {k : Nat} {many : Int} (hk : ¬ k < l.length) (h : okTo l k) : isShort9 l many = decide ((l.length : Int) ≤ many) := by
  unfold okTo at h
  rw [List.take_of_length_le (by omega)] at h
  unfold isShort9
  rw [List.all_eq_true.2 h, Bool.true_and]
theorem ok_no {l : List Tk} {k : Nat} {many : Int} (hk : k < l.length) (h2 : okTk l[k] = false) : isShort9 l many = false := by
  unfold isShort9
  rw [Bool.and_eq_false_iff]
  left
  rw [List.all_eq_false]
  exact ⟨l[k], List.getElem_mem hk, by rw [h2]; simp⟩
theorem short9_is {l : List Tk} {many : Int} (h : isShort9 l many = true) : (∀ x ∈ l, x.path.length ≤ 2000 ∧ x.text.length ≤ 2000) ∧ (l.length : Int) ≤ many := by
  unfold isShort9 okTk at h
  simp only [Bool.and_eq_true, decide_eq_true_eq, List.all_eq_true] at h
  exact h
set_option maxHeartbeats 2000000 in
theorem short9_any (v : Value) (L : List Tk) (many : Int) (B : Nat) (w : World) (h : Tasks B w v L) : Calls Tryz.prog 18 #[v, .int .i64 many] w fun e w' => e = .returned (.bool (isShort9 L many)) ∧ w' = w := by
  have H := Lib.hid h
  obtain ⟨A, c, rfl, hA1, hA2⟩ := h.form
  unfold maxLen at hA2
  clear h
  generalize hm : L.length = m at *
  have HM := Lib.hid hm
  clear hm
  go_enter Tryz.func18, Tryz.ntmps18
  go_wp2_with fail
  go_loop [5] (fun i => ∃ k : Nat, k ≤ m ∧ i = .int .i64 k ∧ Hid (okTo L k)) (fun i => m - (intOf i).toNat)
  case atStart => exact ⟨0, Nat.zero_le _, rfl, fun x hx => by simp at hx⟩
  case round =>
    obtain ⟨k, hk, rfl, hr⟩ := hrel
    by_cases hlt : k < m
    · obtain ⟨b, o, hl1, rfl, hbl, hc0, hc1, hc2⟩ := Tasks.at_ H.out hlt
      have e1 : ((⟨(L[k]).path.toArray⟩ : ByteArray).size : Int) = ((L[k]).path.length : Int) := by rw [Lib.size_eq]
      have e2 : ((⟨(L[k]).text.toArray⟩ : ByteArray).size : Int) = ((L[k]).text.length : Int) := by rw [Lib.size_eq]
      have HOK : Hid (okTk L[k] = (decide ((L[k]).path.length ≤ 2000) && decide ((L[k]).text.length ≤ 2000))) := rfl
      generalize (⟨(L[k]).path.toArray⟩ : ByteArray) = sp at *
      generalize (⟨(L[k]).text.toArray⟩ : ByteArray) = st at *
      by_cases h1 : (L[k]).path.length ≤ 2000
      · have t1 : ¬ (2000 : Int) < sp.size := by omega
        by_cases h2 : (L[k]).text.length ≤ 2000
        · have HX := Lib.hid (ok_next hl1 hr.out (by rw [HOK.out, decide_eq_true h1, decide_eq_true h2]; rfl))
          have t2 : ¬ (2000 : Int) < st.size := by omega
          clear h1 h2 e1 e2
          go_wp2_with fail
          go_round
          case rel => exact ⟨k + 1, by omega, by go_num, HX⟩
          case measure => simp [intOf]; omega
        · have HX := Lib.hid (ok_no (many := many) hl1 (by rw [HOK.out, decide_eq_false h2, Bool.and_false]))
          have t2 : (2000 : Int) < st.size := by omega
          clear h1 h2 e1 e2
          go_wp2_with fail
          go_ret
          exact ⟨ret_bool HX.out.symm, rfl⟩
      · have HX := Lib.hid (ok_no (many := many) hl1 (by rw [HOK.out, decide_eq_false h1, Bool.false_and]))
        have t1 : (2000 : Int) < sp.size := by omega
        clear h1 e1 e2
        go_wp2_with fail
        go_ret
        exact ⟨ret_bool HX.out.symm, rfl⟩
    · have HX := Lib.hid (ok_end (many := many) (by rw [HM.out]; exact hlt) hr.out)
      rw [HM.out] at HX
      go_wp2_with fail
      go_ret
      exact ⟨ret_bool HX.out.symm, rfl⟩
theorem wrote_after {Rep : (Nat → Prop) → World → Value → Tr → Prop} {F : Nat → Prop} {w w1 w' : World} {v : Value} {t' : Tr} (hb : Below w.heap.size w w1) (h : Wrote Rep F v t' w1 w') : Wrote Rep F v t' w w' := by
  obtain ⟨F', h1, h2, h3⟩ := h
  exact ⟨F', h1, (Turns.new hb).trans h2, fun k hk => (h3 k hk).imp id (fun h => Nat.le_trans hb.size h)⟩
end Go.Proofs.YtolhniepejhmfaaGreatDoor.W09
/-
  Arguments that are tasks, or slices of them, opened. For this program's types; no condition but those that each theorem bears.
-/
namespace Go.Proofs.YtolhniepejhmfaaGreatDoor.W09
open Go Go.RowKit Go.ChangeShapes Go.WideShapes Go.Deep Go.Joins
open Go.Proofs.YtolhniepejhmfaaGreatDoor.Strs (strV)
open Go.Proofs.YtolhniepejhmfaaGreatDoor.Recs
open Go.Proofs.YtolhniepejhmfaaGreatDoor.Kit (mk_bytes)

theorem tk_struct : ∃ f0 f1 f2 : Field, Tryz.prog.underlying 39 = some (.struct #[f0, f1, f2]) ∧ f0.type = 3 ∧ f1.type = 9 ∧ f2.type = 9 ∧ oneCellFields Tryz.prog #[f0, f1, f2] = true :=
  ⟨_, _, _, Tryz.underlying39, rfl, rfl, rfl, by kernel_rfl⟩
theorem tk_cells : Tryz.prog.cellsOf 39 = 3 := by kernel_rfl
theorem three {α : Type} : ∀ {l : List α}, l.length = 3 → ∃ a b c, l = [a, b, c]
  | [a, b, c], _ => ⟨a, b, c, rfl⟩
section
variable {H : Type} {enc : TypeId × Value → H} {W : World} {base : Nat}
theorem tk_read (n : Nat) (cs : List Value) (x : DataW H × List MemPlace) (hl : cs.length = 3) (h : DataW.trod enc Tryz.prog W 0 (fun _ => true) true n 39 cs = some x) : ∃ r : Tk, cs = tkC r ∧ r.text.length ≤ maxLen := by
  obtain ⟨f0, f1, f2, hs, e0, e1, e2, hone⟩ := tk_struct
  obtain ⟨o0, k0⟩ := hone_of hone 0 f0 rfl
  obtain ⟨o1, k1⟩ := hone_of hone 1 f1 rfl
  obtain ⟨o2, k2⟩ := hone_of hone 2 f2 rfl
  obtain ⟨xs, m, _, _, _, hxl, hf⟩ := DataW.trod_struct hs h
  have hxl3 : xs.length = 3 := hxl
  have g0 := hf 0 f0 rfl
  have g1 := hf 1 f1 rfl
  have g2 := hf 2 f2 rfl
  rw [o0, k0, e0, List.getElem?_eq_getElem (by omega)] at g0
  rw [o1, k1, e1, List.getElem?_eq_getElem (by omega)] at g1
  rw [o2, k2, e2, List.getElem?_eq_getElem (by omega)] at g2
  obtain ⟨c0, c1, c2, rfl⟩ := three hl
  obtain ⟨z0, q0, _, _⟩ := DataW.trod_int Tryz.underlying3 g0
  obtain ⟨s1, q1, _, _⟩ := DataW.trod_string Tryz.underlying9 g1
  obtain ⟨s2, q2, _, hm⟩ := DataW.trod_string Tryz.underlying9 g2
  simp at q0 q1 q2
  subst q0 q1 q2
  refine ⟨⟨z0, s1.data.toList, s2.data.toList⟩, ?_, by rw [← Lib.size_eq]; exact hm⟩
  show _ = [_, strV s1.data.toList, strV s2.data.toList]
  unfold strV
  rw [mk_bytes, mk_bytes]
set_option maxRecDepth 100000 in
theorem open_task {v : Value} {d : DataW H} {p : List MemPlace} (hok : Value.okWide Tryz.prog W .any base 39 v) (h : DataW.Trod enc Tryz.prog W 0 (fun _ => true) true 39 v d p) :
    ∃ (k : Int) (a b : ByteArray), v = .agg #[.int .i64 k, .string a, .string b] ∧ b.size ≤ maxLen := by
  obtain ⟨f0, f1, f2, hs, -⟩ := tk_struct
  obtain ⟨cs, rfl, hsz⟩ := okWide_struct hs hok
  obtain ⟨fuel, hf⟩ := h
  obtain ⟨r, hr, hm⟩ := tk_read _ _ _ (by show cs.toList.length = 3; rw [Array.length_toList, hsz]; exact tk_cells) hf
  refine ⟨r.kind, ⟨r.path.toArray⟩, ⟨r.text.toArray⟩, ?_, by rw [Lib.size_eq]; exact hm⟩
  have hr2 : cs.toList = tkC r := hr
  have : cs = (tkC r).toArray := by rw [← hr2]
  rw [this]; rfl
set_option maxRecDepth 100000 in
theorem open_tasks {v : Value} {d : DataW H} {p : List MemPlace} (hok : Value.okWide Tryz.prog W .any base 51 v) (h : DataW.Trod enc Tryz.prog W 0 (fun _ => true) true 51 v d p) (hlt : ∀ x ∈ p, x.block < W.heap.size) :
    ∃ L : List Tk, Tasks W.heap.size W v L ∧ ∀ r ∈ L, r.text.length ≤ maxLen :=
  open_recs Tryz.underlying51 tk_cells (by omega) tk_read hok h hlt
end
end Go.Proofs.YtolhniepejhmfaaGreatDoor.W09
/-
  Plain mathematics for layer 10 (fs): a tree whose changes may fail, as functions; how far tasks are done. Lists alone. No condition but those that each theorem bears.
-/
namespace Go.Proofs.YtolhniepejhmfaaGreatDoor.M10
open Go.Proofs.YtolhniepejhmfaaGreatDoor.M07 (Tr Right)
open Go.Proofs.YtolhniepejhmfaaGreatDoor.M09
open Go.Proofs.YtolhniepejhmfaaGreatDoor.W09 (Tk Within)

abbrev Bytes := List UInt8
/-- a fault: of which change, and its error -/
structure Fl where
  at_ : Int
  err : Int
/-- a tree, its faults, the changes, and whether it is down -/
structure Fs where
  t : Tr
  faults : List Fl
  count : Int
  down : Bool
/-- does this fault strike the change n? -/
def strikes (n : Int) (x : Fl) : Bool := decide (x.at_ = n) && decide (x.err ≠ 0)
/-- the error of the first fault that strikes; 0: none -/
def fault : List Fl → Int → Int
  | [], _ => 0
  | x :: l, n => if strikes n x then x.err else fault l n
noncomputable def doFs (f : Fs) (k : Int) (p x : Bytes) : Fs × Int :=
  if f.down = true then (f, 17) else if k < 1 ∨ 6 < k then (f, 2)
  else if fault f.faults (f.count + 1) ≠ 0 then ({ f with count := f.count + 1, down := decide (fault f.faults (f.count + 1) = 17) }, fault f.faults (f.count + 1))
  else ({ f with t := (doTask f.t k p x).1, count := f.count + 1 }, (doTask f.t k p x).2)
noncomputable def applyAll (t : Tr) : List Tk → Tr × Nat × Int
  | [] => (t, 0, 0)
  | x :: l => if (doTask t x.kind x.path x.text).2 ≠ 0 then (t, 0, (doTask t x.kind x.path x.text).2)
    else ((applyAll (doTask t x.kind x.path x.text).1 l).1, (applyAll (doTask t x.kind x.path x.text).1 l).2.1 + 1, (applyAll (doTask t x.kind x.path x.text).1 l).2.2)

/-! the first fault that strikes, found from the left -/
theorem fault_none {l : List Fl} {n : Int} (h : ∀ x ∈ l, strikes n x = false) : fault l n = 0 := by
  induction l with
  | nil => rfl
  | cons a r ih =>
    unfold fault
    rw [h a List.mem_cons_self, if_neg (by simp)]
    exact ih fun x hx => h x (List.mem_cons_of_mem _ hx)
theorem fault_at {l : List Fl} {n : Int} {k : Nat} (hk : k < l.length) (h : ∀ x ∈ l.take k, strikes n x = false) (hs : strikes n l[k] = true) : fault l n = l[k].err := by
  induction l generalizing k with
  | nil => simp at hk
  | cons a r ih =>
    unfold fault
    cases k with
    | zero =>
      have : strikes n a = true := hs
      rw [this, if_pos rfl]; rfl
    | succ m =>
      rw [h a (by rw [List.take_succ_cons]; exact List.mem_cons_self), if_neg (by simp)]
      exact ih (by simpa using hk) (fun x hx => h x (by rw [List.take_succ_cons]; exact List.mem_cons_of_mem _ hx)) hs
theorem strikes_err {n : Int} {x : Fl} (h : strikes n x = true) : x.at_ = n ∧ x.err ≠ 0 := by
  unfold strikes at h
  simp only [Bool.and_eq_true, decide_eq_true_eq] at h
  exact h

/-! the table of the faults by their changes -/
theorem fault_snoc (l : List Fl) (x : Fl) (n : Int) : fault (l ++ [x]) n = if fault l n ≠ 0 then fault l n else if strikes n x then x.err else 0 := by
  induction l with
  | nil => rfl
  | cons a r ih =>
    show (if strikes n a then a.err else fault (r ++ [x]) n) = if (if strikes n a then a.err else fault r n) ≠ 0 then (if strikes n a then a.err else fault r n) else _
    by_cases h : strikes n a = true
    · have := (strikes_err h).2
      rw [if_pos h, if_pos h, if_pos this]
    · rw [if_neg h, if_neg h]; exact ih
/-- the error that the change n has, if it has one -/
def tab (l : List Fl) (n : Int) : Option Value := if n < 1 then none else if fault l n = 0 then none else some (.int .i64 (fault l n))
theorem tab_nil (n : Int) : tab [] n = none := by
  unfold tab
  split
  · rfl
  · rfl
theorem tab_skip {l : List Fl} {x : Fl} (h : x.at_ < 1 ∨ x.err = 0) (n : Int) : tab (l ++ [x]) n = tab l n := by
  unfold tab
  by_cases hn : n < 1
  · rw [if_pos hn, if_pos hn]
  · rw [if_neg hn, if_neg hn]
    have e : fault (l ++ [x]) n = fault l n := by
      rw [fault_snoc]
      by_cases h2 : fault l n ≠ 0
      · rw [if_pos h2]
      · rw [if_neg h2]
        have hs : ¬ strikes n x = true := fun hs => by
          obtain ⟨e1, e2⟩ := strikes_err hs
          rcases h with h | h
          · omega
          · exact e2 h
        rw [if_neg hs]
        exact (Decidable.not_not.1 h2).symm
    rw [e]
theorem tab_taken {l : List Fl} {x : Fl} (h : (tab l x.at_).isSome = true) (n : Int) : tab (l ++ [x]) n = tab l n := by
  unfold tab at *
  by_cases hn : n < 1
  · rw [if_pos hn, if_pos hn]
  · rw [if_neg hn, if_neg hn]
    have e : fault (l ++ [x]) n = fault l n := by
      rw [fault_snoc]
      by_cases h2 : fault l n ≠ 0
      · rw [if_pos h2]
      · rw [if_neg h2]
        have hs : ¬ strikes n x = true := fun hs => by
          obtain ⟨e1, e2⟩ := strikes_err hs
          rw [e1, if_neg hn, if_pos (Decidable.not_not.1 h2)] at h
          cases h
        rw [if_neg hs]
        exact (Decidable.not_not.1 h2).symm
    rw [e]
theorem tab_new {l : List Fl} {x : Fl} (h1 : ¬ x.at_ < 1) (h2 : x.err ≠ 0) (h : tab l x.at_ = none) (n : Int) : tab (l ++ [x]) n = if n = x.at_ then some (.int .i64 x.err) else tab l n := by
  have h0 : fault l x.at_ = 0 := by
    unfold tab at h
    rw [if_neg h1] at h
    by_cases e : fault l x.at_ = 0
    · exact e
    · rw [if_neg e] at h; cases h
  by_cases e : n = x.at_
  · rw [if_pos e, e]
    unfold tab
    have hs : strikes x.at_ x = true := by unfold strikes; simp [h2]
    have e2 : fault (l ++ [x]) x.at_ = x.err := by rw [fault_snoc, h0, if_neg (fun h => h rfl), if_pos hs]
    rw [if_neg h1, e2, if_neg h2]
  · rw [if_neg e]
    unfold tab
    have hs : ¬ strikes n x = true := fun hs => e (strikes_err hs).1.symm
    have e2 : fault (l ++ [x]) n = fault l n := by
      rw [fault_snoc]
      by_cases h3 : fault l n ≠ 0
      · rw [if_pos h3]
      · rw [if_neg h3, if_neg hs]; exact (Decidable.not_not.1 h3).symm
    rw [e2]
theorem tab_at {l : List Fl} {n : Int} (hn : 1 ≤ n) : ((tab l n).getD (.int .i64 0) = .int .i64 (fault l n)) ∧ (tab l n).isSome = decide (fault l n ≠ 0) := by
  unfold tab
  rw [if_neg (by omega)]
  by_cases h : fault l n = 0
  · rw [if_pos h, h]; exact ⟨rfl, rfl⟩
  · rw [if_neg h]; exact ⟨rfl, by simp [h]⟩

/-! what the tree becomes -/
theorem kept_fs (f : Fs) (k : Int) (p x : Bytes) : Kept f.t (doFs f k p x).1.t := by
  unfold doFs
  split
  · exact Kept.refl _
  · split
    · exact Kept.refl _
    · split
      · exact Kept.refl _
      · exact kept_do _ _ _ _
theorem faults_fs (f : Fs) (k : Int) (p x : Bytes) : (doFs f k p x).1.faults = f.faults := by
  unfold doFs
  split
  · rfl
  · split
    · rfl
    · split <;> rfl
theorem count_fs (f : Fs) (k : Int) (p x : Bytes) : f.count ≤ (doFs f k p x).1.count ∧ (doFs f k p x).1.count ≤ f.count + 1 := by
  unfold doFs
  split
  · exact ⟨Int.le_refl _, by show f.count ≤ _; omega⟩
  · split
    · exact ⟨Int.le_refl _, by show f.count ≤ _; omega⟩
    · split <;> exact ⟨by show f.count ≤ f.count + 1; omega, Int.le_refl _⟩

/-! tasks one by one: behind k tasks without an error the rest is done -/
/-- k tasks were done without an error, and t is what they left -/
inductive Done (t0 : Tr) (l : List Tk) : Nat → Tr → Prop where
  | start : Done t0 l 0 t0
  | next {k : Nat} {t : Tr} (h : Done t0 l k t) (hk : k < l.length) (he : (doTask t l[k].kind l[k].path l[k].text).2 = 0) : Done t0 l (k + 1) (doTask t l[k].kind l[k].path l[k].text).1
theorem Done.rest {t0 t : Tr} {l : List Tk} {k : Nat} (h : Done t0 l k t) : k ≤ l.length ∧ applyAll t0 l = ((applyAll t (l.drop k)).1, (applyAll t (l.drop k)).2.1 + k, (applyAll t (l.drop k)).2.2) := by
  induction h with
  | start => exact ⟨Nat.zero_le _, by simp⟩
  | @next k t h hk he ih =>
    refine ⟨hk, ?_⟩
    rw [ih.2, List.drop_eq_getElem_cons hk]
    unfold applyAll
    rw [if_neg (fun e => e he)]
    show _ = (_, _ + (k + 1), _)
    rw [show ∀ a : Nat, a + 1 + k = a + (k + 1) from fun a => by omega]
    rw [← applyAll.eq_def]
theorem Done.all {t0 t : Tr} {l : List Tk} {k : Nat} (h : Done t0 l k t) (hk : ¬ k < l.length) : applyAll t0 l = (t, l.length, 0) := by
  obtain ⟨h1, h2⟩ := h.rest
  have : k = l.length := by omega
  subst this
  rw [h2, List.drop_length]
  show (t, 0 + l.length, (0 : Int)) = _
  rw [Nat.zero_add]
theorem Done.stop {t0 t : Tr} {l : List Tk} {k : Nat} (h : Done t0 l k t) (hk : k < l.length) (he : (doTask t l[k].kind l[k].path l[k].text).2 ≠ 0) : applyAll t0 l = (t, k, (doTask t l[k].kind l[k].path l[k].text).2) := by
  rw [h.rest.2, List.drop_eq_getElem_cons hk]
  unfold applyAll
  rw [if_pos he]
  show (t, 0 + k, _) = _
  rw [Nat.zero_add]
theorem Done.within {t0 t : Tr} {l : List Tk} {k n : Nat} (h : Done t0 l k t) (hw : Within t0 n) : Within t (n + k) := by
  induction h with
  | start => exact hw
  | next _ _ _ ih => exact ih.next (kept_do _ _ _ _)
end Go.Proofs.YtolhniepejhmfaaGreatDoor.M10
