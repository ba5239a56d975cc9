/-
  Texts joined, in build order, each with its own comment and its own conditions: W08Lives, W02Same, W09Asks, W09Task, OpenTasks.
-/
import Derived.Test.YtdnedeeocpaolaaGreatDoorJ14
import Derived.Test.YtdnedeeocpaolaaGreatDoorJ01
import Derived.Test.YtdnedeeocpaolaaGreatDoorChecked
import Derived.WalkSpells
import Derived.WalkLawsBesides
import Derived.Deep.QuietTactic
import Derived.BigQuiet
import Derived.Test.YtdnedeeocpaolaaGreatDoorJ13
import Derived.Deep.RegionHeld3
/-
  Layer 8 (seek), a walk of the law's lives over the contracts: it returns true; nothing that was there is changed.
-/
namespace Go.Proofs.YtdnedeeocpaolaaGreatDoor.W08
open Go Go.RowKit Go.Proofs.YtdnedeeocpaolaaGreatDoor.Strs Go.Proofs.YtdnedeeocpaolaaGreatDoor.Recs Go.Proofs.YtdnedeeocpaolaaGreatDoor.Range
open Go.Proofs.YtdnedeeocpaolaaGreatDoor.M07 (Tr Nd nodeAt inDir Right put put_right)
open Go.Proofs.YtdnedeeocpaolaaGreatDoor.M08
open Go.Proofs.YtdnedeeocpaolaaGreatDoor.M03 (check)
open Go.Proofs.YtdnedeeocpaolaaGreatDoor.W07 (Small Trees Nodes)
open Go.Proofs.YtdnedeeocpaolaaGreatDoor.Kit (ret_str ret_bool ret_int mk_of mk_bytes ba_ext below_draws on)

def fourN : List Sn := [⟨-1, [97], 1, []⟩, ⟨0, [98], 1, []⟩, ⟨1, [99], 2, [120]⟩, ⟨-1, [108], 3, [97, 47, 98]⟩]
def fourT : Tr := ⟨[⟨1, 1, [], 1, []⟩, ⟨2, 1, [97], 1, []⟩, ⟨3, 2, [98], 1, []⟩, ⟨4, 3, [99], 2, [120]⟩, ⟨5, 1, [108], 3, [97, 47, 98]⟩], 5⟩
theorem four_made : (made fourN).1 = fourT := by rfl
theorem four_good : Good fourT ∧ Right fourT := by rw [← four_made]; exact made_good (by decide)
theorem four_find : M08.find fourT [108, 47, 99] false = (4, 0) := by
  have e : goTo fourT 1 [[108], [99]] false 0 = (4, 1, 0) := by
    rw [go_link (by rfl) (by decide) (by rfl) (by decide) (by decide) (by decide)]
    show goTo fourT 1 [[97], [98], [99]] false 1 = _
    rw [go_on (by rfl) (by decide) (by rfl) (by decide) (Or.inl (by decide))]
    show goTo fourT 2 [[98], [99]] false 1 = _
    rw [go_on (by rfl) (by decide) (by rfl) (by decide) (Or.inl (by decide))]
    show goTo fourT 3 [[99]] false 1 = _
    rw [go_on (by rfl) (by decide) (by rfl) (by decide) (Or.inl (by decide))]
    show goTo fourT 4 [] false 1 = _
    rw [go_nil]
  unfold M08.find
  rw [if_neg (by decide), if_neg (by decide)]
  show ((goTo fourT 1 [[108], [99]] false 0).1, _) = _
  rw [show M04.parts [108, 47, 99] = [[108], [99]] from rfl, e]
theorem four_real : real fourT 4 = ([47, 97, 47, 98, 47, 99], true) := by
  have hR := four_good.2
  have n2 : names fourT 2 = [[97]] := by rw [names_next hR (by decide) (by decide)]; show names fourT 1 ++ _ = _; rw [names_root]; rfl
  have n3 : names fourT 3 = [[97], [98]] := by rw [names_next hR (by decide) (by decide)]; show names fourT 2 ++ _ = _; rw [n2]; rfl
  have n4 : names fourT 4 = [[97], [98], [99]] := by rw [names_next hR (by decide) (by decide)]; show names fourT 3 ++ _ = _; rw [n3]; rfl
  unfold real
  rw [if_neg (by decide), n4]; rfl
theorem four_nodes (w : World) (t : TypeId) : Snodes (w.heap.size + 1) (w.alloc (.cells #[.int .i64 (-1), .string ⟨#[97]⟩, .int .i64 1, .string ⟨#[]⟩, .int .i64 0, .string ⟨#[98]⟩, .int .i64 1, .string ⟨#[]⟩, .int .i64 1, .string ⟨#[99]⟩, .int .i64 2, .string ⟨#[120]⟩, .int .i64 (-1), .string ⟨#[108]⟩, .int .i64 3, .string ⟨#[97, 47, 98]⟩] t)) (.slice (some ⟨w.heap.size, 0, none⟩) 4 4) fourN := by
  refine ⟨_, 4, rfl, Nat.le_refl _, by decide, fun _ => ⟨_, rfl, Nat.lt_succ_self _, fun k hk j hj => ?_⟩⟩
  have hf := flat_at snC_len fourN k hk j hj
  have hlt : j < (snC fourN[k]).length := by rw [snC_len]; exact hj
  rw [List.getElem?_eq_getElem hlt] at hf ⊢
  exact cells_new w (fourN.flatMap snC) t (k * 4 + j) _ hf
end Go.Proofs.YtdnedeeocpaolaaGreatDoor.W08
/-
  Layer 2 (words), a walk: the plain answer's Same: whether two slices of texts read alike; the world as it was, but for draws.
-/
namespace Go.Proofs.YtdnedeeocpaolaaGreatDoor.W02
open Go Go.RowKit Go.Proofs.YtdnedeeocpaolaaGreatDoor.Strs

theorem ret_bool {a b : Bool} (h : a = b) : Ending.returned (.bool a) = .returned (.bool b) := by rw [h]
theorem same_upto {La Lb : List (List UInt8)} {k : Nat} (hl : La.length = Lb.length) (hk : ¬ k < La.length) (h : ∀ j, j < k → La.getD j [] = Lb.getD j []) : La = Lb := by
  apply List.ext_getElem hl
  intro i h1 h2
  have := h i (by omega)
  simpa [List.getD_eq_getElem?_getD, h1, h2] using this
theorem differ_at {La Lb : List (List UInt8)} {k : Nat} (h : ¬ La.getD k [] = Lb.getD k []) : ¬ La = Lb := fun e => h (by rw [e])

end Go.Proofs.YtdnedeeocpaolaaGreatDoor.W02
/-
  Layer 9 (posix), walks over the contracts: the law's lives, and PosixAsks: each returns true; nothing that was there is changed. The conditions stand in the statements.
-/
namespace Go.Proofs.YtdnedeeocpaolaaGreatDoor.W09
set_option maxRecDepth 100000
open Go Go.RowKit Go.Proofs.YtdnedeeocpaolaaGreatDoor.Strs Go.Proofs.YtdnedeeocpaolaaGreatDoor.Recs Go.Proofs.YtdnedeeocpaolaaGreatDoor.Range
open Go.Proofs.YtdnedeeocpaolaaGreatDoor.M07 (Tr Nd nodeAt inDir Right listDir)
open Go.Proofs.YtdnedeeocpaolaaGreatDoor.M08 Go.Proofs.YtdnedeeocpaolaaGreatDoor.M09
open Go.Proofs.YtdnedeeocpaolaaGreatDoor.W07 (Small Trees Wrote Nodes nodeV TreeBox heap_top)
open Go.Proofs.YtdnedeeocpaolaaGreatDoor.W08 (Sn Snodes snC snC_len isFew few_is made)
open Go.Proofs.YtdnedeeocpaolaaGreatDoor.Kit (ret_str ret_bool ret_int mk_of mk_bytes ba_ext below_draws on)

/-- behind a call that may write the tree: it reads as t' all the same, in blocks of the law's own -/
theorem wrote_on {Rep : (Nat → Prop) → World → Value → Tr → Prop} {F : Nat → Prop} {w0 w w' : World} {v : Value} {t' : Tr} (hF : ∀ k, F k → w0.heap.size ≤ k) (hB : Below w0.heap.size w0 w) (h : Wrote Rep F v t' w w') : ∃ F', Rep F' w' v t' ∧ (∀ k, F' k → w0.heap.size ≤ k) ∧ Below w0.heap.size w0 w' := by
  obtain ⟨F', h1, h2, h3⟩ := h
  exact ⟨F', h1, fun k hk => (h3 k hk).elim (hF k) (fun h => Nat.le_trans hB.size h), hB.trans (h2.below hF hB.size)⟩
def twoN : List Sn := [⟨-1, [97], 1, []⟩, ⟨-1, [108], 3, [97]⟩]
def twoT : Tr := ⟨[⟨1, 1, [], 1, []⟩, ⟨2, 1, [97], 1, []⟩, ⟨3, 1, [108], 3, [97]⟩], 3⟩
def threeT : Tr := ⟨[⟨1, 1, [], 1, []⟩, ⟨2, 1, [97], 1, []⟩, ⟨3, 1, [108], 3, [97]⟩, ⟨4, 2, [102], 2, [120]⟩], 4⟩
theorem two_made : (made twoN).1 = twoT := by rfl
theorem two_within : Within twoT 61 := by rw [← two_made]; exact made_within (by decide)
theorem two_find : M08.find twoT [108, 47, 102] true = (0, 5) := by
  have e : goTo twoT 1 [[108], [102]] true 0 = (0, 1, 5) := by
    rw [go_link (by rfl) (by decide) (by rfl) (by decide) (by decide) (by decide)]
    show goTo twoT 1 [[97], [102]] true 1 = _
    rw [go_on (by rfl) (by decide) (by rfl) (by decide) (Or.inl (by decide))]
    show goTo twoT 2 [[102]] true 1 = _
    rw [go_none (by rfl) (by decide) (by rfl) (by decide)]
  unfold M08.find
  rw [if_neg (by decide), if_neg (by decide)]
  show ((goTo twoT 1 [[108], [102]] true 0).1, _) = _
  rw [show M04.parts [108, 47, 102] = [[108], [102]] from rfl, e]
theorem two_spot : spot twoT [108, 47, 102] = (2, [102], 0) := by
  have e : goTo twoT 1 [[108]] true 0 = (2, 1, 0) := by
    rw [go_link (by rfl) (by decide) (by rfl) (by decide) (by decide) (by decide)]
    show goTo twoT 1 [[97]] true 1 = _
    rw [go_on (by rfl) (by decide) (by rfl) (by decide) (Or.inl (by decide))]
    show goTo twoT 2 [] true 1 = _
    rw [go_nil]
  unfold spot
  rw [if_neg (by decide), if_neg (by decide), if_neg (by decide)]
  have hp : M04.parts [108, 47, 102] = [[108], [102]] := rfl
  simp only [hp, show ([[108], [102]] : List (List UInt8)).dropLast = [[108]] from rfl, e]
  rfl
theorem two_write : write twoT [108, 47, 102] [120] = (threeT, 0) := by
  unfold write
  rw [two_find, if_neg (by decide), if_neg (by decide), two_spot, if_neg (by decide), if_neg (by decide)]
  unfold putAt
  rw [two_spot, if_neg (by decide)]
  rfl
theorem three_within : Within threeT 62 := by have := two_within.next (kept_write twoT [108, 47, 102] [120]); rw [two_write] at this; exact this
theorem three_data : M09.data threeT [47, 97, 47, 102] true 2 8 = ([120], 0) := by
  have e : M08.find threeT [47, 97, 47, 102] true = (4, 0) := by
    have e : goTo threeT 1 [[97], [102]] true 0 = (4, 0, 0) := by
      rw [go_on (by rfl) (by decide) (by rfl) (by decide) (Or.inl (by decide))]
      show goTo threeT 2 [[102]] true 0 = _
      rw [go_on (by rfl) (by decide) (by rfl) (by decide) (Or.inl (by decide))]
      show goTo threeT 4 [] true 0 = _
      rw [go_nil]
    unfold M08.find
    rw [if_neg (by decide), if_neg (by decide)]
    show ((goTo threeT 1 [[97], [102]] true 0).1, _) = _
    rw [show M04.parts [47, 97, 47, 102] = [[97], [102]] from rfl, e]
  unfold M09.data
  rw [e]; rfl
theorem two_nodes (w : World) (t : TypeId) : Snodes (w.heap.size + 1) (w.alloc (.cells #[.int .i64 (-1), .string ⟨#[97]⟩, .int .i64 1, .string ⟨#[]⟩, .int .i64 (-1), .string ⟨#[108]⟩, .int .i64 3, .string ⟨#[97]⟩] t)) (.slice (some ⟨w.heap.size, 0, none⟩) 2 2) twoN := by
  refine ⟨_, 2, rfl, Nat.le_refl _, by decide, fun _ => ⟨_, rfl, Nat.lt_succ_self _, fun k hk j hj => ?_⟩⟩
  have hf := flat_at snC_len twoN k hk j hj
  have hlt : j < (snC twoN[k]).length := by rw [snC_len]; exact hj
  rw [List.getElem?_eq_getElem hlt] at hf ⊢
  exact cells_new w (twoN.flatMap snC) t (k * 4 + j) _ hf
set_option maxHeartbeats 2000000 in
theorem lives9_over {Rep : (Nat → Prop) → World → Value → Tr → Prop} (C : Trees Rep) (S : Posix Rep) (w : World) : Calls Tryz.prog 7 #[] w fun e w' => e = .returned (.bool true) ∧ Below w.heap.size w w' := by
  obtain ⟨w1, hw1⟩ : ∃ w1, w.alloc (.cells #[.int .i64 (-1), .string ⟨#[97]⟩, .int .i64 1, .string ⟨#[]⟩, .int .i64 (-1), .string ⟨#[108]⟩, .int .i64 3, .string ⟨#[97]⟩] 54) = w1 := ⟨_, rfl⟩
  have hs : w1.heap.size = w.heap.size + 1 := by rw [← hw1]; exact World.size_alloc _ _
  have B1 : Hid (Below w.heap.size w w1) := by rw [← hw1]; exact (Below.refl _ _).alloc (Nat.le_refl _) _
  have HM := W08.made_over C w1 (.slice (some ⟨w.heap.size, 0, none⟩) 2 2) twoN (by rw [hs, ← hw1]; exact two_nodes w _) (by decide) (by decide)
  rw [two_made] at HM
  have HM := Lib.hid HM
  clear hs
  go_enter Tryz.func7, Tryz.ntmps7
  go_wp2_with fail
  clear hw1
  refine HM.out.mono ?_
  rintro e w2 ⟨pv, u, F, rfl, hrep, hn, hF, hb⟩
  obtain ⟨Au, cu, rfl, -, -⟩ := hn.form
  have B2 := Lib.hid (on B1.out hb)
  have HF2 : Hid (∀ k, F k → w.heap.size ≤ k) := fun k hk => Nat.le_trans B1.out.size (hF k hk)
  have P3 := Lib.hid (C.below hrep ((Below.refl w2.heap.size w2).alloc (Nat.le_refl _) (.cells #[.slice Au twoT.L.length cu, .int .i64 twoT.last] 30)))
  have B3 := Lib.hid (B2.out.alloc B2.out.size (.cells #[.slice Au twoT.L.length cu, .int .i64 twoT.last] 30))
  obtain ⟨w3, hw3⟩ : ∃ w3, w2.alloc (.cells #[.slice Au twoT.L.length cu, .int .i64 twoT.last] 30) = w3 := ⟨_, rfl⟩
  rw [hw3] at P3 B3
  have HW := S.write P3.out (two_within.good (by decide)) ⟨#[108, 47, 102]⟩ ⟨#[120]⟩ (by decide) (by decide)
  rw [show (⟨#[108, 47, 102]⟩ : ByteArray).data.toList = [108, 47, 102] from rfl, show (⟨#[120]⟩ : ByteArray).data.toList = [120] from rfl, two_write] at HW
  have HW := Lib.hid HW
  clear hrep hn hF hb HM
  go_wp2_with fail
  clear hw3
  refine HW.out.mono ?_
  rintro e w4 ⟨rfl, hwr⟩
  obtain ⟨F4, P4, HF4, B4⟩ := wrote_on HF2.out B3.out hwr
  have HRD := S.read P4 (three_within.good (by decide)) ⟨#[47, 97, 47, 102]⟩ (by decide)
  rw [show (⟨#[47, 97, 47, 102]⟩ : ByteArray).data.toList = [47, 97, 47, 102] from rfl, three_data] at HRD
  have HRD := Lib.hid HRD
  have B4 := Lib.hid B4
  clear hwr P4 HF4 HW
  go_wp2_with fail
  refine HRD.out.mono ?_
  rintro e w5 ⟨rfl, hb5⟩
  have B5 := Lib.hid (on B4.out hb5)
  clear hb5 HRD
  go_wp2_with fail
  go_ret
  exact ⟨rfl, B5.out⟩
theorem same_hold {w1 w' w'' : World} {p q : Nat} {y0 y1 : Value} (hp : p < w1.heap.size) (hq : q < w1.heap.size) (hS : w'.cell? ⟨p, 0, none⟩ = some y0 ∧ w'.cell? ⟨q, 0, none⟩ = some y1 ∧ Below w1.heap.size w1 w') (hb : Below w'.heap.size w' w'') : w''.cell? ⟨p, 0, none⟩ = some y0 ∧ w''.cell? ⟨q, 0, none⟩ = some y1 ∧ Below w1.heap.size w1 w'' := by
  have hs := hS.2.2.size
  exact ⟨(hb.cell (by show p < _; omega)).trans hS.1, (hb.cell (by show q < _; omega)).trans hS.2.1, on hS.2.2 hb⟩
end Go.Proofs.YtdnedeeocpaolaaGreatDoor.W09
/-
  Layer 9 (posix): tasks as records; the law's Short and do: what each returns. The conditions stand in the statements.
-/
namespace Go.Proofs.YtdnedeeocpaolaaGreatDoor.W09
set_option maxRecDepth 100000
open Go Go.RowKit Go.Proofs.YtdnedeeocpaolaaGreatDoor.Strs Go.Proofs.YtdnedeeocpaolaaGreatDoor.Recs Go.Proofs.YtdnedeeocpaolaaGreatDoor.Range
open Go.Proofs.YtdnedeeocpaolaaGreatDoor.M07 (Tr Nd nodeAt inDir Right listDir)
open Go.Proofs.YtdnedeeocpaolaaGreatDoor.M08 Go.Proofs.YtdnedeeocpaolaaGreatDoor.M09
open Go.Proofs.YtdnedeeocpaolaaGreatDoor.W07 (Small Trees Wrote Nodes nodeV TreeBox heap_top)
open Go.Proofs.YtdnedeeocpaolaaGreatDoor.Kit (ret_str ret_bool ret_int mk_of mk_bytes ba_ext below_draws on)

structure Tk where
  kind : Int
  path : Bytes
  text : Bytes
def tkC (x : Tk) : List Value := [.int .i64 x.kind, strV x.path, strV x.text]
theorem tkC_len (x : Tk) : (tkC x).length = 3 := rfl
abbrev Tasks (B : Nat) (w : World) (v : Value) (L : List Tk) : Prop := Recs tkC 3 B w v L
theorem Tasks.at_ {B : Nat} {w : World} {L : List Tk} {A : Option Addr} {n c : Nat} (h : Tasks B w (.slice A n c) L) {k : Nat} (hk : k < n) : ∃ (b o : Nat) (hl : k < L.length), A = some ⟨b, o, none⟩ ∧ b < B ∧ w.cell? ⟨b, o + k * 3, none⟩ = some (.int .i64 (L[k]).kind) ∧ w.cell? ⟨b, o + k * 3 + 1, none⟩ = some (.string ⟨(L[k]).path.toArray⟩) ∧ w.cell? ⟨b, o + k * 3 + 2, none⟩ = some (.string ⟨(L[k]).text.toArray⟩) := by
  obtain ⟨b, o, hl, rfl, hb, hc⟩ := Recs.flat_ h tkC_len (by omega) hk
  exact ⟨b, o, hl, rfl, hb, hc 0 (by omega), hc 1 (by omega), hc 2 (by omega)⟩
def okTk (x : Tk) : Bool := decide (x.path.length ≤ 2000) && decide (x.text.length ≤ 2000)
def isShort9 (l : List Tk) (many : Int) : Bool := l.all okTk && decide ((l.length : Int) ≤ many)
def okTo (l : List Tk) (k : Nat) : Prop := ∀ x ∈ l.take k, okTk x = true
theorem ok_next {l : List Tk} {k : Nat} (hk : k < l.length) (h : okTo l k) (h2 : okTk l[k] = true) : okTo l (k + 1) := by
  intro x hx
  rw [List.take_succ_eq_append_getElem hk] at hx
  rcases List.mem_append.1 hx with hx | hx
  · exact h x hx
  · rw [List.mem_singleton.1 hx]; exact h2
theorem ok_end {l : List Tk} {k : Nat} {many : Int} (hk : ¬ k < l.length) (h : okTo l k) : isShort9 l many = decide ((l.length : Int) ≤ many) := by
  unfold okTo at h
  rw [List.take_of_length_le (by omega)] at h
  unfold isShort9
  rw [List.all_eq_true.2 h, Bool.true_and]
theorem ok_no {l : List Tk} {k : Nat} {many : Int} (hk : k < l.length) (h2 : okTk l[k] = false) : isShort9 l many = false := by
  unfold isShort9
  rw [Bool.and_eq_false_iff]
  left
  rw [List.all_eq_false]
  exact ⟨l[k], List.getElem_mem hk, by rw [h2]; simp⟩
theorem short9_is {l : List Tk} {many : Int} (h : isShort9 l many = true) : (∀ x ∈ l, x.path.length ≤ 2000 ∧ x.text.length ≤ 2000) ∧ (l.length : Int) ≤ many := by
  unfold isShort9 okTk at h
  simp only [Bool.and_eq_true, decide_eq_true_eq, List.all_eq_true] at h
  exact h
set_option maxHeartbeats 2000000 in
theorem short9_any (v : Value) (L : List Tk) (many : Int) (B : Nat) (w : World) (h : Tasks B w v L) : Calls Tryz.prog 6 #[v, .int .i64 many] w fun e w' => e = .returned (.bool (isShort9 L many)) ∧ w' = w := by
  have H := Lib.hid h
  obtain ⟨A, c, rfl, hA1, hA2⟩ := h.form
  unfold maxLen at hA2
  clear h
  generalize hm : L.length = m at *
  have HM := Lib.hid hm
  clear hm
  go_enter Tryz.func6, Tryz.ntmps6
  go_wp2_with fail
  go_loop [5] (fun i => ∃ k : Nat, k ≤ m ∧ i = .int .i64 k ∧ Hid (okTo L k)) (fun i => m - (intOf i).toNat)
  case atStart => exact ⟨0, Nat.zero_le _, rfl, fun x hx => by simp at hx⟩
  case round =>
    obtain ⟨k, hk, rfl, hr⟩ := hrel
    by_cases hlt : k < m
    · obtain ⟨b, o, hl1, rfl, hbl, hc0, hc1, hc2⟩ := Tasks.at_ H.out hlt
      have e1 : ((⟨(L[k]).path.toArray⟩ : ByteArray).size : Int) = ((L[k]).path.length : Int) := by rw [Lib.size_eq]
      have e2 : ((⟨(L[k]).text.toArray⟩ : ByteArray).size : Int) = ((L[k]).text.length : Int) := by rw [Lib.size_eq]
      have HOK : Hid (okTk L[k] = (decide ((L[k]).path.length ≤ 2000) && decide ((L[k]).text.length ≤ 2000))) := rfl
      generalize (⟨(L[k]).path.toArray⟩ : ByteArray) = sp at *
      generalize (⟨(L[k]).text.toArray⟩ : ByteArray) = st at *
      by_cases h1 : (L[k]).path.length ≤ 2000
      · have t1 : ¬ (2000 : Int) < sp.size := by omega
        by_cases h2 : (L[k]).text.length ≤ 2000
        · have HX := Lib.hid (ok_next hl1 hr.out (by rw [HOK.out, decide_eq_true h1, decide_eq_true h2]; rfl))
          have t2 : ¬ (2000 : Int) < st.size := by omega
          clear h1 h2 e1 e2
          go_wp2_with fail
          go_round
          case rel => exact ⟨k + 1, by omega, by go_num, HX⟩
          case measure => simp [intOf]; omega
        · have HX := Lib.hid (ok_no (many := many) hl1 (by rw [HOK.out, decide_eq_false h2, Bool.and_false]))
          have t2 : (2000 : Int) < st.size := by omega
          clear h1 h2 e1 e2
          go_wp2_with fail
          go_ret
          exact ⟨ret_bool HX.out.symm, rfl⟩
      · have HX := Lib.hid (ok_no (many := many) hl1 (by rw [HOK.out, decide_eq_false h1, Bool.false_and]))
        have t1 : (2000 : Int) < sp.size := by omega
        clear h1 e1 e2
        go_wp2_with fail
        go_ret
        exact ⟨ret_bool HX.out.symm, rfl⟩
    · have HX := Lib.hid (ok_end (many := many) (by rw [HM.out]; exact hlt) hr.out)
      rw [HM.out] at HX
      go_wp2_with fail
      go_ret
      exact ⟨ret_bool HX.out.symm, rfl⟩
theorem wrote_after {Rep : (Nat → Prop) → World → Value → Tr → Prop} {F : Nat → Prop} {w w1 w' : World} {v : Value} {t' : Tr} (hb : Below w.heap.size w w1) (h : Wrote Rep F v t' w1 w') : Wrote Rep F v t' w w' := by
  obtain ⟨F', h1, h2, h3⟩ := h
  exact ⟨F', h1, (Turns.new hb).trans h2, fun k hk => (h3 k hk).imp id (fun h => Nat.le_trans hb.size h)⟩
set_option maxHeartbeats 2000000 in
theorem do9_any {Rep : (Nat → Prop) → World → Value → Tr → Prop} (C : Trees Rep) (S : Posix Rep) {F : Nat → Prop} {w : World} {v : Value} {t : Tr} (P : Rep F w v t) (G : Good t) (k : Int) (p x : ByteArray) (hp : p.size ≤ 1048576) (hx : x.size ≤ 1048576) :
    Calls Tryz.prog 10 #[v, .agg #[.int .i64 k, .string p, .string x]] w fun e w' => e = .returned (.int .i64 (doTask t k p.data.toList x.data.toList).2) ∧ Wrote Rep F v (doTask t k p.data.toList x.data.toList).1 w w' := by
  obtain ⟨w1, hw1⟩ : ∃ w1 : World, w.alloc (.cells #[.int .i64 k, .string p, .string x] 36) = w1 := ⟨_, rfl⟩
  have B1 : Hid (Below w.heap.size w w1) := by show Below _ _ _; rw [← hw1]; exact W07.below_one _ _
  have TB : Hid (TaskBox w1 w.heap.size k p x) := by show TaskBox _ _ _ _ _; rw [← hw1]; exact heap_top _ _
  have t0 := TB.out.c0
  have t1 := TB.out.c1
  have t2 := TB.out.c2
  have P1 := Lib.hid (C.below P B1.out)
  have HG := Lib.hid G
  have HX : Hid (doTask t k p.data.toList x.data.toList = if k = 1 then putAt t p.data.toList 1 [] else if k = 2 then cutAt t p.data.toList true else if k = 3 then putAt t p.data.toList 3 x.data.toList else if k = 4 then cutAt t p.data.toList false else if k = 5 then M09.rename t p.data.toList x.data.toList else if k = 6 then M09.write t p.data.toList x.data.toList else (t, 2)) := rfl
  have HP := Lib.hid P
  clear P G
  generalize doTask t k p.data.toList x.data.toList = R at *
  by_cases h1 : k = 1
  · have tk : (k == 1) = true := by simp [h1]
    have HX : Hid (R = putAt t p.data.toList 1 []) := HX.out.trans (if_pos h1)
    have HC := Lib.hid (S.mkdir P1.out HG.out p hp)
    generalize putAt t p.data.toList 1 [] = Q at *
    clear h1
    go_enter Tryz.func10, Tryz.ntmps10
    go_wp2_with fail
    clear hw1
    refine HC.out.mono ?_
    rintro e w2 ⟨rfl, hwr⟩
    have W2 := Lib.hid (wrote_after B1.out hwr)
    clear hwr
    go_wp2_with fail
    go_ret
    rw [HX.out]
    exact ⟨rfl, W2.out⟩
  · have tk1 : (k == 1) = false := by simpa using h1
    replace HX := Lib.hid (HX.out.trans (if_neg h1))
    clear h1
    by_cases h2 : k = 2
    · have tk : (k == 2) = true := by simp [h2]
      have HX : Hid (R = cutAt t p.data.toList true) := HX.out.trans (if_pos h2)
      have HC := Lib.hid (S.rmdir P1.out HG.out p hp)
      generalize cutAt t p.data.toList true = Q at *
      clear h2
      go_enter Tryz.func10, Tryz.ntmps10
      go_wp2_with fail
      clear hw1
      refine HC.out.mono ?_
      rintro e w2 ⟨rfl, hwr⟩
      have W2 := Lib.hid (wrote_after B1.out hwr)
      clear hwr
      go_wp2_with fail
      go_ret
      rw [HX.out]
      exact ⟨rfl, W2.out⟩
    · have tk2 : (k == 2) = false := by simpa using h2
      replace HX := Lib.hid (HX.out.trans (if_neg h2))
      clear h2
      by_cases h3 : k = 3
      · have tk : (k == 3) = true := by simp [h3]
        have HX : Hid (R = putAt t p.data.toList 3 x.data.toList) := HX.out.trans (if_pos h3)
        have HC := Lib.hid (S.symlink P1.out HG.out x p hx hp)
        generalize putAt t p.data.toList 3 x.data.toList = Q at *
        clear h3
        go_enter Tryz.func10, Tryz.ntmps10
        go_wp2_with fail
        clear hw1
        refine HC.out.mono ?_
        rintro e w2 ⟨rfl, hwr⟩
        have W2 := Lib.hid (wrote_after B1.out hwr)
        clear hwr
        go_wp2_with fail
        go_ret
        rw [HX.out]
        exact ⟨rfl, W2.out⟩
      · have tk3 : (k == 3) = false := by simpa using h3
        replace HX := Lib.hid (HX.out.trans (if_neg h3))
        clear h3
        by_cases h4 : k = 4
        · have tk : (k == 4) = true := by simp [h4]
          have HX : Hid (R = cutAt t p.data.toList false) := HX.out.trans (if_pos h4)
          have HC := Lib.hid (S.unlink P1.out HG.out p hp)
          generalize cutAt t p.data.toList false = Q at *
          clear h4
          go_enter Tryz.func10, Tryz.ntmps10
          go_wp2_with fail
          clear hw1
          refine HC.out.mono ?_
          rintro e w2 ⟨rfl, hwr⟩
          have W2 := Lib.hid (wrote_after B1.out hwr)
          clear hwr
          go_wp2_with fail
          go_ret
          rw [HX.out]
          exact ⟨rfl, W2.out⟩
        · have tk4 : (k == 4) = false := by simpa using h4
          replace HX := Lib.hid (HX.out.trans (if_neg h4))
          clear h4
          by_cases h5 : k = 5
          · have tk : (k == 5) = true := by simp [h5]
            have HX : Hid (R = M09.rename t p.data.toList x.data.toList) := HX.out.trans (if_pos h5)
            have HC := Lib.hid (S.rename P1.out HG.out p x hp hx)
            generalize M09.rename t p.data.toList x.data.toList = Q at *
            clear h5
            go_enter Tryz.func10, Tryz.ntmps10
            go_wp2_with fail
            clear hw1
            refine HC.out.mono ?_
            rintro e w2 ⟨rfl, hwr⟩
            have W2 := Lib.hid (wrote_after B1.out hwr)
            clear hwr
            go_wp2_with fail
            go_ret
            rw [HX.out]
            exact ⟨rfl, W2.out⟩
          · have tk5 : (k == 5) = false := by simpa using h5
            replace HX := Lib.hid (HX.out.trans (if_neg h5))
            clear h5
            by_cases h6 : k = 6
            · have tk : (k == 6) = true := by simp [h6]
              have HX : Hid (R = M09.write t p.data.toList x.data.toList) := HX.out.trans (if_pos h6)
              have HC := Lib.hid (S.write P1.out HG.out p x hp hx)
              generalize M09.write t p.data.toList x.data.toList = Q at *
              clear h6
              go_enter Tryz.func10, Tryz.ntmps10
              go_wp2_with fail
              clear hw1
              refine HC.out.mono ?_
              rintro e w2 ⟨rfl, hwr⟩
              have W2 := Lib.hid (wrote_after B1.out hwr)
              clear hwr
              go_wp2_with fail
              go_ret
              rw [HX.out]
              exact ⟨rfl, W2.out⟩
            · have tk6 : (k == 6) = false := by simpa using h6
              replace HX := Lib.hid (HX.out.trans (if_neg h6))
              clear h6
              have HX : Hid (R = (t, 2)) := HX.out
              go_enter Tryz.func10, Tryz.ntmps10
              go_wp2_with fail
              clear hw1
              go_ret
              rw [HX.out]
              exact ⟨rfl, F, C.below HP.out B1.out, Turns.new B1.out, fun _ => Or.inl⟩
end Go.Proofs.YtdnedeeocpaolaaGreatDoor.W09
/-
  Arguments that are tasks, or slices of them, opened. For this program's types; no condition but those that each theorem bears.
-/
namespace Go.Proofs.YtdnedeeocpaolaaGreatDoor.W09
open Go Go.RowKit Go.ChangeShapes Go.WideShapes Go.Deep Go.Joins
open Go.Proofs.YtdnedeeocpaolaaGreatDoor.Strs (strV)
open Go.Proofs.YtdnedeeocpaolaaGreatDoor.Recs
open Go.Proofs.YtdnedeeocpaolaaGreatDoor.Kit (mk_bytes)

theorem tk_struct : ∃ f0 f1 f2 : Field, Tryz.prog.underlying 36 = some (.struct #[f0, f1, f2]) ∧ f0.type = 3 ∧ f1.type = 9 ∧ f2.type = 9 ∧ oneCellFields Tryz.prog #[f0, f1, f2] = true :=
  ⟨_, _, _, Tryz.underlying36, rfl, rfl, rfl, by kernel_rfl⟩
theorem tk_cells : Tryz.prog.cellsOf 36 = 3 := by kernel_rfl
theorem three {α : Type} : ∀ {l : List α}, l.length = 3 → ∃ a b c, l = [a, b, c]
  | [a, b, c], _ => ⟨a, b, c, rfl⟩
section
variable {H : Type} {enc : TypeId × Value → H} {W : World} {base : Nat}
theorem tk_read (n : Nat) (cs : List Value) (x : DataW H × List MemPlace) (hl : cs.length = 3) (h : DataW.trod enc Tryz.prog W 0 (fun _ => true) true n 36 cs = some x) : ∃ r : Tk, cs = tkC r ∧ r.text.length ≤ maxLen := by
  obtain ⟨f0, f1, f2, hs, e0, e1, e2, hone⟩ := tk_struct
  obtain ⟨o0, k0⟩ := hone_of hone 0 f0 rfl
  obtain ⟨o1, k1⟩ := hone_of hone 1 f1 rfl
  obtain ⟨o2, k2⟩ := hone_of hone 2 f2 rfl
  obtain ⟨xs, m, _, _, _, hxl, hf⟩ := DataW.trod_struct hs h
  have hxl3 : xs.length = 3 := hxl
  have g0 := hf 0 f0 rfl
  have g1 := hf 1 f1 rfl
  have g2 := hf 2 f2 rfl
  rw [o0, k0, e0, List.getElem?_eq_getElem (by omega)] at g0
  rw [o1, k1, e1, List.getElem?_eq_getElem (by omega)] at g1
  rw [o2, k2, e2, List.getElem?_eq_getElem (by omega)] at g2
  obtain ⟨c0, c1, c2, rfl⟩ := three hl
  obtain ⟨z0, q0, _, _⟩ := DataW.trod_int Tryz.underlying3 g0
  obtain ⟨s1, q1, _, _⟩ := DataW.trod_string Tryz.underlying9 g1
  obtain ⟨s2, q2, _, hm⟩ := DataW.trod_string Tryz.underlying9 g2
  simp at q0 q1 q2
  subst q0 q1 q2
  refine ⟨⟨z0, s1.data.toList, s2.data.toList⟩, ?_, by rw [← Lib.size_eq]; exact hm⟩
  show _ = [_, strV s1.data.toList, strV s2.data.toList]
  unfold strV
  rw [mk_bytes, mk_bytes]
set_option maxRecDepth 100000 in
theorem open_task {v : Value} {d : DataW H} {p : List MemPlace} (hok : Value.okWide Tryz.prog W .any base 36 v) (h : DataW.Trod enc Tryz.prog W 0 (fun _ => true) true 36 v d p) :
    ∃ (k : Int) (a b : ByteArray), v = .agg #[.int .i64 k, .string a, .string b] ∧ b.size ≤ maxLen := by
  obtain ⟨f0, f1, f2, hs, -⟩ := tk_struct
  obtain ⟨cs, rfl, hsz⟩ := okWide_struct hs hok
  obtain ⟨fuel, hf⟩ := h
  obtain ⟨r, hr, hm⟩ := tk_read _ _ _ (by show cs.toList.length = 3; rw [Array.length_toList, hsz]; exact tk_cells) hf
  refine ⟨r.kind, ⟨r.path.toArray⟩, ⟨r.text.toArray⟩, ?_, by rw [Lib.size_eq]; exact hm⟩
  have hr2 : cs.toList = tkC r := hr
  have : cs = (tkC r).toArray := by rw [← hr2]
  rw [this]; rfl
set_option maxRecDepth 100000 in
theorem open_tasks {v : Value} {d : DataW H} {p : List MemPlace} (hok : Value.okWide Tryz.prog W .any base 23 v) (h : DataW.Trod enc Tryz.prog W 0 (fun _ => true) true 23 v d p) (hlt : ∀ x ∈ p, x.block < W.heap.size) :
    ∃ L : List Tk, Tasks W.heap.size W v L ∧ ∀ r ∈ L, r.text.length ≤ maxLen :=
  open_recs Tryz.underlying23 tk_cells (by omega) tk_read hok h hlt
end
end Go.Proofs.YtdnedeeocpaolaaGreatDoor.W09
