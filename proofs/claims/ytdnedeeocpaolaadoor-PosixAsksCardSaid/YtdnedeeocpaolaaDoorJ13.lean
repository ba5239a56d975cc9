/-
  Texts joined, in build order, each with its own comment and its own conditions: W08Lives, W02Same.
-/
import Derived.Test.YtdnedeeocpaolaaDoorJ12
import Derived.Test.YtdnedeeocpaolaaDoorJ01
import Derived.Test.YtdnedeeocpaolaaDoorChecked
import Derived.WalkSpells
import Derived.WalkLawsBesides
import Derived.Deep.QuietTactic
import Derived.BigQuiet
/-
  Layer 8 (seek), a walk of the law's lives over the contracts: it returns true; nothing that was there is changed.
-/
namespace Go.Proofs.YtdnedeeocpaolaaDoor.W08
open Go Go.RowKit Go.Proofs.YtdnedeeocpaolaaDoor.Strs Go.Proofs.YtdnedeeocpaolaaDoor.Recs Go.Proofs.YtdnedeeocpaolaaDoor.Range
open Go.Proofs.YtdnedeeocpaolaaDoor.M07 (Tr Nd nodeAt inDir Right put put_right)
open Go.Proofs.YtdnedeeocpaolaaDoor.M08
open Go.Proofs.YtdnedeeocpaolaaDoor.M03 (check)
open Go.Proofs.YtdnedeeocpaolaaDoor.W07 (Small Trees Nodes)
open Go.Proofs.YtdnedeeocpaolaaDoor.Kit (ret_str ret_bool ret_int mk_of mk_bytes ba_ext below_draws on)

def fourN : List Sn := [⟨-1, [97], 1, []⟩, ⟨0, [98], 1, []⟩, ⟨1, [99], 2, [120]⟩, ⟨-1, [108], 3, [97, 47, 98]⟩]
def fourT : Tr := ⟨[⟨1, 1, [], 1, []⟩, ⟨2, 1, [97], 1, []⟩, ⟨3, 2, [98], 1, []⟩, ⟨4, 3, [99], 2, [120]⟩, ⟨5, 1, [108], 3, [97, 47, 98]⟩], 5⟩
theorem four_made : (made fourN).1 = fourT := by rfl
theorem four_good : Good fourT ∧ Right fourT := by rw [← four_made]; exact made_good (by decide)
theorem four_find : M08.find fourT [108, 47, 99] false = (4, 0) := by
  have e : goTo fourT 1 [[108], [99]] false 0 = (4, 1, 0) := by
    rw [go_link (by rfl) (by decide) (by rfl) (by decide) (by decide) (by decide)]
    show goTo fourT 1 [[97], [98], [99]] false 1 = _
    rw [go_on (by rfl) (by decide) (by rfl) (by decide) (Or.inl (by decide))]
    show goTo fourT 2 [[98], [99]] false 1 = _
    rw [go_on (by rfl) (by decide) (by rfl) (by decide) (Or.inl (by decide))]
    show goTo fourT 3 [[99]] false 1 = _
    rw [go_on (by rfl) (by decide) (by rfl) (by decide) (Or.inl (by decide))]
    show goTo fourT 4 [] false 1 = _
    rw [go_nil]
  unfold M08.find
  rw [if_neg (by decide), if_neg (by decide)]
  show ((goTo fourT 1 [[108], [99]] false 0).1, _) = _
  rw [show M04.parts [108, 47, 99] = [[108], [99]] from rfl, e]
theorem four_real : real fourT 4 = ([47, 97, 47, 98, 47, 99], true) := by
  have hR := four_good.2
  have n2 : names fourT 2 = [[97]] := by rw [names_next hR (by decide) (by decide)]; show names fourT 1 ++ _ = _; rw [names_root]; rfl
  have n3 : names fourT 3 = [[97], [98]] := by rw [names_next hR (by decide) (by decide)]; show names fourT 2 ++ _ = _; rw [n2]; rfl
  have n4 : names fourT 4 = [[97], [98], [99]] := by rw [names_next hR (by decide) (by decide)]; show names fourT 3 ++ _ = _; rw [n3]; rfl
  unfold real
  rw [if_neg (by decide), n4]; rfl
theorem four_nodes (w : World) (t : TypeId) : Snodes (w.heap.size + 1) (w.alloc (.cells #[.int .i64 (-1), .string ⟨#[97]⟩, .int .i64 1, .string ⟨#[]⟩, .int .i64 0, .string ⟨#[98]⟩, .int .i64 1, .string ⟨#[]⟩, .int .i64 1, .string ⟨#[99]⟩, .int .i64 2, .string ⟨#[120]⟩, .int .i64 (-1), .string ⟨#[108]⟩, .int .i64 3, .string ⟨#[97, 47, 98]⟩] t)) (.slice (some ⟨w.heap.size, 0, none⟩) 4 4) fourN := by
  refine ⟨_, 4, rfl, Nat.le_refl _, by decide, fun _ => ⟨_, rfl, Nat.lt_succ_self _, fun k hk j hj => ?_⟩⟩
  have hf := flat_at snC_len fourN k hk j hj
  have hlt : j < (snC fourN[k]).length := by rw [snC_len]; exact hj
  rw [List.getElem?_eq_getElem hlt] at hf ⊢
  exact cells_new w (fourN.flatMap snC) t (k * 4 + j) _ hf
end Go.Proofs.YtdnedeeocpaolaaDoor.W08
/-
  Layer 2 (words), a walk: the plain answer's Same: whether two slices of texts read alike; the world as it was, but for draws.
-/
namespace Go.Proofs.YtdnedeeocpaolaaDoor.W02
set_option maxRecDepth 100000
open Go Go.RowKit Go.Proofs.YtdnedeeocpaolaaDoor.Strs

theorem ret_bool {a b : Bool} (h : a = b) : Ending.returned (.bool a) = .returned (.bool b) := by rw [h]
theorem same_upto {La Lb : List (List UInt8)} {k : Nat} (hl : La.length = Lb.length) (hk : ¬ k < La.length) (h : ∀ j, j < k → La.getD j [] = Lb.getD j []) : La = Lb := by
  apply List.ext_getElem hl
  intro i h1 h2
  have := h i (by omega)
  simpa [List.getD_eq_getElem?_getD, h1, h2] using this
theorem differ_at {La Lb : List (List UInt8)} {k : Nat} (h : ¬ La.getD k [] = Lb.getD k []) : ¬ La = Lb := fun e => h (by rw [e])

set_option maxHeartbeats 400000 in
theorem same_any (va vb : Value) (La Lb : List (List UInt8)) (B : Nat) (w : World) (ha : Texts B w va La) (hb : Texts B w vb Lb) :
    Calls Tryd.prog 16 #[va, vb] w fun e w' => e = .returned (.bool (decide (La = Lb))) ∧ ∃ n, w' = w.drewN n := by
  obtain ⟨A, c, rfl, hA1, hA2⟩ := ha.form
  obtain ⟨A', c', rfl, hB1, hB2⟩ := hb.form
  unfold maxLen at hA2 hB2
  by_cases hl : La.length = Lb.length
  · have HL := Lib.hid hl
    have HA := Lib.hid ha
    have HB := Lib.hid (hl ▸ hb)
    have hne : ((La.length : Int) != (Lb.length : Int)) = false := by simp [hl]
    rw [← hl]
    rw [← hl] at hB1 hne
    clear hl ha hb hne
    generalize hn : La.length = n at *
    have HN := Lib.hid hn
    clear hn
    go_enter Tryd.func16, Tryd.ntmps16
    go_wp2
    go_loopw [5] (fun i wr => ∃ k : Nat, k ≤ n ∧ i = .int .i64 k ∧ Hid (∀ j, j < k → La.getD j [] = Lb.getD j []) ∧ ∃ q, wr = w.drewN q) (fun i _ => n - (intOf i).toNat)
    case atStart => exact ⟨0, Nat.zero_le _, rfl, fun j hj => by omega, 0, rfl⟩
    case round =>
      obtain ⟨k, hk, rfl, hr, q, rfl⟩ := hrel
      by_cases hlt : k < n
      · obtain ⟨ad, s, rfl, hbl, hc, hs⟩ := HA.out.at_ hlt
        obtain ⟨ad', s', rfl, hbl', hc', hs'⟩ := HB.out.at_ hlt
        have HS := Lib.hid hs
        have HS' := Lib.hid hs'
        clear hs hs'
        cases he : (s.toList == s'.toList) with
        | true =>
          have hE := Lib.hid (beq_iff_eq.1 he)
          go_wp2_with fail
          go_quiet (fail)
          go_wp2_with fail
          go_roundw
          case rel => exact ⟨k + 1, by omega, by go_num, fun j hj => by
            by_cases e : j = k
            · rw [e, ← HS.out, ← HS'.out, ← Lib.toList_data, ← Lib.toList_data]; exact hE.out
            · exact hr.out j (by omega), q + nq, by first | rfl | rw [World.drewN_drewN]⟩
          case measure => simp [intOf]; omega
        | false =>
          have hE := Lib.hid (beq_eq_false_iff_ne.1 he)
          go_wp2_with fail
          go_quiet (fail)
          go_wp2_with fail
          go_ret
          refine ⟨ret_bool ?_, q + nq, by first | rfl | rw [World.drewN_drewN]⟩
          have := differ_at (La := La) (Lb := Lb) (k := k) (by rw [← HS.out, ← HS'.out, ← Lib.toList_data, ← Lib.toList_data]; exact hE.out)
          simp [this]
      · go_wp2
        go_ret
        refine ⟨ret_bool ?_, q, rfl⟩
        have := same_upto (HN.out.trans HL.out) (k := k) (by rw [HN.out]; exact hlt) hr.out
        simp [this]
  · have hne : ((La.length : Int) != (Lb.length : Int)) = true := by simp; omega
    have hd : ¬ La = Lb := fun e => hl (by rw [e])
    go_enter Tryd.func16, Tryd.ntmps16
    go_wp2
    go_ret
    exact ⟨ret_bool (by simp [hd]), 0, rfl⟩
end Go.Proofs.YtdnedeeocpaolaaDoor.W02
