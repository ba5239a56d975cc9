/-
  Layer 7 (tree), a walk of the law's lives over the contracts: it returns true; nothing that was there is changed.
-/
import Derived.Test.YtelphegeeiocnaaW07Do
namespace Go.Proofs.Ytelphegeeiocnaa.W07
open Go Go.RowKit Go.Proofs.Ytelphegeeiocnaa.Strs Go.Proofs.Ytelphegeeiocnaa.Recs Go.Proofs.Ytelphegeeiocnaa.M07 Go.Proofs.Ytelphegeeiocnaa.Range
open Go.Proofs.Ytelphegeeiocnaa.Kit (ret_str ret_bool ret_int mk_of mk_bytes ba_ext below_draws on)

theorem wrote_below {Rep : (Nat → Prop) → World → Value → Tr → Prop} {F : Nat → Prop} {w w1 w2 : World} {v : Value} {t' : Tr} {n : Nat} (hb : Below n w w1) (hF : ∀ k, F k → n ≤ k) (hn : n ≤ w1.heap.size) (h : Wrote Rep F v t' w1 w2) :
    ∃ F', Rep F' w2 v t' ∧ (∀ k, F' k → n ≤ k) ∧ Below n w w2 := by
  obtain ⟨F', h1, h2, h3⟩ := h
  exact ⟨F', h1, fun k hk => by rcases h3 k hk with h | h; exact hF k h; omega, hb.trans (h2.below hF hn)⟩
theorem one_put : put M07.new 1 [97] 1 [] = (⟨[⟨1, 1, [], 1, []⟩, ⟨2, 1, [97], 1, []⟩], 2⟩, 2, 0) :=
  put_works (t := M07.new) (by decide +kernel)
theorem two_put : put ⟨[⟨1, 1, [], 1, []⟩, ⟨2, 1, [97], 1, []⟩], 2⟩ 2 [98] 2 [120] = (⟨[⟨1, 1, [], 1, []⟩, ⟨2, 1, [97], 1, []⟩, ⟨3, 2, [98], 2, [120]⟩], 3⟩, 3, 0) :=
  put_works (by decide +kernel)
set_option maxHeartbeats 1000000 in
theorem lives_tree {Rep : (Nat → Prop) → World → Value → Tr → Prop} (C : Trees Rep) (w : World) : Calls Try.prog 7 #[] w fun e w' => e = .returned (.bool true) ∧ Below w.heap.size w w' := by
  have HN := Lib.hid (C.new w)
  go_enter Try.func7, Try.ntmps7
  go_wp2_with fail
  refine HN.out.mono ?_
  rintro e w1 ⟨v, F1, rfl, H1, hF1, hb1⟩
  have HP1 := Lib.hid (C.put H1 ⟨by decide, by decide⟩ 1 ⟨#[97]⟩ 1 ⟨#[]⟩ (by decide))
  rw [show put M07.new 1 (⟨#[97]⟩ : ByteArray).data.toList 1 (⟨#[]⟩ : ByteArray).data.toList = _ from one_put] at HP1
  go_wp2_with fail
  refine HP1.out.mono ?_
  rintro e w2 ⟨rfl, hw2⟩
  obtain ⟨F2, H2, hF2, hb2⟩ := wrote_below hb1 hF1 hb1.size hw2
  have HP2 := Lib.hid (C.put H2 ⟨by decide, by decide⟩ 2 ⟨#[98]⟩ 2 ⟨#[120]⟩ (by decide))
  rw [show put ⟨[⟨1, 1, [], 1, []⟩, ⟨2, 1, [97], 1, []⟩], 2⟩ 2 (⟨#[98]⟩ : ByteArray).data.toList 2 (⟨#[120]⟩ : ByteArray).data.toList = _ from two_put] at HP2
  go_wp2_with fail
  refine HP2.out.mono ?_
  rintro e w3 ⟨rfl, hw3⟩
  obtain ⟨F3, H3, hF3, hb3⟩ := wrote_below hb2 hF2 hb2.size hw3
  have HDT := Lib.hid (C.data H3 ⟨by decide, by decide⟩ 3)
  go_wp2_with fail
  refine HDT.out.mono ?_
  rintro e w4 ⟨rfl, hb4⟩
  have HLN := Lib.hid (C.len (C.below H3 hb4) ⟨by decide, by decide⟩)
  go_wp2_with fail
  refine HLN.out.mono ?_
  rintro e w5 ⟨rfl, hb5⟩
  go_wp2_with fail
  go_ret
  exact ⟨rfl, on (on hb3 hb4) hb5⟩
end Go.Proofs.Ytelphegeeiocnaa.W07
