/-
  Texts joined, in build order, each with its own comment and its own conditions: W08Lives, StrCut.
-/
import Derived.Test.YtmpjjfhmkfchfaaDoorJ08
import Derived.Test.YtmpjjfhmkfchfaaDoorJ01
/-
  Layer 8 (seek), a walk of the law's lives over the contracts: it returns true; nothing that was there is changed.
-/
namespace Go.Proofs.YtmpjjfhmkfchfaaDoor.W08
set_option maxRecDepth 100000
open Go Go.RowKit Go.Proofs.YtmpjjfhmkfchfaaDoor.Strs Go.Proofs.YtmpjjfhmkfchfaaDoor.Recs Go.Proofs.YtmpjjfhmkfchfaaDoor.Range
open Go.Proofs.YtmpjjfhmkfchfaaDoor.M07 (Tr Nd nodeAt inDir Right put put_right)
open Go.Proofs.YtmpjjfhmkfchfaaDoor.M08
open Go.Proofs.YtmpjjfhmkfchfaaDoor.M03 (check)
open Go.Proofs.YtmpjjfhmkfchfaaDoor.W07 (Small Trees Nodes)
open Go.Proofs.YtmpjjfhmkfchfaaDoor.Kit (ret_str ret_bool ret_int mk_of mk_bytes ba_ext below_draws on)

def fourN : List Sn := [⟨-1, [97], 1, []⟩, ⟨0, [98], 1, []⟩, ⟨1, [99], 2, [120]⟩, ⟨-1, [108], 3, [97, 47, 98]⟩]
def fourT : Tr := ⟨[⟨1, 1, [], 1, []⟩, ⟨2, 1, [97], 1, []⟩, ⟨3, 2, [98], 1, []⟩, ⟨4, 3, [99], 2, [120]⟩, ⟨5, 1, [108], 3, [97, 47, 98]⟩], 5⟩
theorem four_made : (made fourN).1 = fourT := by rfl
theorem four_good : Good fourT ∧ Right fourT := by rw [← four_made]; exact made_good (by decide)
theorem four_find : M08.find fourT [108, 47, 99] false = (4, 0) := by
  have e : goTo fourT 1 [[108], [99]] false 0 = (4, 1, 0) := by
    rw [go_link (by rfl) (by decide) (by rfl) (by decide) (by decide) (by decide)]
    show goTo fourT 1 [[97], [98], [99]] false 1 = _
    rw [go_on (by rfl) (by decide) (by rfl) (by decide) (Or.inl (by decide))]
    show goTo fourT 2 [[98], [99]] false 1 = _
    rw [go_on (by rfl) (by decide) (by rfl) (by decide) (Or.inl (by decide))]
    show goTo fourT 3 [[99]] false 1 = _
    rw [go_on (by rfl) (by decide) (by rfl) (by decide) (Or.inl (by decide))]
    show goTo fourT 4 [] false 1 = _
    rw [go_nil]
  unfold M08.find
  rw [if_neg (by decide), if_neg (by decide)]
  show ((goTo fourT 1 [[108], [99]] false 0).1, _) = _
  rw [show M04.parts [108, 47, 99] = [[108], [99]] from rfl, e]
theorem four_real : real fourT 4 = ([47, 97, 47, 98, 47, 99], true) := by
  have hR := four_good.2
  have n2 : names fourT 2 = [[97]] := by rw [names_next hR (by decide) (by decide)]; show names fourT 1 ++ _ = _; rw [names_root]; rfl
  have n3 : names fourT 3 = [[97], [98]] := by rw [names_next hR (by decide) (by decide)]; show names fourT 2 ++ _ = _; rw [n2]; rfl
  have n4 : names fourT 4 = [[97], [98], [99]] := by rw [names_next hR (by decide) (by decide)]; show names fourT 3 ++ _ = _; rw [n3]; rfl
  unfold real
  rw [if_neg (by decide), n4]; rfl
theorem four_nodes (w : World) (t : TypeId) : Snodes (w.heap.size + 1) (w.alloc (.cells #[.int .i64 (-1), .string ⟨#[97]⟩, .int .i64 1, .string ⟨#[]⟩, .int .i64 0, .string ⟨#[98]⟩, .int .i64 1, .string ⟨#[]⟩, .int .i64 1, .string ⟨#[99]⟩, .int .i64 2, .string ⟨#[120]⟩, .int .i64 (-1), .string ⟨#[108]⟩, .int .i64 3, .string ⟨#[97, 47, 98]⟩] t)) (.slice (some ⟨w.heap.size, 0, none⟩) 4 4) fourN := by
  refine ⟨_, 4, rfl, Nat.le_refl _, by decide, fun _ => ⟨_, rfl, Nat.lt_succ_self _, fun k hk j hj => ?_⟩⟩
  have hf := flat_at snC_len fourN k hk j hj
  have hlt : j < (snC fourN[k]).length := by rw [snC_len]; exact hj
  rw [List.getElem?_eq_getElem hlt] at hf ⊢
  exact cells_new w (fourN.flatMap snC) t (k * 4 + j) _ hf
set_option maxHeartbeats 2000000 in
theorem lives_over {Rep : (Nat → Prop) → World → Value → Tr → Prop} (C : Trees Rep) (S : Seeks Rep) (w : World) : Calls Tryd.prog 7 #[] w fun e w' => e = .returned (.bool true) ∧ Below w.heap.size w w' := by
  obtain ⟨w1, hw1⟩ : ∃ w1, w.alloc (.cells #[.int .i64 (-1), .string ⟨#[97]⟩, .int .i64 1, .string ⟨#[]⟩, .int .i64 0, .string ⟨#[98]⟩, .int .i64 1, .string ⟨#[]⟩, .int .i64 1, .string ⟨#[99]⟩, .int .i64 2, .string ⟨#[120]⟩, .int .i64 (-1), .string ⟨#[108]⟩, .int .i64 3, .string ⟨#[97, 47, 98]⟩] 51) = w1 := ⟨_, rfl⟩
  have hs : w1.heap.size = w.heap.size + 1 := by rw [← hw1]; exact World.size_alloc _ _
  have B1 : Hid (Below w.heap.size w w1) := by rw [← hw1]; exact (Below.refl _ _).alloc (Nat.le_refl _) _
  have HM := made_over C w1 (.slice (some ⟨w.heap.size, 0, none⟩) 4 4) fourN (by rw [hs, ← hw1]; exact four_nodes w _) (by decide) (by decide)
  rw [four_made] at HM
  have HM := Lib.hid HM
  clear hs
  go_enter Tryd.func7, Tryd.ntmps7
  go_wp2_with fail
  clear hw1
  refine HM.out.mono ?_
  rintro e w2 ⟨pv, u, F, rfl, hrep, hn, hF, hb⟩
  obtain ⟨Au, cu, rfl, -, -⟩ := hn.form
  have B2 := Lib.hid (on B1.out hb)
  have P3 := Lib.hid (C.below hrep ((Below.refl w2.heap.size w2).alloc (Nat.le_refl _) (.cells #[.slice Au fourT.L.length cu, .int .i64 fourT.last] 28)))
  have B3 := Lib.hid (B2.out.alloc B2.out.size (.cells #[.slice Au fourT.L.length cu, .int .i64 fourT.last] 28))
  obtain ⟨w3, hw3⟩ : ∃ w3, w2.alloc (.cells #[.slice Au fourT.L.length cu, .int .i64 fourT.last] 28) = w3 := ⟨_, rfl⟩
  rw [hw3] at P3 B3
  have HFD := S.find P3.out four_good.1 ⟨#[108, 47, 99]⟩ false (by decide)
  rw [show (⟨#[108, 47, 99]⟩ : ByteArray).data.toList = [108, 47, 99] from rfl, four_find] at HFD
  have HFD := Lib.hid HFD
  clear hrep hn hF hb HM
  go_wp2_with fail
  clear hw3
  refine HFD.out.mono ?_
  rintro e w4 ⟨rfl, hb4⟩
  have HRL := S.real (C.below P3.out hb4) four_good.1 4
  rw [four_real] at HRL
  have HRL := Lib.hid HRL
  have B4 := Lib.hid (on B3.out hb4)
  clear hb4 HFD
  go_wp2_with fail
  refine HRL.out.mono ?_
  rintro e w5 ⟨rfl, hb5⟩
  have B5 := Lib.hid (on B4.out hb5)
  clear hb5 HRL
  go_wp2_with fail
  go_ret
  exact ⟨rfl, B5.out⟩
end Go.Proofs.YtmpjjfhmkfchfaaDoor.W08
/-
  Slices of texts: the first ones left out, as the walk spells the cut's value. Plain lemmas on worlds, for every program; no condition but those that each theorem bears.
-/
namespace Go.Proofs.YtmpjjfhmkfchfaaDoor.Strs
open Go Go.RowKit

/-- the first ones left out, as the walk spells the cut's value -/
theorem Texts.drop {B : Nat} {w : World} {A : Option Addr} {n c k : Nat} {L : List (List UInt8)} (h : Texts B w (.slice A n c) L) (hk : k ≤ n) : Texts B w (.slice (A.map fun x => x.add k) (n - k) (c - k)) (L.drop k) := by
  obtain ⟨hn, hc1, hc2⟩ := h.count
  subst hn
  obtain ⟨A0, c0, e, h1, h2, h3⟩ := h
  cases e
  refine ⟨_, c - k, by rw [List.length_drop], by rw [List.length_drop]; omega, by omega, fun h0 => ?_⟩
  rw [List.length_drop] at h0
  obtain ⟨ad, rfl, hb, hc⟩ := h3 (by omega)
  refine ⟨ad.add k, rfl, by rw [block_add]; exact hb, fun j hj => ?_⟩
  rw [List.length_drop] at hj
  have := hc (k + j) (by omega)
  rw [show (ad.add k).add j = ad.add (k + j) by obtain ⟨b, o, s⟩ := ad; rw [show s = none by simpa [Addr.add] using World.cell?_spot (hc 0 (by omega)), Addr.add_lit, Addr.add_lit, Addr.add_lit, Nat.add_assoc]]
  rw [this]
  congr 2
  simp
theorem Texts.drop_all {B : Nat} {w : World} {A : Option Addr} {n k : Nat} {L : List (List UInt8)} (h : Texts B w (.slice A n k) L) (hk : k ≤ n) : Texts B w (.slice A (n - k) 0) (L.drop k) := by
  obtain ⟨hn, hc1, hc2⟩ := h.count
  subst hn
  obtain rfl : k = L.length := by omega
  refine ⟨A, 0, by rw [List.length_drop], by rw [List.length_drop]; omega, Nat.zero_le _, fun h0 => ?_⟩
  rw [List.length_drop] at h0
  omega
end Go.Proofs.YtmpjjfhmkfchfaaDoor.Strs
