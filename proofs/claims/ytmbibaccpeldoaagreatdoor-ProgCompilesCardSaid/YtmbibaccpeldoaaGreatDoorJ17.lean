/-
  Texts joined, in build order, each with its own comment and its own conditions: W15RefReps, W15All, W15New, W15RefMade, W14Right.
-/
import Derived.Test.YtmbibaccpeldoaaGreatDoorJ13
import Derived.Test.YtmbibaccpeldoaaGreatDoorJ16
import Derived.Deep.Onto
import Derived.Test.YtmbibaccpeldoaaGreatDoorJ10
import Derived.Test.YtmbibaccpeldoaaGreatDoorJ06
import Derived.Test.YtmbibaccpeldoaaGreatDoorJ03
/-
  Layer 15 (prog), walk of the document's Steps of what is repeated, and of any piece. The conditions stand in the statements.
-/
namespace Go.Proofs.YtmbibaccpeldoaaGreatDoor.W15
set_option maxRecDepth 100000
open Go Go.RowKit Go.Proofs.YtmbibaccpeldoaaGreatDoor.Strs Go.Proofs.YtmbibaccpeldoaaGreatDoor.Recs Go.Proofs.YtmbibaccpeldoaaGreatDoor.M15
open Go.Proofs.YtmbibaccpeldoaaGreatDoor.M14 (Piece size sizes)
open Go.Proofs.YtmbibaccpeldoaaGreatDoor.W14 (Raw Raws rawA rawC PAt PAll PBox PLow box_arg load_piece load_at cell_block)
open Go.Proofs.YtmbibaccpeldoaaGreatDoor.Kit (below_draws on)

set_option maxHeartbeats 8000000 in
theorem rst_ever {p : Piece} {M : Nat} (hM : M ≤ 100) (hg : M15.Good (.mk 9 no [p] (M : Int) (-1))) (hgk : M15.Good p) (IH : RSt p) {w : World} {r : Raw} {a E Sz : Nat} (h : PLow w r (.mk 9 no [p] (M : Int) (-1))) (hS : size (.mk 9 no [p] (M : Int) (-1)) = Sz) (hSz : M * size p + size p + 2 = Sz) (hz : Sz ≤ 4000) (hE : a + Sz = E) (ha : E ≤ 8000) :
    Calls Tryz.prog 20 #[.agg (rawA r), .int .i64 a] w (Gets w (times (steps p) M a ++ star (steps p) E (a + (times (steps p) M a).length))) := by
  have HM := Lib.hid hM
  clear hM
  have HSZC := Lib.hid (fun w r hl => size_of hg w r hl)
  rw [hS] at HSZC
  have HLOW := Lib.hid h
  obtain ⟨A, c, raws, rfl, k1⟩ := h.parts
  have HIH := Lib.hid IH
  have HGK := Lib.hid hgk
  have hr : 1 ≤ c ∧ c ≤ 9223372036854775807 := k1.room
  obtain ⟨g1, o1, rk, rfl, hg1, q0, C0⟩ := kid_at k1 (i := 0) (Nat.lt_succ_self 0) rfl
  have HG1 := Lib.hid hg1
  have Q0 : Hid (PLow w rk p) := q0
  rw [show o1 + 0 * 5 = o1 by omega] at C0
  have C0 := Lib.hid C0
  obtain ⟨K, hK⟩ : ∃ K, size p = K := ⟨_, rfl⟩
  rw [hK] at hSz
  have HK := Lib.hid hK
  have HSU := Lib.hid hSz
  have HSUM := Lib.hid (show Sz ≤ 4000 ∧ a + Sz = E ∧ E ≤ 8000 from ⟨hz, hE, ha⟩)
  have hwE := wrap_sum hE (by clear hSz; omega)
  have hc1 := hr.1
  have hc2 := hr.2
  have HCR := Lib.hid hr
  have HIP : Hid (∀ (w : World) (a' : Nat), PLow w rk p → K ≤ 4000 → a' + K ≤ 8000 → Calls Tryz.prog 20 #[.agg (rawA rk), .int .i64 a'] w (Gets w (steps p a'))) := by
    intro w a' h1 h2 h3
    have h4 := HIH.out w rk a'
    rw [hK] at h4
    exact h4 h1 h2 h3
  clear h k1 IH hg hgk hS hSz hz hE ha hK hr q0 hg1
  go_enter Tryz.func20, Tryz.ntmps20
  go_wp2_with (first
    | (refine box_arg (r := ⟨9, no, some ⟨g1, o1, none⟩, 1, c, (M : Int), -1⟩) rfl (.tmp 0) rfl rfl ?_; intro w1 b1 e1 p1 l1 z1; have a0 := p1.c0; have P1 := Lib.hid p1; have L1 := Lib.hid l1; clear e1 p1 l1 z1; simp only at a0)
    | (refine load_piece (r := ⟨9, no, some ⟨g1, o1, none⟩, 1, c, (M : Int), -1⟩) rfl (.tmp 2) rfl rfl P1.out ?_))
  refine (HSZC.out _ _ (HLOW.out.below L1.out)).mono ?_
  rintro e w2 ⟨rfl, l2⟩
  have S0 := Lib.hid ((St.start (w0 := w) P1.out L1.out).below l2)
  clear l2 a0 hc1 hc2
  go_wp2_with fail
  simp only [hwE]
  clear hwE
  go_loopg [5, 12] M (fun gk s5 s12 wr => ∃ (i : Nat) (vo : Value), s5 = vo ∧ s12 = .int .i64 i ∧ Hid (i + gk = M) ∧ Hid (St w wr b1 ⟨9, no, some ⟨g1, o1, none⟩, 1, c, (M : Int), -1⟩ vo (times (steps p) i a)))
  case atStart => exact ⟨0, .slice none 0 0, rfl, rfl, by unfold Hid; omega, by unfold Hid; simp only [times]; exact S0.out⟩
  case round =>
    obtain ⟨i, vo, rfl, rfl, hig, SS⟩ := hrel
    have a2 := SS.out.box.c2
    have a3 := SS.out.box.c3
    simp only at a2 a3
    have hn1 := HCR.out.1
    have hn2 := HCR.out.2
    by_cases hi : i < M
    · have ti : (i : Int) < (M : Int) := by omega
      have hK4 : K ≤ 4000 := by have := HSU.out; have := HSUM.out.1; generalize M * K = MK at *; omega
      have hlen := steps_len HGK.out (by rw [HK.out]; exact hK4)
      rw [HK.out] at hlen
      have hmul : (i + 1) * K ≤ M * K := Nat.mul_le_mul_right _ hi
      rw [Nat.succ_mul] at hmul
      have hll := times_len hlen i a
      have hsn := times_snoc (steps p) i a
      rw [hll] at hsn
      obtain ⟨Q, hQ⟩ : ∃ Q, i * K = Q := ⟨_, rfl⟩
      rw [hQ] at hmul hll hsn
      obtain ⟨S, hSa⟩ : ∃ S, a + Q = S := ⟨_, rfl⟩
      rw [hSa] at hsn
      have hQK : Q + K ≤ Sz := by
        have := HSU.out
        generalize M * K = MK at *
        clear hlen hll hsn
        omega
      have HQB := Lib.hid (show Q + K ≤ 4000 ∧ S + K ≤ 8000 from by have := HSUM.out; clear hmul hlen hll hsn hQ; exact ⟨by omega, by omega⟩)
      have hw := wrap_sum hSa (by have := HQB.out; clear hmul hlen hll hsn hQ; omega)
      have HC := Lib.hid (HIP.out wr S (Q0.out.below SS.out.low) hK4 HQB.out.2)
      have HX : Hid (times (steps p) (i + 1) a = times (steps p) i a ++ steps p S) := hsn
      have HL : Hid ((times (steps p) i a).length + (steps p S).length ≤ 1000000) := by unfold Hid; rw [hll, hlen S]; have := HQB.out; clear hw hmul hlen hll hsn hQ; omega
      obtain ⟨Ao, co, rfl, hco1, hco2⟩ := SS.out.form
      rw [hll] at hco1 SS ⊢
      have hwi : Hid (wrap64 ((i : Int) + 1) = ((i + 1 : Nat) : Int)) := by unfold Hid wrap64; have := HM.out; clear hw hmul hlen hll hsn hQ; omega
      have HI2 := Lib.hid hi
      have E0 := Lib.hid (cells_on C0.out HG1.out SS.out.low)
      clear hlen hmul hll hsn hQ hSa hQK hi hK4
      go_wp2_with (first | (refine load_at rfl (.tmp 150) rfl rfl (r := rk) E0.out ?_))
      refine HC.out.mono ?_
      rintro e w3 ⟨vs, rfl, o3, l3⟩
      have S2 := Lib.hid (SS.out.below l3)
      have R2 := Lib.hid (Recs.of_own insC_len rfl o3)
      clear o3 l3 a2 a3 hw
      go_wp2_with (first
        | (refine append_ins rfl (.tmp 147) (.tmp 156) rfl rfl rfl S2.out.own R2.out HL.out S2.out.low.size ?_; intro v4 w4 o4 p4; have S4 := Lib.hid (S2.out.put o4 p4); clear o4 p4))
      rw [← HX.out] at S4
      cases gk with
      | zero => exact absurd hig.out (by have := HI2.out; omega)
      | succ g =>
        go_wp2_with fail
        go_roundg g
        case measure => omega
        case rel => exact ⟨i + 1, v4, rfl, by first | rfl | exact congrArg (Value.int .i64) hwi.out, by have := hig.out; unfold Hid; omega, S4⟩
    · have ti : ¬ (i : Int) < (M : Int) := by omega
      have hie : i = M := by have := hig.out; omega
      subst hie
      clear hi
      have hK4 : K ≤ 4000 := by have := HSU.out; have := HSUM.out.1; generalize i * K = MK at *; omega
      have hlen := steps_len HGK.out (by rw [HK.out]; exact hK4)
      rw [HK.out] at hlen
      have hll := times_len hlen i a
      obtain ⟨Q, hQ⟩ : ∃ Q, i * K = Q := ⟨_, rfl⟩
      rw [hQ] at hll
      have HSU2 := HSU
      rw [hQ] at HSU2
      obtain ⟨hh, hhh⟩ : ∃ hh, a + Q = hh := ⟨_, rfl⟩
      obtain ⟨x1, hx1⟩ : ∃ x1, hh + 1 = x1 := ⟨_, rfl⟩
      have HB := Lib.hid (show hh + K + 2 = E ∧ E ≤ 8000 ∧ Q ≤ 4000 from by have := HSUM.out; have := HSU2.out; clear hll hlen hQ; exact ⟨by omega, by omega, by omega⟩)
      have HX1 := Lib.hid hx1
      have HPL := Lib.hid hlen
      have HLN := Lib.hid hll
      have hwh := wrap_sum hhh (by have := HB.out; clear hll hlen hQ; omega)
      have hwx := wrap_one hx1 (by have := HB.out; clear hll hlen hQ hwh; omega)
      have HFIN : Hid (times (steps p) i a ++ [(⟨6, ⟨#[]⟩, (x1 : Nat), (E : Nat)⟩ : Inst)] ++ steps p x1 ++ [(⟨8, ⟨#[]⟩, (hh : Nat), 0⟩ : Inst)] = times (steps p) i a ++ star (steps p) E (a + (times (steps p) i a).length)) := by
        unfold Hid
        rw [HLN.out, hhh, ← hx1]
        simp only [star, List.append_assoc, List.cons_append, List.nil_append]
        rfl
      have HL1 : Hid ((times (steps p) i a).length + [(⟨6, ⟨#[]⟩, (x1 : Nat), (E : Nat)⟩ : Inst)].length ≤ 1000000) := by unfold Hid; rw [HLN.out]; simp only [List.length_cons, List.length_nil]; have := HB.out; clear hll hlen hQ hwh hwx; omega
      have HL2 : Hid ((times (steps p) i a ++ [(⟨6, ⟨#[]⟩, (x1 : Nat), (E : Nat)⟩ : Inst)]).length + (steps p x1).length ≤ 1000000) := by unfold Hid; rw [List.length_append, HLN.out, HPL.out]; simp only [List.length_cons, List.length_nil]; have := HB.out; clear hll hlen hQ hwh hwx; omega
      have HL3 : Hid ((times (steps p) i a ++ [(⟨6, ⟨#[]⟩, (x1 : Nat), (E : Nat)⟩ : Inst)] ++ steps p x1).length + [(⟨8, ⟨#[]⟩, (hh : Nat), 0⟩ : Inst)].length ≤ 1000000) := by unfold Hid; rw [List.length_append, List.length_append, HLN.out, HPL.out]; simp only [List.length_cons, List.length_nil]; have := HB.out; clear hll hlen hQ hwh hwx; omega
      obtain ⟨Ao, co, rfl, hco1, hco2⟩ := SS.out.form
      rw [hll] at hco1 SS ⊢
      have a4 := SS.out.box.c4
      simp only at a4
      clear hlen hll hQ hhh hx1
      go_wp2_with (first
        | (refine slice_ins (r := ⟨6, ⟨#[]⟩, (x1 : Nat), (E : Nat)⟩) rfl (.tmp 169) rfl rfl ?_; intro w4 b4 e4 p4 l4 z4 o4; have R4 := Lib.hid p4; have S4 := Lib.hid (SS.out.below l4); clear e4 p4 l4 z4 o4)
        | (refine append_ins rfl (.tmp 165) (.tmp 170) rfl rfl rfl S4.out.own R4.out HL1.out S4.out.low.size ?_; intro v5 w5 o5 p5; have S5 := Lib.hid (S4.out.put o5 p5); clear o5 p5; clear a2 a3 a4; have a2 := S5.out.box.c2; simp only at a2; have e5 := Lib.hid (cells_on C0.out HG1.out S5.out.low))
        | (refine load_at rfl (.tmp 175) rfl rfl (r := rk) e5.out ?_))
      refine (HIP.out _ x1 (Q0.out.below S5.out.low) hK4 (by have := HB.out; have := HX1.out; clear hwh hwx; omega)).mono ?_
      rintro e w6 ⟨v6, rfl, o6, l6⟩
      have S6 := Lib.hid (S5.out.below l6)
      have R6 := Lib.hid (Recs.of_own insC_len rfl o6)
      clear o6 l6 a2 hwx
      go_wp2_with (first
        | (refine append_ins rfl (.tmp 172) (.tmp 179) rfl rfl rfl S6.out.own R6.out HL2.out S6.out.low.size ?_; intro v7 w7 o7 p7; have S7 := Lib.hid (S6.out.put o7 p7); clear o7 p7)
        | (refine slice_ins (r := ⟨8, ⟨#[]⟩, (hh : Nat), 0⟩) rfl (.tmp 183) rfl rfl ?_; intro w8 b8 e8 p8 l8 z8 o8; have R8 := Lib.hid p8; have S8 := Lib.hid (S7.out.below l8); clear e8 p8 l8 z8 o8)
        | (refine append_ins rfl (.tmp 181) (.tmp 184) rfl rfl rfl S8.out.own R8.out HL3.out S8.out.low.size ?_; intro v9 w9 o9 p9; have S9 := Lib.hid (S8.out.put o9 p9); clear o9 p9; have a3 := S9.out.box.c3; have a4 := S9.out.box.c4; simp only at a3 a4))
      rw [HFIN.out] at S9
      clear a3
      go_loopg [5, 13, 14] 1 (fun gk s5 s13 s14 wr => s5 = v9 ∧ s13 = .int .i64 hh ∧ s14 = .int .i64 i ∧ wr = w9)
      case atStart => exact ⟨rfl, by first | rfl | exact congrArg (Value.int .i64) hwh, rfl, rfl⟩
      case round =>
        obtain ⟨rfl, rfl, rfl, rfl⟩ := hrel
        have a4 := S9.out.box.c4
        simp only at a4
        have tlast : ¬ (i : Int) < -1 := by omega
        go_wp2_with fail
        go_ret
        exact S9.out.gets
set_option maxHeartbeats 8000000 in
theorem rst_upto {p : Piece} {M T D : Nat} (hM : M ≤ 100) (hT : M + D = T ∧ T ≤ 100) (hg : M15.Good (.mk 9 no [p] (M : Int) (T : Int))) (hgk : M15.Good p) (IH : RSt p) {w : World} {r : Raw} {a E Sz : Nat} (h : PLow w r (.mk 9 no [p] (M : Int) (T : Int))) (hS : size (.mk 9 no [p] (M : Int) (T : Int)) = Sz) (hSz : M * size p + D * (size p + 1) = Sz) (hz : Sz ≤ 4000) (hE : a + Sz = E) (ha : E ≤ 8000) (hK0 : 0 < M ∨ 0 < D → size p ≤ 4000) :
    Calls Tryz.prog 20 #[.agg (rawA r), .int .i64 a] w (Gets w (times (steps p) M a ++ maybe (steps p) E D (a + (times (steps p) M a).length))) := by
  have HM := Lib.hid hM
  have HTT := Lib.hid hT
  have HK0 := Lib.hid hK0
  clear hM hT hK0
  have HSZC := Lib.hid (fun w r hl => size_of hg w r hl)
  rw [hS] at HSZC
  have HLOW := Lib.hid h
  obtain ⟨A, c, raws, rfl, k1⟩ := h.parts
  have HIH := Lib.hid IH
  have HGK := Lib.hid hgk
  have hr : 1 ≤ c ∧ c ≤ 9223372036854775807 := k1.room
  obtain ⟨g1, o1, rk, rfl, hg1, q0, C0⟩ := kid_at k1 (i := 0) (Nat.lt_succ_self 0) rfl
  have HG1 := Lib.hid hg1
  have Q0 : Hid (PLow w rk p) := q0
  rw [show o1 + 0 * 5 = o1 by omega] at C0
  have C0 := Lib.hid C0
  obtain ⟨K, hK⟩ : ∃ K, size p = K := ⟨_, rfl⟩
  rw [hK] at hSz HK0
  have HK := Lib.hid hK
  have HSU := Lib.hid hSz
  have HSUM := Lib.hid (show Sz ≤ 4000 ∧ a + Sz = E ∧ E ≤ 8000 from ⟨hz, hE, ha⟩)
  have hwE := wrap_sum hE (by clear hSz; omega)
  have hc1 := hr.1
  have hc2 := hr.2
  have HCR := Lib.hid hr
  have HIP : Hid (∀ (w : World) (a' : Nat), PLow w rk p → K ≤ 4000 → a' + K ≤ 8000 → Calls Tryz.prog 20 #[.agg (rawA rk), .int .i64 a'] w (Gets w (steps p a'))) := by
    intro w a' h1 h2 h3
    have h4 := HIH.out w rk a'
    rw [hK] at h4
    exact h4 h1 h2 h3
  clear h k1 IH hg hgk hS hSz hz hE ha hK hr q0 hg1
  go_enter Tryz.func20, Tryz.ntmps20
  go_wp2_with (first
    | (refine box_arg (r := ⟨9, no, some ⟨g1, o1, none⟩, 1, c, (M : Int), (T : Int)⟩) rfl (.tmp 0) rfl rfl ?_; intro w1 b1 e1 p1 l1 z1; have a0 := p1.c0; have P1 := Lib.hid p1; have L1 := Lib.hid l1; clear e1 p1 l1 z1; simp only at a0)
    | (refine load_piece (r := ⟨9, no, some ⟨g1, o1, none⟩, 1, c, (M : Int), (T : Int)⟩) rfl (.tmp 2) rfl rfl P1.out ?_))
  refine (HSZC.out _ _ (HLOW.out.below L1.out)).mono ?_
  rintro e w2 ⟨rfl, l2⟩
  have S0 := Lib.hid ((St.start (w0 := w) P1.out L1.out).below l2)
  clear l2 a0 hc1 hc2
  go_wp2_with fail
  simp only [hwE]
  clear hwE
  go_loopg [5, 12] M (fun gk s5 s12 wr => ∃ (i : Nat) (vo : Value), s5 = vo ∧ s12 = .int .i64 i ∧ Hid (i + gk = M) ∧ Hid (St w wr b1 ⟨9, no, some ⟨g1, o1, none⟩, 1, c, (M : Int), (T : Int)⟩ vo (times (steps p) i a)))
  case atStart => exact ⟨0, .slice none 0 0, rfl, rfl, by unfold Hid; omega, by unfold Hid; simp only [times]; exact S0.out⟩
  case round =>
    obtain ⟨i, vo, rfl, rfl, hig, SS⟩ := hrel
    have a2 := SS.out.box.c2
    have a3 := SS.out.box.c3
    simp only at a2 a3
    have hn1 := HCR.out.1
    have hn2 := HCR.out.2
    by_cases hi : i < M
    · have ti : (i : Int) < (M : Int) := by omega
      have hK4 : K ≤ 4000 := HK0.out (.inl (Nat.lt_of_le_of_lt (Nat.zero_le _) hi))
      have hlen := steps_len HGK.out (by rw [HK.out]; exact hK4)
      rw [HK.out] at hlen
      have hmul : (i + 1) * K ≤ M * K := Nat.mul_le_mul_right _ hi
      rw [Nat.succ_mul] at hmul
      have hll := times_len hlen i a
      have hsn := times_snoc (steps p) i a
      rw [hll] at hsn
      obtain ⟨Q, hQ⟩ : ∃ Q, i * K = Q := ⟨_, rfl⟩
      rw [hQ] at hmul hll hsn
      obtain ⟨S, hSa⟩ : ∃ S, a + Q = S := ⟨_, rfl⟩
      rw [hSa] at hsn
      have hQK : Q + K ≤ Sz := by
        have := HSU.out
        generalize M * K = MK at *
        clear hlen hll hsn
        generalize D * (K + 1) = DK at *; omega
      have HQB := Lib.hid (show Q + K ≤ 4000 ∧ S + K ≤ 8000 from by have := HSUM.out; clear hmul hlen hll hsn hQ; exact ⟨by omega, by omega⟩)
      have hw := wrap_sum hSa (by have := HQB.out; clear hmul hlen hll hsn hQ; omega)
      have HC := Lib.hid (HIP.out wr S (Q0.out.below SS.out.low) hK4 HQB.out.2)
      have HX : Hid (times (steps p) (i + 1) a = times (steps p) i a ++ steps p S) := hsn
      have HL : Hid ((times (steps p) i a).length + (steps p S).length ≤ 1000000) := by unfold Hid; rw [hll, hlen S]; have := HQB.out; clear hw hmul hlen hll hsn hQ; omega
      obtain ⟨Ao, co, rfl, hco1, hco2⟩ := SS.out.form
      rw [hll] at hco1 SS ⊢
      have hwi : Hid (wrap64 ((i : Int) + 1) = ((i + 1 : Nat) : Int)) := by unfold Hid wrap64; have := HM.out; clear hw hmul hlen hll hsn hQ; omega
      have HI2 := Lib.hid hi
      have E0 := Lib.hid (cells_on C0.out HG1.out SS.out.low)
      clear hlen hmul hll hsn hQ hSa hQK hi hK4
      go_wp2_with (first | (refine load_at rfl (.tmp 150) rfl rfl (r := rk) E0.out ?_))
      refine HC.out.mono ?_
      rintro e w3 ⟨vs, rfl, o3, l3⟩
      have S2 := Lib.hid (SS.out.below l3)
      have R2 := Lib.hid (Recs.of_own insC_len rfl o3)
      clear o3 l3 a2 a3 hw
      go_wp2_with (first
        | (refine append_ins rfl (.tmp 147) (.tmp 156) rfl rfl rfl S2.out.own R2.out HL.out S2.out.low.size ?_; intro v4 w4 o4 p4; have S4 := Lib.hid (S2.out.put o4 p4); clear o4 p4))
      rw [← HX.out] at S4
      cases gk with
      | zero => exact absurd hig.out (by have := HI2.out; omega)
      | succ g =>
        go_wp2_with fail
        go_roundg g
        case measure => omega
        case rel => exact ⟨i + 1, v4, rfl, by first | rfl | exact congrArg (Value.int .i64) hwi.out, by have := hig.out; unfold Hid; omega, S4⟩
    · have ti : ¬ (i : Int) < (M : Int) := by omega
      have hie : i = M := by have := hig.out; omega
      subst hie
      clear hi
      obtain ⟨Nl, hNl⟩ : ∃ Nl, (times (steps p) i a).length = Nl := ⟨_, rfl⟩
      have hND : Nl + D * (K + 1) = Sz := by
        have h9 := HSU.out
        by_cases q : 0 < i
        · have h1 := steps_len HGK.out (by rw [HK.out]; exact HK0.out (.inl q))
          rw [HK.out] at h1
          rw [← hNl, times_len h1]; exact h9
        · obtain rfl : i = 0 := by omega
          have h2 : Nl = 0 := by rw [← hNl]; rfl
          rw [h2, Nat.zero_add]
          rw [Nat.zero_mul, Nat.zero_add] at h9
          exact h9
      obtain ⟨hh, hhh⟩ : ∃ hh, a + Nl = hh := ⟨_, rfl⟩
      have HND := Lib.hid hND
      have HNL := Lib.hid hNl
      have HHH := Lib.hid hhh
      have HB := Lib.hid (show hh ≤ 8000 ∧ E ≤ 8000 from by have := HSUM.out; generalize D * (K + 1) = DK at *; clear hNl; exact ⟨by omega, by omega⟩)
      have hwh := wrap_sum hhh (by have := HB.out; clear hNl hND; omega)
      obtain ⟨Ti, hTi⟩ : ∃ Ti, times (steps p) i a = Ti := ⟨_, rfl⟩
      rw [hTi] at HNL
      have HFIN : Hid (times (steps p) i a ++ maybe (steps p) E D (a + (times (steps p) i a).length) = Ti ++ maybe (steps p) E D hh) := by unfold Hid; rw [hNl, hTi, hhh]
      rw [hTi] at SS
      obtain ⟨Ao, co, rfl, hco1, hco2⟩ := SS.out.form
      rw [HNL.out] at hco1 SS ⊢
      have a4 := SS.out.box.c4
      simp only at a4
      have tT : ¬ (T : Int) < 0 := by omega
      clear hNl hND hhh hTi
      go_wp2_with fail
      clear a2 a3 a4 tT
      go_loopg [5, 13, 14] D (fun gk s5 s13 s14 wr => ∃ (j q : Nat) (vo : Value), s5 = vo ∧ s14 = .int .i64 q ∧ Hid (q = i + j) ∧ Hid (j + gk = D) ∧ Hid (St w wr b1 ⟨9, no, some ⟨g1, o1, none⟩, 1, c, (i : Int), (T : Int)⟩ vo (Ti ++ maybe (steps p) E j hh)))
      case atStart => exact ⟨0, i, _, rfl, rfl, rfl, by unfold Hid; omega, by unfold Hid; simp only [maybe, List.append_nil]; exact SS.out⟩
      case round =>
        obtain ⟨j, q, vo, rfl, rfl, hq, hjg, S1⟩ := hrel
        have a2 := S1.out.box.c2
        have a4 := S1.out.box.c4
        simp only at a2 a4
        by_cases hj : j < D
        · have tq : (q : Int) < (T : Int) := by have := hq.out; have := HTT.out; omega
          have hK4 : K ≤ 4000 := HK0.out (.inr (Nat.lt_of_le_of_lt (Nat.zero_le _) hj))
          have hlen := steps_len HGK.out (by rw [HK.out]; exact hK4)
          rw [HK.out] at hlen
          have hmul : (j + 1) * (K + 1) ≤ D * (K + 1) := Nat.mul_le_mul_right _ hj
          rw [Nat.succ_mul] at hmul
          have hml := maybe_len hlen E j hh
          have hsn := maybe_snoc hlen E j hh
          obtain ⟨P, hP⟩ : ∃ P, j * (K + 1) = P := ⟨_, rfl⟩
          rw [hP] at hmul hml hsn
          obtain ⟨h2, hh2⟩ : ∃ h2, hh + P = h2 := ⟨_, rfl⟩
          rw [hh2] at hsn
          obtain ⟨x1, hx1⟩ : ∃ x1, h2 + 1 = x1 := ⟨_, rfl⟩
          rw [hx1] at hsn
          obtain ⟨NN, hNN⟩ : ∃ NN, Nl + P = NN := ⟨_, rfl⟩
          have hll : (Ti ++ maybe (steps p) E j hh).length = NN := by rw [List.length_append, HNL.out, hml, hNN]
          have HB2 := Lib.hid (show x1 + K ≤ 8000 ∧ NN ≤ 4000 ∧ a + NN = h2 ∧ h2 ≤ 8000 from by
            have b1 := HND.out
            have b2 := HSUM.out
            have b3 := HHH.out
            generalize D * (K + 1) = DK at *
            clear hlen hml hsn hP hll hwh
            exact ⟨by omega, by omega, by omega, by omega⟩)
          have hw2 := wrap_sum HB2.out.2.2.1 (Nat.le_trans HB2.out.2.2.2 (by decide))
          have hwx := wrap_one hx1 (by have := HB2.out; clear hlen hml hsn hP hll hwh hw2 hmul; omega)
          have HX : Hid (Ti ++ maybe (steps p) E (j + 1) hh = Ti ++ maybe (steps p) E j hh ++ [(⟨6, ⟨#[]⟩, (x1 : Nat), (E : Nat)⟩ : Inst)] ++ steps p x1) := by
            unfold Hid
            rw [hsn]
            simp only [List.append_assoc, List.cons_append, List.nil_append]
            rfl
          have HL1 : Hid ((Ti ++ maybe (steps p) E j hh).length + [(⟨6, ⟨#[]⟩, (x1 : Nat), (E : Nat)⟩ : Inst)].length ≤ 1000000) := by unfold Hid; rw [hll]; simp only [List.length_cons, List.length_nil]; have := HB2.out; clear hlen hml hsn hP hll hwh hw2 hwx hmul; omega
          have HL2 : Hid ((Ti ++ maybe (steps p) E j hh ++ [(⟨6, ⟨#[]⟩, (x1 : Nat), (E : Nat)⟩ : Inst)]).length + (steps p x1).length ≤ 1000000) := by unfold Hid; rw [List.length_append, hll, hlen x1]; simp only [List.length_cons, List.length_nil]; have := HB2.out; clear hlen hml hsn hP hll hwh hw2 hwx hmul; omega
          have hwq : Hid (wrap64 ((q : Int) + 1) = ((q + 1 : Nat) : Int)) := by unfold Hid wrap64; have := hq.out; have := HTT.out; clear hlen hml hsn hP hll hwh hw2 hwx hmul; omega
          obtain ⟨Ao, co, rfl, hco1, hco2⟩ := S1.out.form
          rw [hll] at hco1 S1 ⊢
          have HJ2 := Lib.hid hj
          have hn1 := HCR.out.1
          have hn2 := HCR.out.2
          have HC := Lib.hid (fun w h => HIP.out w x1 h hK4 HB2.out.1)
          clear hlen hmul hml hsn hP hh2 hx1 hNN hll hj hwh hK4
          go_wp2_with (first
            | (refine slice_ins (r := ⟨6, ⟨#[]⟩, (x1 : Nat), (E : Nat)⟩) rfl (.tmp 202) rfl rfl ?_; intro w4 b4 e4 p4 l4 z4 o4; have R4 := Lib.hid p4; have S4 := Lib.hid (S1.out.below l4); clear e4 p4 l4 z4 o4)
            | (refine append_ins rfl (.tmp 198) (.tmp 203) rfl rfl rfl S4.out.own R4.out HL1.out S4.out.low.size ?_; intro v5 w5 o5 p5; have S5 := Lib.hid (S4.out.put o5 p5); clear o5 p5; clear a2 a4; have a2 := S5.out.box.c2; simp only at a2; have e5 := Lib.hid (cells_on C0.out HG1.out S5.out.low))
            | (refine load_at rfl (.tmp 208) rfl rfl (r := rk) e5.out ?_))
          refine (HC.out _ (Q0.out.below S5.out.low)).mono ?_
          rintro e w6 ⟨v6, rfl, o6, l6⟩
          have S6 := Lib.hid (S5.out.below l6)
          have R6 := Lib.hid (Recs.of_own insC_len rfl o6)
          clear o6 l6 a2 hwx hw2
          go_wp2_with (first
            | (refine append_ins rfl (.tmp 205) (.tmp 212) rfl rfl rfl S6.out.own R6.out HL2.out S6.out.low.size ?_; intro v7 w7 o7 p7; have S7 := Lib.hid (S6.out.put o7 p7); clear o7 p7))
          rw [← HX.out] at S7
          cases gk with
          | zero => exact absurd hjg.out (by have := HJ2.out; omega)
          | succ g =>
            go_wp2_with fail
            go_roundg g
            case measure => omega
            case rel => exact ⟨j + 1, q + 1, v7, rfl, by first | rfl | exact congrArg (Value.int .i64) hwq.out, by have := hq.out; unfold Hid; omega, by have := hjg.out; unfold Hid; omega, S7⟩
        · have tq : ¬ (q : Int) < (T : Int) := by have := hq.out; have := HTT.out; omega
          have hje : j = D := by have := hjg.out; omega
          subst hje
          rw [← HFIN.out] at S1
          clear hj
          go_wp2_with fail
          go_ret
          exact S1.out.gets
/-- the document's Steps of any piece -/
theorem rst_any {p : Piece} (h : M15.Good p) : RSt p := by
  induction h with
  | leaf k t h => exact rst_leaf h t
  | many k hk ks h2 hw ih =>
    intro w r a hl hz ha
    have IH : ∀ i (hi : i < ks.length), RSt ks[i] := fun i hi => ih ks[i] (List.getElem_mem hi)
    have hgd : M15.Good (.mk k no ks 0 0) := .many k hk ks h2 hw
    rcases hk with rfl | rfl
    · rw [M15.size_7] at hz ha
      have hs : ∀ q, q ∈ ks → ∀ a, (steps q a).length = size q := fun q hq => steps_len (hw q hq) (by have := M15.size_mem hq; omega)
      rw [steps_7]
      exact rst_seq IH hs hl (by omega) (by omega)
    · rw [steps_8]
      have hsz := M15.size_8 no ks 0 0
      obtain ⟨S, hS⟩ : ∃ S, size (.mk 8 no ks 0 0) = S := ⟨_, rfl⟩
      rw [hS] at hz ha hsz ⊢
      have hs : ∀ q, q ∈ ks → ∀ a, (steps q a).length = size q := fun q hq => steps_len (hw q hq) (by have := M15.size_mem hq; omega)
      obtain ⟨n, hn⟩ : ∃ n, ks.length = n + 1 := ⟨ks.length - 1, by omega⟩
      have hE : sizes ks + 2 * n = S := by
        rw [hn] at hsz
        omega
      exact rst_alt hgd hw IH hs hl hn hS hE hz rfl ha
  | rep p m t hm ht hw ih =>
    intro w r a hl hz ha
    have hgd : M15.Good (.mk 9 no [p] m t) := .rep p m t hm ht hw
    rw [steps_9]
    have hsz := M15.size_9 no p m t
    obtain ⟨S, hS⟩ : ∃ S, size (.mk 9 no [p] m t) = S := ⟨_, rfl⟩
    have hkid := fun hu => M15.rep_kid (p := p) (t := no) (m := m) (tp := t) (by rw [hS]; rw [hS] at hz; exact hz) hu hm.1
    rw [hS] at hz ha hsz ⊢
    obtain ⟨M, rfl⟩ : ∃ M : Nat, m = (M : Int) := ⟨m.toNat, by omega⟩
    unfold reps
    rw [Int.toNat_natCast] at hsz ⊢
    by_cases q : t = -1
    · subst q
      rw [if_pos rfl] at hsz ⊢
      exact rst_ever (by omega) hgd hw ih hl hS (by generalize M * size p = MK at *; omega) hz rfl ha
    · rw [if_neg q] at hsz ⊢
      obtain ⟨T, rfl⟩ : ∃ T : Nat, t = (T : Int) := ⟨t.toNat, by omega⟩
      obtain ⟨D, hD⟩ : ∃ D, M + D = T := ⟨T - M, by omega⟩
      have hTM : ((T : Int) - (M : Int)).toNat = D := by omega
      rw [hTM] at hsz ⊢
      exact rst_upto (by omega) ⟨hD, by omega⟩ hgd hw ih hl hS (by generalize M * size p = MK at *; generalize D * (size p + 1) = DK at *; omega) hz rfl ha (fun hu => hkid (by omega))
end Go.Proofs.YtmbibaccpeldoaaGreatDoor.W15
/-
  Layer 15 (prog), walk of the layer's lay: the steps of any piece are laid. The conditions stand in the statements.
-/
namespace Go.Proofs.YtmbibaccpeldoaaGreatDoor.W15
open Go Go.RowKit Go.Proofs.YtmbibaccpeldoaaGreatDoor.Strs Go.Proofs.YtmbibaccpeldoaaGreatDoor.Recs Go.Proofs.YtmbibaccpeldoaaGreatDoor.M15
open Go.Proofs.YtmbibaccpeldoaaGreatDoor.M14 (Piece size sizes)
open Go.Proofs.YtmbibaccpeldoaaGreatDoor.W14 (Raw Raws rawA rawC PAt PAll PBox)

theorem lay_leaf {k : Int} {t : ByteArray} (hk : 1 ≤ k ∧ k ≤ 6) : LayOk (M14.leaf k t) := by
  intro w b v L r h hp hl
  have hL : L.length ≤ 900000 := by omega
  have hp2 := hp
  unfold M14.leaf at hp2
  obtain ⟨A, c, raws, rfl, k1⟩ := parts_under hp2
  rw [steps_leaf hk]
  have : k = 1 ∨ k = 2 ∨ k = 3 ∨ k = 4 ∨ k = 5 ∨ k = 6 := by omega
  rcases this with rfl | rfl | rfl | rfl | rfl | rfl
  · rw [if_pos rfl, List.append_nil]
    exact lay_empty h hp fun w h1 _ => empty_any h1 _
  · exact lay_char h hp fun w h1 _ => char_any h1 hL _
  · exact lay_any h hp fun w h1 _ => any_any h1 hL _
  · exact lay_set h hp fun w h1 _ => set_any h1 hL _
  · exact lay_begin h hp fun w h1 _ => begin_any h1 hL _
  · exact lay_end h hp fun w h1 _ => end_any h1 hL _
/-- the steps of any piece are laid -/
theorem layOk {p : Piece} (h : M15.Good p) : LayOk p := by
  induction h with
  | leaf k t h => exact lay_leaf h
  | many k hk ks h2 hw ih =>
    intro w b v L r h hp hl
    obtain ⟨A, c, raws, rfl, k1⟩ := parts_under hp
    have IH : ∀ i (hi : i < ks.length), LayOk ks[i] := fun i hi => ih ks[i] (List.getElem_mem hi)
    rcases hk with rfl | rfl
    · rw [M15.size_7] at hl
      have hs : ∀ q, q ∈ ks → ∀ a, (steps q a).length = size q := fun q hq => steps_len (hw q hq) (by have := M15.size_mem hq; omega)
      rw [steps_7]
      exact lay_seq h hp fun w h1 h2 => by
        obtain ⟨A', c', raws', e, k2⟩ := parts_under h2
        cases e
        exact seq_any IH hs h1 k2 (by omega)
    · rw [steps_8]
      have hsz := M15.size_8 no ks 0 0
      obtain ⟨S, hS⟩ : ∃ S, size (.mk 8 no ks 0 0) = S := ⟨_, rfl⟩
      rw [hS] at hl hsz ⊢
      have hs : ∀ q, q ∈ ks → ∀ a, (steps q a).length = size q := fun q hq => steps_len (hw q hq) (by have := M15.size_mem hq; omega)
      obtain ⟨n, hn⟩ : ∃ n, ks.length = n + 1 := ⟨ks.length - 1, by omega⟩
      exact lay_alt h hp fun w h1 h2 => by
        obtain ⟨A', c', raws', e, k2⟩ := parts_under h2
        cases e
        have hE : L.length + (sizes ks + 2 * n) = L.length + S := by
          rw [hn] at hsz
          omega
        exact alt_any IH hs h1 k2 hn hE (by omega)
  | rep p m t hm ht hw ih =>
    intro w b v L r h hp hl
    obtain ⟨A, c, raws, rfl, k1⟩ := parts_under hp
    rw [steps_9]
    have hsz := M15.size_9 no p m t
    obtain ⟨S, hS⟩ : ∃ S, size (.mk 9 no [p] m t) = S := ⟨_, rfl⟩
    have hkid := fun hu => M15.rep_kid (p := p) (t := no) (m := m) (tp := t) (by rw [hS]; omega) hu hm.1
    rw [hS] at hl hsz ⊢
    obtain ⟨M, rfl⟩ : ∃ M : Nat, m = (M : Int) := ⟨m.toNat, by omega⟩
    unfold reps
    rw [Int.toNat_natCast] at hsz ⊢
    by_cases q : t = -1
    · subst q
      rw [if_pos rfl] at hsz ⊢
      exact lay_repeat h hp fun w h1 h2 => by
        obtain ⟨A', c', raws', e, k2⟩ := parts_under h2
        cases e
        exact rep_ever ih hw h1 k2 (by omega) (E := L.length + S) (by omega) (by omega)
    · rw [if_neg q] at hsz ⊢
      obtain ⟨T, rfl⟩ : ∃ T : Nat, t = (T : Int) := ⟨t.toNat, by omega⟩
      obtain ⟨D, hD⟩ : ∃ D, M + D = T := ⟨T - M, by omega⟩
      have hTM : ((T : Int) - (M : Int)).toNat = D := by omega
      rw [hTM] at hsz ⊢
      exact lay_repeat h hp fun w h1 h2 => by
        obtain ⟨A', c', raws', e, k2⟩ := parts_under h2
        cases e
        exact rep_upto ih hw h1 k2 (by omega) ⟨hD, by omega⟩ (E := L.length + S) (by omega) (by omega) (fun hu => hkid (by omega))
end Go.Proofs.YtmbibaccpeldoaaGreatDoor.W15
/-
  Layer 15 (prog), walks of newLayer and Compile: the methods by their kinds; a piece's program. The conditions stand in the statements.
-/
namespace Go.Proofs.YtmbibaccpeldoaaGreatDoor.W15
set_option maxRecDepth 100000
open Go Go.RowKit Go.Proofs.YtmbibaccpeldoaaGreatDoor.Strs Go.Proofs.YtmbibaccpeldoaaGreatDoor.Recs Go.Proofs.YtmbibaccpeldoaaGreatDoor.M15
open Go.Proofs.YtmbibaccpeldoaaGreatDoor.M14 (Piece size sizes)
open Go.Proofs.YtmbibaccpeldoaaGreatDoor.W14 (Raw Raws rawA rawC PAt PAll PBox PLow below_new box_arg load_piece own_same)
open Go.Proofs.YtmbibaccpeldoaaGreatDoor.Kit (below_draws on)

theorem store_nil_func {P : Program} {w : World} {a : Addr} {m : Mode} : (store a .nilFunc m).run P w = stored P w a .nilFunc m := run_store P w a _ m rfl
theorem store_func {P : Program} {w : World} {a : Addr} {m : Mode} {f : Fn} {x y : Array Value} : (store a (.func f x y) m).run P w = stored P w a (.func f x y) m := run_store P w a _ m rfl
attribute [local go_sem] store_nil_func store_func
set_option maxHeartbeats 4000000 in
theorem new_any (w : World) : Calls Tryz.prog 17 #[] w fun e w' => e = .returned (.pointer (some ⟨w.heap.size, 0, none⟩)) ∧ Lay w' w.heap.size (.slice none 0 0) [] ∧ Below w.heap.size w w' := by
  go_enter Tryz.func17, Tryz.ntmps17
  go_wp2_with fail
  go_ret
  exact ⟨rfl, ⟨heap_alloc_new w _, World.ownsRow_nil _ _ _ _⟩, below_new w _⟩
theorem Grow.below_at {w w' : World} {b B : Nat} {v v' : Value} {L : List Inst} (h : Grow b v v' w w') (hl : Lay w b v L) (hB : B ≤ b) : Below B w w' :=
  ⟨h.os, h.tape, h.output, h.size, fun k hk => h.keeps hl (by omega)⟩
/-- a program comes out, in a row of the call's own -/
def Gives (w : World) (P : List Inst) (e : Ending) (w' : World) : Prop := ∃ v, e = .returned (.tuple #[v, .int .i64 0]) ∧ w'.ownsRow w.heap.size 40 4 v P.length (P.flatMap insC) ∧ Below w.heap.size w w'
/-- no program comes out -/
def Fails (w : World) (er : Int) (e : Ending) (w' : World) : Prop := e = .returned (.tuple #[.slice none 0 0, .int .i64 er]) ∧ Below w.heap.size w w'
set_option maxHeartbeats 4000000 in
theorem compile_bad {r : Raw} {w : World} (hR : ∀ w1, Below w.heap.size w w1 → Calls Tryz.prog 16 #[.agg (rawA r)] w1 fun e w' => e = .returned (.bool false) ∧ Below w1.heap.size w1 w') : Calls Tryz.prog 8 #[.agg (rawA r)] w (Fails w 2) := by
  have HR := Lib.hid hR
  clear hR
  go_enter Tryz.func8, Tryz.ntmps8
  go_wp2_with (first
    | (refine box_arg (r := r) rfl (.tmp 0) rfl rfl ?_; intro w1 b1 e1 p1 l1 z1; have P1 := Lib.hid p1; have L1 := Lib.hid l1; clear e1 p1 l1 z1)
    | (refine load_piece (r := r) rfl (.tmp 1) rfl rfl P1.out ?_))
  refine (HR.out _ L1.out).mono ?_
  rintro e w2 ⟨rfl, l2⟩
  have L2 := Lib.hid (on L1.out l2)
  clear l2
  go_wp2_with fail
  go_ret2
  exact ⟨rfl, L2.out⟩
set_option maxHeartbeats 4000000 in
theorem compile_ok {r : Raw} {p : Piece} {w : World} (hR : ∀ w1, Below w.heap.size w w1 → Calls Tryz.prog 16 #[.agg (rawA r)] w1 fun e w' => e = .returned (.bool true) ∧ Below w1.heap.size w1 w') (hg : M15.Good p) (hs : size p ≤ 4000) (hp : PLow w r p) : Calls Tryz.prog 8 #[.agg (rawA r)] w (Gives w (prog p)) := by
  have HR := Lib.hid hR
  have HP := Lib.hid hp
  have HC := Lib.hid (layOk hg)
  have HS := Lib.hid hs
  have HLN := Lib.hid (steps_len hg hs 0)
  clear hR hg hs hp
  go_enter Tryz.func8, Tryz.ntmps8
  go_wp2_with (first
    | (refine box_arg (r := r) rfl (.tmp 0) rfl rfl ?_; intro w1 b1 e1 p1 l1 z1; have P1 := Lib.hid p1; have L1 := Lib.hid l1; clear e1 p1 l1 z1)
    | (refine load_piece (r := r) rfl (.tmp 1) rfl rfl P1.out ?_))
  refine (HR.out _ L1.out).mono ?_
  rintro e w2 ⟨rfl, l2⟩
  have L2 := Lib.hid (on L1.out l2)
  have P2 := Lib.hid (P1.out.below l2)
  clear l2
  go_wp2_with fail
  refine (new_any w2).mono ?_
  rintro e w3 ⟨rfl, h3, l3⟩
  have L3 := Lib.hid (on L2.out l3)
  have P3 := Lib.hid (P2.out.below l3)
  have H3 := Lib.hid h3
  have Q3 : Hid (PAt (fun k => k < w2.heap.size) w3 r p) := HP.out.keep (fun k q => Nat.lt_of_lt_of_le q L2.out.size) fun a q => W14.cell_block (L3.out.block _ q)
  have HB := Lib.hid L2.out.size
  clear h3 l3
  obtain ⟨b, hb⟩ : ∃ b, w2.heap.size = b := ⟨_, rfl⟩
  rw [hb] at H3 Q3 HB ⊢
  clear hb
  go_wp2_with (first
    | (refine load_piece (r := r) rfl (.tmp 1) rfl rfl P3.out ?_))
  refine (HC.out w3 b _ [] r H3.out Q3.out (by simp only [List.length_nil]; have := HS.out; omega)).mono ?_
  rintro e w4 ⟨rfl, v4, h4, g4⟩
  rw [List.nil_append] at h4
  have H4 := Lib.hid h4
  have L4 := Lib.hid (L3.out.trans (g4.below_at H3.out HB.out))
  have c0 := h4.box.c0
  clear h4 g4
  go_wp2_with (first
    | (refine slice_ins (r := ⟨7, ⟨#[]⟩, 0, 0⟩) rfl (.tmp 16) rfl rfl ?_; intro w5 b5 e5 p5 l5 z5 o5; have P5 := Lib.hid p5; have L5 := Lib.hid l5; clear e5 p5 l5 z5 o5)
    | (refine append_ins rfl (.tmp 15) (.tmp 17) rfl rfl rfl (H4.out.below L5.out).own P5.out (by simp only [List.length_cons, List.length_nil]; rw [HLN.out]; have := HS.out; omega) (Nat.le_trans H4.out.box.lt L5.out.size) ?_; intro v' w6 o6 p6; have O6 := Lib.hid o6; have P6 := Lib.hid p6; clear o6 p6))
  go_ret2
  have hg := P6.out.grown
  refine ⟨v', rfl, O6.out.mono (Nat.le_succ_of_le HB.out), (on L4.out L5.out).trans ⟨hg.os, hg.tape, hg.output, hg.size, fun k hk => hg.block k (Nat.lt_of_lt_of_le hk (on L4.out L5.out).size) fun q => ?_⟩⟩
  have := (H4.out.own_gt k q.symm).1
  have := HB.out
  omega
end Go.Proofs.YtmbibaccpeldoaaGreatDoor.W15
/-
  Layer 15 (prog), walks of layer 14's own Right and of the document's Compile. The conditions stand in the statements.
-/
namespace Go.Proofs.YtmbibaccpeldoaaGreatDoor.W15
set_option maxRecDepth 100000
open Go Go.RowKit Go.Proofs.YtmbibaccpeldoaaGreatDoor.Strs Go.Proofs.YtmbibaccpeldoaaGreatDoor.Recs Go.Proofs.YtmbibaccpeldoaaGreatDoor.M15
open Go.Proofs.YtmbibaccpeldoaaGreatDoor.M14 (Piece size sizes)
open Go.Proofs.YtmbibaccpeldoaaGreatDoor.W14 (Raw Raws rawA rawC PAt PAll PBox PLow below_new box_arg load_piece own_same)
open Go.Proofs.YtmbibaccpeldoaaGreatDoor.Kit (below_draws on)

set_option maxHeartbeats 2000000 in
theorem r14right_any {p : Piece} {w : World} {r : Raw} (hl : PLow w r p) : Calls Tryz.prog 19 #[.agg (rawA r)] w fun e w' => e = .returned (.bool (gwhole p && decide (gsize p ≤ 4000))) ∧ Below w.heap.size w w' := by
  have HW := Lib.hid (rwhole_any p)
  have HS := Lib.hid (rgsize_any p)
  have HL := Lib.hid hl
  unfold GTo at HS
  obtain ⟨q, hq⟩ : ∃ q, gwhole p = q := ⟨_, rfl⟩
  obtain ⟨n, hn⟩ : ∃ n, gsize p = n := ⟨_, rfl⟩
  rw [hq] at HW ⊢
  rw [hn] at HS ⊢
  clear hl hq hn
  cases q with
  | false =>
    rw [Bool.false_and]
    go_enter Tryz.func19, Tryz.ntmps19
    go_wp2_with (first
      | (refine box_arg (r := r) rfl (.tmp 0) rfl rfl ?_; intro w1 b1 e1 p1 l1 z1; have P1 := Lib.hid p1; have L1 := Lib.hid l1; clear e1 p1 l1 z1)
      | (refine load_piece (r := r) rfl (.tmp 1) rfl rfl P1.out ?_))
    refine (HW.out _ _ (HL.out.below L1.out)).mono ?_
    rintro e w2 ⟨rfl, l2⟩
    have L2 := Lib.hid (on L1.out l2)
    clear l2
    go_wp2_with fail
    go_ret
    exact ⟨rfl, L2.out⟩
  | true =>
    rw [Bool.true_and]
    go_enter Tryz.func19, Tryz.ntmps19
    go_wp2_with (first
      | (refine box_arg (r := r) rfl (.tmp 0) rfl rfl ?_; intro w1 b1 e1 p1 l1 z1; have P1 := Lib.hid p1; have L1 := Lib.hid l1; clear e1 p1 l1 z1)
      | (refine load_piece (r := r) rfl (.tmp 1) rfl rfl P1.out ?_))
    refine (HW.out _ _ (HL.out.below L1.out)).mono ?_
    rintro e w2 ⟨rfl, l2⟩
    have P2 := Lib.hid (P1.out.below l2)
    have a0 := P2.out.c0
    have a1 := P2.out.c1
    have a2 := P2.out.c2
    have a3 := P2.out.c3
    have a4 := P2.out.c4
    have L2 := Lib.hid (on L1.out l2)
    clear l2
    go_wp2_with fail
    refine (HS.out _ _ (HL.out.below L2.out)).mono ?_
    rintro e w3 ⟨rfl, l3⟩
    have L3 := Lib.hid (on L2.out l3)
    clear l3 a0 a1 a2 a3 a4
    have HD : Hid (decide ((n : Int) ≤ 4000) = decide (n ≤ 4000)) := by
      unfold Hid
      by_cases c : n ≤ 4000
      · rw [decide_eq_true c, decide_eq_true (by omega)]
      · rw [decide_eq_false c, decide_eq_false (by omega)]
    go_wp2_with fail
    go_ret
    exact ⟨by first | rfl | (rw [← HD.out]; rfl), L3.out⟩
set_option maxHeartbeats 4000000 in
theorem rcompile_bad {p : Piece} (hb : (gwhole p && decide (gsize p ≤ 4000)) = false) {w : World} {r : Raw} (hl : PLow w r p) : Calls Tryz.prog 9 #[.agg (rawA r)] w (Fails w 2) := by
  have HR : Hid (∀ w1, Below w.heap.size w w1 → Calls Tryz.prog 19 #[.agg (rawA r)] w1 fun e w' => e = .returned (.bool false) ∧ Below w1.heap.size w1 w') := fun w1 l1 => by
    have := r14right_any (hl.below l1)
    rw [hb] at this
    exact this
  clear hl hb
  go_enter Tryz.func9, Tryz.ntmps9
  go_wp2_with (first
    | (refine box_arg (r := r) rfl (.tmp 0) rfl rfl ?_; intro w1 b1 e1 p1 l1 z1; have P1 := Lib.hid p1; have L1 := Lib.hid l1; clear e1 p1 l1 z1)
    | (refine load_piece (r := r) rfl (.tmp 1) rfl rfl P1.out ?_))
  refine (HR.out _ L1.out).mono ?_
  rintro e w2 ⟨rfl, l2⟩
  have L2 := Lib.hid (on L1.out l2)
  clear l2
  go_wp2_with fail
  go_ret2
  exact ⟨rfl, L2.out⟩
set_option maxHeartbeats 4000000 in
theorem rcompile_ok {p : Piece} (hb : (gwhole p && decide (gsize p ≤ 4000)) = true) {w : World} {r : Raw} (hl : PLow w r p) : Calls Tryz.prog 9 #[.agg (rawA r)] w (Gives w (prog p)) := by
  have hbb := hb
  rw [Bool.and_eq_true, decide_eq_true_eq] at hbb
  have hg := good_of hbb.1
  have hz : size p ≤ 4000 := by rw [← gsize_eq hg]; exact hbb.2
  have HR : Hid (∀ w1, Below w.heap.size w w1 → Calls Tryz.prog 19 #[.agg (rawA r)] w1 fun e w' => e = .returned (.bool true) ∧ Below w1.heap.size w1 w') := fun w1 l1 => by
    have := r14right_any (hl.below l1)
    rw [hb] at this
    exact this
  have HC : Hid (∀ w1, Below w.heap.size w w1 → Calls Tryz.prog 20 #[.agg (rawA r), .int .i64 0] w1 (Gets w1 (steps p 0))) := fun w1 l1 => rst_any hg w1 r 0 (hl.below l1) hz (by omega)
  have HLN := Lib.hid (steps_len hg hz 0)
  have HZ := Lib.hid hz
  clear hl hb hbb hg hz
  go_enter Tryz.func9, Tryz.ntmps9
  go_wp2_with (first
    | (refine box_arg (r := r) rfl (.tmp 0) rfl rfl ?_; intro w1 b1 e1 p1 l1 z1; have P1 := Lib.hid p1; have L1 := Lib.hid l1; clear e1 p1 l1 z1)
    | (refine load_piece (r := r) rfl (.tmp 1) rfl rfl P1.out ?_))
  refine (HR.out _ L1.out).mono ?_
  rintro e w2 ⟨rfl, l2⟩
  have L2 := Lib.hid (on L1.out l2)
  have P2 := Lib.hid (P1.out.below l2)
  clear l2
  go_wp2_with (first | (refine load_piece (r := r) rfl (.tmp 1) rfl rfl P2.out ?_))
  refine (HC.out _ L2.out).mono ?_
  rintro e w3 ⟨v3, rfl, o3, l3⟩
  have S3 : Hid (St w w3 b1 r v3 (steps p 0)) := ⟨o3.mono L2.out.size, P2.out.below l3, on L2.out l3⟩
  have HL1 : Hid ((steps p 0).length + [(⟨7, ⟨#[]⟩, 0, 0⟩ : Inst)].length ≤ 1000000) := by unfold Hid; rw [HLN.out]; simp only [List.length_cons, List.length_nil]; have := HZ.out; omega
  clear o3 l3
  go_wp2_with (first
    | (refine slice_ins (r := ⟨7, ⟨#[]⟩, 0, 0⟩) rfl (.tmp 9) rfl rfl ?_; intro w4 b4 e4 p4 l4 z4 o4; have R4 := Lib.hid p4; have S4 := Lib.hid (S3.out.below l4); clear e4 p4 l4 z4 o4)
    | (refine append_ins rfl (.tmp 8) (.tmp 10) rfl rfl rfl S4.out.own R4.out HL1.out S4.out.low.size ?_; intro v5 w5 o5 p5; have S5 := Lib.hid (S4.out.put o5 p5); clear o5 p5))
  go_ret2
  exact ⟨v5, rfl, S5.out.own, S5.out.low⟩
end Go.Proofs.YtmbibaccpeldoaaGreatDoor.W15
/-
  Layer 14 (pattern), walks of the program's isSet, isAlike, isParsed and Right. The conditions stand in the statements.
-/
namespace Go.Proofs.YtmbibaccpeldoaaGreatDoor.W14
set_option maxRecDepth 100000
open Go Go.RowKit Go.Proofs.YtmbibaccpeldoaaGreatDoor.Strs Go.Proofs.YtmbibaccpeldoaaGreatDoor.Recs Go.Proofs.YtmbibaccpeldoaaGreatDoor.M14
open Go.Proofs.YtmbibaccpeldoaaGreatDoor.Kit (below_draws on)

theorem pnot_tx (f : Nat → Bool) (w : World) : Calls Tryz.prog 77 #[.string (W13.tx f)] w fun e w' => e = .returned (.string (W13.tx fun i => !f i)) ∧ Below w.heap.size w w' :=
  (W13.not_any _ _).mono fun _ _ h => ⟨h.1.trans (congrArg (fun x => Ending.returned (.string x)) (W13.tx_congr fun i hi => by rw [W13.has_tx f hi])), h.2⟩
set_option maxHeartbeats 1000000 in
theorem isSet_any (f : Nat → Bool) (w : World) : Calls Tryz.prog 64 #[.string (txt f)] w fun e w' => e = .returned (.bool true) ∧ Below w.heap.size w w' := by
  have h1 := pnot_tx f
  have h2 := pnot_tx (fun i => !f i)
  rw [show (W13.tx fun i => !(!f i)) = W13.tx f from W13.tx_congr fun _ _ => Bool.not_not _] at h2
  obtain ⟨d, hd⟩ : ∃ d, W13.tx f = d := ⟨_, rfl⟩
  obtain ⟨g, hg⟩ : ∃ g, (W13.tx fun i => !f i) = g := ⟨_, rfl⟩
  rw [show txt f = W13.tx f from rfl]
  rw [hd, hg] at h1
  rw [hg, hd] at h2
  rw [hd]
  have H1 := Lib.hid h1
  have H2 := Lib.hid h2
  clear h1 h2 hd hg
  have te : (d.toList == d.toList) = true := beq_self_eq_true _
  go_enter Tryz.func64, Tryz.ntmps64
  go_wp2_with fail
  refine (H1.out _).mono ?_
  rintro e w2 ⟨rfl, l2⟩
  have L2 := Lib.hid l2
  clear l2
  go_wp2_with fail
  refine (H2.out _).mono ?_
  rintro e w3 ⟨rfl, l3⟩
  have L3 := Lib.hid (on L2.out l3)
  clear l3
  go_wp2_with fail
  go_ret
  exact ⟨rfl, L3.out⟩
/-- what a predicate of pieces answers -/
def YesTo (w : World) (e : Ending) (w' : World) : Prop := e = .returned (.bool true) ∧ Below w.heap.size w w'
def Alike (p : Piece) : Prop := ∀ (w : World) (r : Raw), PLow w r p → Calls Tryz.prog 47 #[.agg (rawA r)] w (YesTo w)
set_option maxHeartbeats 2000000 in
theorem alike_none {k : Int} (hk : k = 1 ∨ k = 3 ∨ k = 5 ∨ k = 6) : Alike (M14.leaf k ⟨#[]⟩) := by
  intro w r h
  unfold YesTo
  unfold M14.leaf at h
  obtain ⟨A, c, raws, rfl, k1⟩ := h.parts
  have r1 := k1.room.2
  clear h k1
  simp only [List.length_nil]
  rcases hk with rfl | rfl | rfl | rfl
  all_goals
    go_enter Tryz.func47, Tryz.ntmps47
    go_wp2_with (first
      | (refine box_arg rfl (.tmp 0) rfl rfl ?_; intro w1 b1 e1 p1 l1 z1; have a0 := p1.c0; have a1 := p1.c1; have a2 := p1.c2; have a3 := p1.c3; have a4 := p1.c4; have L1 := Lib.hid l1; clear e1 p1 l1 z1; simp only at a0 a1 a2 a3 a4))
    go_ret
    exact ⟨rfl, L1.out⟩
set_option maxHeartbeats 2000000 in
theorem alike_char (u : UInt8) : Alike (M14.leaf 2 (chr u)) := by
  intro w r h
  unfold YesTo
  unfold M14.leaf at h
  obtain ⟨A, c, raws, rfl, k1⟩ := h.parts
  have r1 := k1.room.2
  clear h k1
  simp only [List.length_nil]
  obtain ⟨d, hd⟩ : ∃ d, chr u = d := ⟨_, rfl⟩
  have hz : d.size = 1 := by rw [← hd]; rfl
  rw [hd]
  clear hd
  go_enter Tryz.func47, Tryz.ntmps47
  go_wp2_with (first
    | (refine box_arg rfl (.tmp 0) rfl rfl ?_; intro w1 b1 e1 p1 l1 z1; have a0 := p1.c0; have a1 := p1.c1; have a2 := p1.c2; have a3 := p1.c3; have a4 := p1.c4; have L1 := Lib.hid l1; clear e1 p1 l1 z1; simp only at a0 a1 a2 a3 a4))
  go_ret
  exact ⟨rfl, L1.out⟩
set_option maxHeartbeats 2000000 in
theorem alike_set (f : Nat → Bool) : Alike (M14.leaf 4 (txt f)) := by
  intro w r h
  unfold YesTo
  unfold M14.leaf at h
  obtain ⟨A, c, raws, rfl, k1⟩ := h.parts
  have r1 := k1.room.2
  have HS := Lib.hid (isSet_any f)
  clear h k1
  simp only [List.length_nil]
  obtain ⟨d, hd⟩ : ∃ d, txt f = d := ⟨_, rfl⟩
  rw [hd] at HS ⊢
  clear hd
  go_enter Tryz.func47, Tryz.ntmps47
  go_wp2_with (first
    | (refine box_arg (r := ⟨4, d, A, 0, c, 0, 0⟩) rfl (.tmp 0) rfl rfl ?_; intro w1 b1 e1 p1 l1 z1; have P1 := Lib.hid p1; have a0 := p1.c0; have a1 := p1.c1; have a2 := p1.c2; have a3 := p1.c3; have a4 := p1.c4; have L1 := Lib.hid l1; clear e1 p1 l1 z1; simp only at a0 a1 a2 a3 a4))
  refine (HS.out _).mono ?_
  rintro e w2 ⟨rfl, l2⟩
  have PB2 := Lib.hid (P1.out.below l2)
  have L2 := Lib.hid (L1.out.trans (l2.mono L1.out.size))
  have d2 := PB2.out.c2
  simp only at d2
  clear l2
  go_wp2_with fail
  go_ret
  exact ⟨rfl, L2.out⟩
set_option maxHeartbeats 2000000 in
theorem alike_many {k : Int} (hk : k = 7 ∨ k = 8) {ks : List Piece} (h2 : 2 ≤ ks.length) : Alike (.mk k ⟨#[]⟩ ks 0 0) := by
  intro w r h
  unfold YesTo
  obtain ⟨A, c, raws, rfl, k1⟩ := h.parts
  have hr1 := k1.room.1
  have hr2 := k1.room.2
  have t2 : (2 : Int) ≤ (ks.length : Int) := by omega
  clear h k1 h2
  rcases hk with rfl | rfl
  all_goals
    go_enter Tryz.func47, Tryz.ntmps47
    go_wp2_with (first
      | (refine box_arg rfl (.tmp 0) rfl rfl ?_; intro w1 b1 e1 p1 l1 z1; have a0 := p1.c0; have a1 := p1.c1; have a2 := p1.c2; have a3 := p1.c3; have a4 := p1.c4; have L1 := Lib.hid l1; clear e1 p1 l1 z1; simp only at a0 a1 a2 a3 a4))
    go_ret
    exact ⟨rfl, L1.out⟩
set_option maxHeartbeats 2000000 in
theorem alike_rep {p : Piece} {m t : Int} (ho : Often m t) : Alike (.mk 9 ⟨#[]⟩ [p] m t) := by
  intro w r h
  unfold YesTo
  obtain ⟨A, c, raws, rfl, k1⟩ := h.parts
  have hr : 1 ≤ c ∧ c ≤ 9223372036854775807 := k1.room
  have HO : Hid (∀ w, Calls Tryz.prog 62 #[.agg (rawA ⟨9, ⟨#[]⟩, A, [p].length, c, m, t⟩)] w fun e w' => e = .returned (.bool true) ∧ Below w.heap.size w w') := fun w => isRepeat_any ho hr w
  clear h k1 hr ho
  go_enter Tryz.func47, Tryz.ntmps47
  go_wp2_with (first
    | (refine box_arg (r := ⟨9, ⟨#[]⟩, A, [p].length, c, m, t⟩) rfl (.tmp 0) rfl rfl ?_; intro w1 b1 e1 p1 l1 z1; have P1 := Lib.hid p1; have a0 := p1.c0; have L1 := Lib.hid l1; clear e1 p1 l1 z1; simp only at a0)
    | (refine load_piece (r := ⟨9, ⟨#[]⟩, A, [p].length, c, m, t⟩) rfl (.tmp 1) rfl rfl P1.out ?_))
  refine (HO.out _).mono ?_
  rintro e w2 ⟨rfl, l2⟩
  have L2 := Lib.hid (L1.out.trans (l2.mono L1.out.size))
  clear l2
  go_wp2_with fail
  go_ret
  exact ⟨rfl, L2.out⟩
def Parsd (p : Piece) : Prop := ∀ (w : World) (r : Raw), PLow w r p → Calls Tryz.prog 28 #[.agg (rawA r)] w (YesTo w)
set_option maxHeartbeats 4000000 in
theorem parsed_mk {k : Int} {t : ByteArray} {ks : List Piece} {l tp : Int} (hA : Alike (.mk k t ks l tp)) (IH : ∀ i (hi : i < ks.length), Parsd ks[i]) : Parsd (.mk k t ks l tp) := by
  intro w r h
  unfold YesTo
  have HI := Lib.hid IH
  have HA := Lib.hid (fun w => hA w r)
  have HL := Lib.hid h
  obtain ⟨A, c, raws, rfl, k1⟩ := h.parts
  have K1 := Lib.hid k1
  have HR := Lib.hid k1.room
  clear h k1 IH hA
  go_enter Tryz.func28, Tryz.ntmps28
  go_wp2_with (first
    | (refine box_arg (r := ⟨k, t, A, ks.length, c, l, tp⟩) rfl (.tmp 0) rfl rfl ?_; intro w1 b1 e1 p1 l1 z1; have P1 := Lib.hid p1; have L1 := Lib.hid l1; clear e1 p1 l1 z1)
    | (refine load_piece (r := ⟨k, t, A, ks.length, c, l, tp⟩) rfl (.tmp 1) rfl rfl P1.out ?_))
  refine (HA.out _ (HL.out.below L1.out)).mono ?_
  rintro e w2 ⟨rfl, l2⟩
  have PB2 := Lib.hid (P1.out.below l2)
  have L2 := Lib.hid (L1.out.trans (l2.mono L1.out.size))
  have K2 := Lib.hid (K1.out.below L2.out)
  have a2 := PB2.out.c2
  simp only at a2
  have hr1 := HR.out.1
  have hr2 := HR.out.2
  clear l2
  go_wp2_with fail
  clear a2 hr1 hr2
  go_loopg [11] ks.length (fun gk s11 wr => ∃ i : Nat, s11 = .int .i64 i ∧ Hid (i + gk = ks.length) ∧ Hid (Kids wr A c raws ks) ∧ Hid (Below w.heap.size w wr))
  case atStart => exact ⟨0, rfl, by unfold Hid; omega, K2, L2⟩
  case round =>
    obtain ⟨i, rfl, hig, K1, HB⟩ := hrel
    have hn1 := HR.out.1
    have hn2 := HR.out.2
    by_cases hi : i < ks.length
    · have ti : (i : Int) < (ks.length : Int) := by omega
      obtain ⟨g1, o1, rfl, C1⟩ := K1.out.at_ (Nat.lt_of_le_of_lt (Nat.zero_le _) hi)
      obtain ⟨hr1, q1⟩ := K1.out.kid hi
      have E1 := Lib.hid (C1 i hr1)
      have Q1 := Lib.hid q1
      have HI2 := Lib.hid hi
      obtain ⟨rk, hrk⟩ : ∃ rk, raws[i]'hr1 = rk := ⟨_, rfl⟩
      rw [hrk] at E1 Q1
      have HC := Lib.hid (fun (w : World) (h : PLow w rk (ks[i]'hi)) => HI.out i hi w rk h)
      have hwi : Hid (wrap64 ((i : Int) + 1) = ((i + 1 : Nat) : Int)) := by unfold Hid wrap64; omega
      clear C1 q1 hrk
      go_wp2_with (first
        | (refine load_at rfl (.tmp 13) rfl rfl (r := rk) E1.out ?_)
        | (refine alloc_piece rfl rfl ?_; intro w3 b3 e3 p3 l3 z3)
        | (refine store_piece (r := rk) rfl (.tmp 4) (.tmp 14) rfl rfl rfl p3 ?_; intro w4 p4 l4 z4; have L4 := Lib.hid (two_new l3 l4 e3); have P4 := Lib.hid p4; clear e3 p3 l3 z3 p4 l4 z4)
        | (refine load_piece (r := rk) rfl (.tmp 4) rfl rfl P4.out ?_))
      refine (HC.out _ (Q1.out.below L4.out)).mono ?_
      rintro e w5 ⟨rfl, l5⟩
      have K5 := Lib.hid ((K1.out.below L4.out).below l5)
      have B5 := Lib.hid (HB.out.trans ((L4.out.trans (l5.mono L4.out.size)).mono HB.out.size))
      clear l5
      cases gk with
      | zero => exact absurd hig.out (by have := HI2.out; omega)
      | succ g =>
        go_wp2_with fail
        go_roundg g
        case measure => omega
        case rel => exact ⟨i + 1, by first | rfl | exact congrArg (Value.int .i64) hwi.out, by have := hig.out; unfold Hid; omega, K5, B5⟩
    · have ti : ¬ (i : Int) < (ks.length : Int) := by omega
      go_wp2_with fail
      go_ret
      exact ⟨rfl, HB.out⟩
theorem parsed_any {p : Piece} (h : Whole p) : Parsd p := by
  induction h with
  | none k hk => exact parsed_mk (alike_none hk) fun i hi => absurd hi (by simp)
  | char c => exact parsed_mk (alike_char c) fun i hi => absurd hi (by simp)
  | set f => exact parsed_mk (alike_set f) fun i hi => absurd hi (by simp)
  | many k hk l h2 h3 hw ih => exact parsed_mk (alike_many hk h2) fun i hi => ih l[i] (List.getElem_mem hi)
  | rep p m t hm ht hw ih =>
    refine parsed_mk (alike_rep ⟨hm, ht⟩) fun i hi => ?_
    obtain rfl : i = 0 := by simpa using hi
    exact ih
set_option maxHeartbeats 1000000 in
/-- Right of a piece that may be: its size alone decides -/
theorem right_any {p : Piece} (h : Whole p) {w : World} {r : Raw} (hl : PLow w r p) : Calls Tryz.prog 16 #[.agg (rawA r)] w fun e w' => e = .returned (.bool (decide ((size p : Int) ≤ 4000))) ∧ Below w.heap.size w w' := by
  have HS := Lib.hid (psize_any h)
  have HP := Lib.hid (parsed_any h)
  have HL := Lib.hid hl
  obtain ⟨n, hn⟩ : ∃ n, size p = n := ⟨_, rfl⟩
  have HN := Lib.hid hn
  rw [hn]
  clear h hl hn
  by_cases hb : (n : Int) ≤ 4000
  · have td : decide ((n : Int) ≤ 4000) = true := decide_eq_true hb
    rw [td]
    go_enter Tryz.func16, Tryz.ntmps16
    go_wp2_with (first
      | (refine box_arg (r := r) rfl (.tmp 0) rfl rfl ?_; intro w1 b1 e1 p1 l1 z1; have P1 := Lib.hid p1; have L1 := Lib.hid l1; have a0 := p1.c0; have a1 := p1.c1; have a2 := p1.c2; have a3 := p1.c3; have a4 := p1.c4; clear e1 p1 l1 z1)
      | (refine load_piece (r := r) rfl (.tmp 1) rfl rfl P1.out ?_))
    refine (HS.out _ _ (HL.out.below L1.out)).mono ?_
    rintro e w2 ⟨rfl, l2⟩
    rw [HN.out]
    have PB2 := Lib.hid (P1.out.below l2)
    have L2 := Lib.hid (L1.out.trans (l2.mono L1.out.size))
    have a0 := PB2.out.c0
    have a1 := PB2.out.c1
    have a2 := PB2.out.c2
    have a3 := PB2.out.c3
    have a4 := PB2.out.c4
    clear l2
    go_wp2_with fail
    refine (HP.out _ _ (HL.out.below L2.out)).mono ?_
    rintro e w3 ⟨rfl, l3⟩
    have L3 := Lib.hid (L2.out.trans (l3.mono L2.out.size))
    clear l3
    go_wp2_with fail
    go_ret
    exact ⟨rfl, L3.out⟩
  · have td : decide ((n : Int) ≤ 4000) = false := decide_eq_false hb
    rw [td]
    go_enter Tryz.func16, Tryz.ntmps16
    go_wp2_with (first
      | (refine box_arg (r := r) rfl (.tmp 0) rfl rfl ?_; intro w1 b1 e1 p1 l1 z1; have P1 := Lib.hid p1; have L1 := Lib.hid l1; clear e1 p1 l1 z1)
      | (refine load_piece (r := r) rfl (.tmp 1) rfl rfl P1.out ?_))
    refine (HS.out _ _ (HL.out.below L1.out)).mono ?_
    rintro e w2 ⟨rfl, l2⟩
    rw [HN.out]
    have L2 := Lib.hid (L1.out.trans (l2.mono L1.out.size))
    clear l2
    go_wp2_with fail
    go_ret
    exact ⟨rfl, L2.out⟩
end Go.Proofs.YtmbibaccpeldoaaGreatDoor.W14
