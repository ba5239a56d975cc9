/-
  Texts joined, in build order, each with its own comment and its own conditions: W14RefPart, W14Atom.
-/
import Derived.Test.YtenlogfiabhfmaaGreatDoorJ08
import Derived.Test.YtenlogfiabhfmaaGreatDoorJ12
/-
  Layer 14 (pattern), walk of the document's part. The conditions stand in the statements.
-/
namespace Go.Proofs.YtenlogfiabhfmaaGreatDoor.W14
set_option maxRecDepth 100000
open Go Go.RowKit Go.Proofs.YtenlogfiabhfmaaGreatDoor.Strs Go.Proofs.YtenlogfiabhfmaaGreatDoor.Recs Go.Proofs.YtenlogfiabhfmaaGreatDoor.M14
open Go.Proofs.YtenlogfiabhfmaaGreatDoor.Row256 (Beside)
open Go.Proofs.YtenlogfiabhfmaaGreatDoor.Kit (below_draws on)

section
variable {w : World} {s : ByteArray} {at_ deep to : Nat} {p : Piece}
theorem PBox.put3 {w : World} {b : Nat} {k : Int} {t : ByteArray} {A : Option Addr} {n c : Nat} {l tp : Int} (h : PBox w b ⟨k, t, A, n, c, l, tp⟩) (v : Int) : PBox (w.setCell ⟨b, 3, none⟩ (.int .i64 v)) b ⟨k, t, A, n, c, v, tp⟩ := by
  unfold PBox at *
  rw [heap_setCell_same w b 3 _ _ _ h]; rfl
theorem PBox.put4 {w : World} {b : Nat} {k : Int} {t : ByteArray} {A : Option Addr} {n c : Nat} {l tp : Int} (h : PBox w b ⟨k, t, A, n, c, l, tp⟩) (v : Int) : PBox (w.setCell ⟨b, 4, none⟩ (.int .i64 v)) b ⟨k, t, A, n, c, l, v⟩ := by
  unfold PBox at *
  rw [heap_setCell_same w b 4 _ _ _ h]; rfl
theorem PBox.d {w : World} {b : Nat} {r : Raw} (h : PBox w b r) : w.cell? ⟨b, 3, none⟩ = some (.int .i64 r.least) ∧ w.cell? ⟨b, 4, none⟩ = some (.int .i64 r.top) ∧ w.frozen? ⟨b, 3, none⟩ = false ∧ w.frozen? ⟨b, 4, none⟩ = false :=
  ⟨cell_of_row w b 3 _ _ _ h, cell_of_row w b 4 _ _ _ h, frozen_of_row w b 3 _ _ h, frozen_of_row w b 4 _ _ h⟩
/-- a box newer than w0 is stored into -/
theorem old_below {w0 w w' : World} {b : Nat} (h : Below w0.heap.size w0 w) (k : Beside b w w') (hb : w0.heap.size ≤ b) : Below w0.heap.size w0 w' := h.trans (k.below h.size hb)
theorem rep_done {w w1 w2 w9 : World} {r : Raw} {b5 : Nat} {m t : Int} (A1 : PAt (In w1.heap.size w2.heap.size) w2 r p) (hq : ∀ q, w1.heap.size ≤ q → q < w2.heap.size → w9.heap[q]? = w2.heap[q]?) (h1 : w.heap.size ≤ w1.heap.size) (h2 : w2.heap.size ≤ w9.heap.size) (hR : Raws w9.heap.size w9 (.slice (some ⟨b5, 0, none⟩) 1 1) [r]) (h3 : w.heap.size ≤ b5) (h4 : b5 < w9.heap.size) :
    PAt (In w.heap.size w9.heap.size) w9 ⟨9, ⟨#[]⟩, some ⟨b5, 0, none⟩, 1, 1, m, t⟩ (.mk 9 ⟨#[]⟩ [p] m t) := by
  refine .mk _ _ _ _ _ _ _ [r] [p] w9.heap.size hR ?_ rfl ?_
  · intro ad e _
    cases e
    exact ⟨h3, h4⟩
  · intro k i1 i2
    have i0 : k = 0 := by simp at i1; omega
    subst i0
    exact A1.keep (fun _ q => ⟨Nat.le_trans h1 q.1, Nat.lt_of_lt_of_le q.2 h2⟩) (fun a q => cell_block (hq _ q.1 q.2))
theorem raws_beside {B B' : Nat} {w w' : World} {b5 c : Nat} {r : Raw} (h : Raws B w (.slice (some ⟨b5, 0, none⟩) 1 1) [r]) (_hb5 : b5 < B) (hB : B ≤ B') (hw : b5 < w.heap.size) (k : Beside c w w') (hc : b5 ≠ c) : Raws B' w' (.slice (some ⟨b5, 0, none⟩) 1 1) [r] :=
  (raws_keep h fun ad e _ q hq => by
    cases e
    exact cell_block (k.block _ (by rw [hq]; exact hw) (by rw [hq]; exact hc))).more hB
theorem got_form {lo : Nat} {w w' : World} {g : Got} {e : Ending} (h : GotsL lo w g e w') : ∃ r to er bad, e = .returned (.agg (gotA r to er bad)) := by
  match g, h with
  | .ok p to, h => obtain ⟨_, r, e, _⟩ := h; exact ⟨r, to, 0, 0, e⟩
  | .bad q er, h => obtain ⟨_, _, t, e⟩ := h; exact ⟨zeroR, t, er, q, e⟩
theorem gots_more {lo c : Nat} {w w1 w' w'' : World} {g : Got} {e : Ending} (h : GotsL lo w1 g e w') (l : Below w.heap.size w w'') (k : Beside c w' w'') (h1 : w.heap.size ≤ lo) (h2 : c < lo) : Gots w g e w'' := by
  refine ⟨l, ?_⟩
  match g, h with
  | .ok p to, h =>
    obtain ⟨_, r, e, hp⟩ := h
    exact ⟨r, e, (hp.by_beside k h2).by_less h1⟩
  | .bad q er, h => exact h.2
set_option maxHeartbeats 1000000 in
theorem refPart_bad {q : Nat} {er : Int}
    (hC : ∀ w, Calls Tryz.prog 32 #[.string s, .int .i64 at_, .int .i64 deep] w (Gots w (.bad q er))) :
    Calls Tryz.prog 26 #[.string s, .int .i64 at_, .int .i64 deep] w (Gots w (.bad q er)) := by
  have HC := Lib.hid hC
  clear hC
  go_enter Tryz.func26, Tryz.ntmps26
  go_wp2_with (first
    | (refine alloc_got rfl rfl ?_; intro w1 b1 e1 p1 l1 z1))
  have G1 := Lib.hid p1
  have L1 := Lib.hid l1
  have HB1 : Hid (w.heap.size ≤ b1 ∧ b1 < w1.heap.size) := ⟨by omega, by omega⟩
  clear e1 p1 l1 z1
  refine (HC.out _).mono ?_
  rintro e w2 ⟨l2, he, tq, rfl⟩
  have HE := Lib.hid he
  have te : (er != 0) = true := by simpa using he
  clear he
  have L2 := Lib.hid (L1.out.trans (l2.mono L1.out.size))
  have G2 := Lib.hid (G1.out.below l2)
  have HB2 : Hid (w.heap.size ≤ b1 ∧ b1 < w2.heap.size) := ⟨HB1.out.1, Nat.lt_of_lt_of_le HB1.out.2 l2.size⟩
  have HB1' : Hid (w1.heap.size ≤ w2.heap.size) := l2.size
  clear l2
  go_upto_region 2 with (first
    | (refine alloc_got rfl rfl ?_; intro w3 b3 e3 p3 l3 z3)
    | (refine store_got (r := zeroR) (to := tq) (e := er) (bad := q) rfl (.tmp 7) (.tmp 12) rfl rfl rfl p3 ?_; intro w4 p4 l4 z4))
  have L24 := Lib.hid (two_new l3 l4 e3)
  have G4 := Lib.hid (G2.out.below L24.out)
  have Q4 := Lib.hid p4
  have HB4 : Hid (b1 ≠ b3 ∧ b1 < w4.heap.size ∧ w2.heap.size = b3) := ⟨by have := HB2.out.2; omega, Nat.lt_of_lt_of_le HB2.out.2 L24.out.size, e3⟩
  have L4 := Lib.hid (L2.out.trans (L24.out.mono L2.out.size))
  have q5 := Q4.out.c5
  have q6 := Q4.out.c6
  clear e3 p3 l3 z3 p4 l4 z4
  go_wp2_with (first
    | (refine load_got rfl (.tmp 7) rfl rfl Q4.out ?_)
    | (refine store_got (r := zeroR) (to := tq) (e := er) (bad := q) rfl (.tmp 6) (.tmp 23) rfl rfl rfl G4.out ?_; intro w9 p9 l9 z9))
  refine end_got rfl rfl p9 rfl ⟨old_below L4.out l9 HB1.out.1, ?_⟩
  exact ⟨HE.out, tq, rfl⟩
set_option maxHeartbeats 1000000 in
theorem refPart_end (hto : to = s.size)
    (hC : ∀ w, Calls Tryz.prog 32 #[.string s, .int .i64 at_, .int .i64 deep] w (Gots w (.ok p to))) :
    Calls Tryz.prog 26 #[.string s, .int .i64 at_, .int .i64 deep] w (Gots w (.ok p to)) := by
  have ti := int_yes hto
  clear hto
  have HC := Lib.hid hC
  clear hC
  go_enter Tryz.func26, Tryz.ntmps26
  go_wp2_with (first
    | (refine alloc_got rfl rfl ?_; intro w1 b1 e1 p1 l1 z1))
  have G1 := Lib.hid p1
  have L1 := Lib.hid l1
  have HB1 : Hid (w.heap.size ≤ b1 ∧ b1 < w1.heap.size) := ⟨by omega, by omega⟩
  clear e1 p1 l1 z1
  refine (HC.out _).mono ?_
  rintro e w2 ⟨l2, r, rfl, hp⟩
  have A1 := Lib.hid hp
  clear hp
  have L2 := Lib.hid (L1.out.trans (l2.mono L1.out.size))
  have G2 := Lib.hid (G1.out.below l2)
  have HB2 : Hid (w.heap.size ≤ b1 ∧ b1 < w2.heap.size) := ⟨HB1.out.1, Nat.lt_of_lt_of_le HB1.out.2 l2.size⟩
  have HB1' : Hid (w1.heap.size ≤ w2.heap.size) := l2.size
  clear l2
  go_upto_region 2 with (first
    | (refine alloc_got rfl rfl ?_; intro w3 b3 e3 p3 l3 z3)
    | (refine store_got (r := r) (to := to) (e := 0) (bad := 0) rfl (.tmp 7) (.tmp 12) rfl rfl rfl p3 ?_; intro w4 p4 l4 z4))
  have L24 := Lib.hid (two_new l3 l4 e3)
  have G4 := Lib.hid (G2.out.below L24.out)
  have Q4 := Lib.hid p4
  have HB4 : Hid (b1 ≠ b3 ∧ b1 < w4.heap.size ∧ w2.heap.size = b3) := ⟨by have := HB2.out.2; omega, Nat.lt_of_lt_of_le HB2.out.2 L24.out.size, e3⟩
  have L4 := Lib.hid (L2.out.trans (L24.out.mono L2.out.size))
  have q5 := Q4.out.c5
  have q6 := Q4.out.c6
  clear e3 p3 l3 z3 p4 l4 z4
  go_wp2_with (first
    | (refine load_got rfl (.tmp 7) rfl rfl Q4.out ?_)
    | (refine store_got (r := r) (to := to) (e := 0) (bad := 0) rfl (.tmp 6) (.tmp 23) rfl rfl rfl G4.out ?_; intro w9 p9 l9 z9))
  refine end_got rfl rfl p9 rfl ⟨old_below L4.out l9 HB1.out.1, ?_⟩
  have hA : PAt (In w.heap.size w9.heap.size) w9 r p := ((A1.out.by_below L24.out).keep (fun _ q => ⟨Nat.le_trans L1.out.size q.1, by rw [z9]; exact q.2⟩) (fun a q => cell_block (l9.block _ q.2 (fun e => Nat.lt_irrefl _ (Nat.lt_of_lt_of_le (e ▸ HB1.out.2) q.1)))))
  exact ⟨r, rfl, hA⟩
set_option maxHeartbeats 1000000 in
theorem refPart_star (hs : s.size ≤ 900) (hto : to < s.size) (hc : s[to] = 42)
    (hC : ∀ w, Calls Tryz.prog 32 #[.string s, .int .i64 at_, .int .i64 deep] w (Gots w (.ok p to))) :
    Calls Tryz.prog 26 #[.string s, .int .i64 at_, .int .i64 deep] w (Gots w (.ok (.mk 9 ⟨#[]⟩ [p] 0 (-1)) (to + 1))) := by
  have ti := int_no (show ¬ to = s.size by omega)
  have hi2 : (to : Int) < (s.size : Int) := by omega
  have hw1 : wrap64 ((to : Int) + 1) = ((to + 1 : Nat) : Int) := by unfold wrap64; omega
  have t123 : ((s[to].toNat : Int) == 123) = false := u8n (show ¬ s[to] = 123 by rw [hc]; decide)
  have t42 : ((s[to].toNat : Int) == 42) = true := u8y hc
  clear hc
  have HC := Lib.hid hC
  clear hC
  go_enter Tryz.func26, Tryz.ntmps26
  go_wp2_with (first
    | (refine alloc_got rfl rfl ?_; intro w1 b1 e1 p1 l1 z1))
  have G1 := Lib.hid p1
  have L1 := Lib.hid l1
  have HB1 : Hid (w.heap.size ≤ b1 ∧ b1 < w1.heap.size) := ⟨by omega, by omega⟩
  clear e1 p1 l1 z1
  refine (HC.out _).mono ?_
  rintro e w2 ⟨l2, r, rfl, hp⟩
  have A1 := Lib.hid hp
  clear hp
  have L2 := Lib.hid (L1.out.trans (l2.mono L1.out.size))
  have G2 := Lib.hid (G1.out.below l2)
  have HB2 : Hid (w.heap.size ≤ b1 ∧ b1 < w2.heap.size) := ⟨HB1.out.1, Nat.lt_of_lt_of_le HB1.out.2 l2.size⟩
  have HB1' : Hid (w1.heap.size ≤ w2.heap.size) := l2.size
  clear l2
  go_upto_region 2 with (first
    | (refine alloc_got rfl rfl ?_; intro w3 b3 e3 p3 l3 z3)
    | (refine store_got (r := r) (to := to) (e := 0) (bad := 0) rfl (.tmp 7) (.tmp 12) rfl rfl rfl p3 ?_; intro w4 p4 l4 z4))
  have L24 := Lib.hid (two_new l3 l4 e3)
  have G4 := Lib.hid (G2.out.below L24.out)
  have Q4 := Lib.hid p4
  have HB4 : Hid (b1 ≠ b3 ∧ b1 < w4.heap.size ∧ w2.heap.size = b3) := ⟨by have := HB2.out.2; omega, Nat.lt_of_lt_of_le HB2.out.2 L24.out.size, e3⟩
  have L4 := Lib.hid (L2.out.trans (L24.out.mono L2.out.size))
  have q5 := Q4.out.c5
  have q6 := Q4.out.c6
  clear e3 p3 l3 z3 p4 l4 z4
  have HRD := Lib.hid (fun j hj => Q4.out.raw j hj)
  go_upto_region 5 with (first
    | (refine load_at rfl (.tmp 24) rfl rfl (r := r) HRD.out ?_)
    | (refine slice_piece rfl (.tmp 25) rfl (r := r) rfl ?_; intro w5 b5 e5 r5 l5 z5)
    | (refine alloc_piece rfl rfl ?_; intro w6 b6 e6 p6 l6 z6)
    | (refine store_piece (r := ⟨9, ⟨#[]⟩, some ⟨b5, 0, none⟩, 1, 1, 0, -1⟩) rfl (.tmp 8) (.tmp 27) rfl rfl rfl p6 ?_; intro w7 p7 l7 z7))
  have L57 := two_new l6 l7 e6
  have L47 : Below w4.heap.size w4 w7 := l5.trans (L57.mono l5.size)
  have L27 := Lib.hid (L24.out.trans (L47.mono L24.out.size))
  have L7 := Lib.hid (L4.out.trans (L47.mono L4.out.size))
  have Q7 := Lib.hid (Q4.out.below L47)
  have G7 := Lib.hid (G4.out.below L47)
  have P7 := Lib.hid p7
  have hb5 : b5 < w5.heap.size := by rw [z5]; omega
  have R7 : Hid (Raws w7.heap.size w7 (.slice (some ⟨b5, 0, none⟩) 1 1) [r]) := (r5.below L57).more L57.size
  have HB7 : Hid (w2.heap.size ≤ b5 ∧ b5 < w7.heap.size ∧ b5 ≠ b6 ∧ b5 ≠ b1 ∧ b6 ≠ b1 ∧ w2.heap.size ≤ b6 ∧ b6 < w7.heap.size) := by
    have a1 := HB4.out
    have a2 := L24.out.size
    have a3 := HB2.out.2
    refine ⟨by omega, Nat.lt_of_lt_of_le hb5 L57.size, by omega, by omega, by omega, by omega, ?_⟩
    exact P7.out.lt
  have hq5 := Q7.out.c5
  obtain ⟨d3, d4, f3, f4⟩ := P7.out.d
  clear e5 r5 l5 z5 e6 p6 l6 z6 p7 l7 z7 L57 L47 hb5 q5 q6
  have P8 := P7
  have G8 := G7
  have L8 := L7
  have L28 := L27
  have R8 := R7
  have HS8 : Hid (b5 < w7.heap.size) := HB7.out.2.1
  go_wp2_with (first
    | (refine load_piece rfl (.tmp 8) rfl rfl P8.out ?_)
    | (refine build_got (r := ⟨9, ⟨#[]⟩, some ⟨b5, 0, none⟩, 1, 1, 0, -1⟩) rfl (.tmp 42) (.tmp 45) rfl rfl rfl ?_)
    | (refine store_got (r := ⟨9, ⟨#[]⟩, some ⟨b5, 0, none⟩, 1, 1, 0, -1⟩) (to := ((to + 1 : Nat) : Int)) (e := 0) (bad := 0) rfl (.tmp 6) (.tmp 46) rfl rfl rfl G8.out ?_; intro w9 p9 l9 z9))
  have hb := HB7.out
  refine end_got rfl rfl p9 rfl ⟨old_below L8.out l9 HB1.out.1, _, rfl, rep_done A1.out (fun q q1 q2 => ?_) L1.out.size ?_ ?_ ?_ ?_⟩
  · exact (l9.block q (Nat.lt_of_lt_of_le q2 L28.out.size) (fun e => Nat.lt_irrefl _ (Nat.lt_of_lt_of_le (e ▸ HB1.out.2) q1))).trans (L28.out.block q q2)
  · rw [z9]; exact L28.out.size
  · exact raws_beside R8.out HS8.out (by rw [z9]; exact Nat.le_refl _) HS8.out l9 hb.2.2.2.1
  · exact Nat.le_trans L2.out.size hb.1
  · rw [z9]; exact HS8.out
set_option maxHeartbeats 1000000 in
theorem refPart_plus (hs : s.size ≤ 900) (hto : to < s.size) (hc : s[to] = 43)
    (hC : ∀ w, Calls Tryz.prog 32 #[.string s, .int .i64 at_, .int .i64 deep] w (Gots w (.ok p to))) :
    Calls Tryz.prog 26 #[.string s, .int .i64 at_, .int .i64 deep] w (Gots w (.ok (.mk 9 ⟨#[]⟩ [p] 1 (-1)) (to + 1))) := by
  have ti := int_no (show ¬ to = s.size by omega)
  have hi2 : (to : Int) < (s.size : Int) := by omega
  have hw1 : wrap64 ((to : Int) + 1) = ((to + 1 : Nat) : Int) := by unfold wrap64; omega
  have t123 : ((s[to].toNat : Int) == 123) = false := u8n (show ¬ s[to] = 123 by rw [hc]; decide)
  have t42 : ((s[to].toNat : Int) == 42) = false := u8n (show ¬ s[to] = 42 by rw [hc]; decide)
  have t43 : ((s[to].toNat : Int) == 43) = true := u8y hc
  clear hc
  have HC := Lib.hid hC
  clear hC
  go_enter Tryz.func26, Tryz.ntmps26
  go_wp2_with (first
    | (refine alloc_got rfl rfl ?_; intro w1 b1 e1 p1 l1 z1))
  have G1 := Lib.hid p1
  have L1 := Lib.hid l1
  have HB1 : Hid (w.heap.size ≤ b1 ∧ b1 < w1.heap.size) := ⟨by omega, by omega⟩
  clear e1 p1 l1 z1
  refine (HC.out _).mono ?_
  rintro e w2 ⟨l2, r, rfl, hp⟩
  have A1 := Lib.hid hp
  clear hp
  have L2 := Lib.hid (L1.out.trans (l2.mono L1.out.size))
  have G2 := Lib.hid (G1.out.below l2)
  have HB2 : Hid (w.heap.size ≤ b1 ∧ b1 < w2.heap.size) := ⟨HB1.out.1, Nat.lt_of_lt_of_le HB1.out.2 l2.size⟩
  have HB1' : Hid (w1.heap.size ≤ w2.heap.size) := l2.size
  clear l2
  go_upto_region 2 with (first
    | (refine alloc_got rfl rfl ?_; intro w3 b3 e3 p3 l3 z3)
    | (refine store_got (r := r) (to := to) (e := 0) (bad := 0) rfl (.tmp 7) (.tmp 12) rfl rfl rfl p3 ?_; intro w4 p4 l4 z4))
  have L24 := Lib.hid (two_new l3 l4 e3)
  have G4 := Lib.hid (G2.out.below L24.out)
  have Q4 := Lib.hid p4
  have HB4 : Hid (b1 ≠ b3 ∧ b1 < w4.heap.size ∧ w2.heap.size = b3) := ⟨by have := HB2.out.2; omega, Nat.lt_of_lt_of_le HB2.out.2 L24.out.size, e3⟩
  have L4 := Lib.hid (L2.out.trans (L24.out.mono L2.out.size))
  have q5 := Q4.out.c5
  have q6 := Q4.out.c6
  clear e3 p3 l3 z3 p4 l4 z4
  have HRD := Lib.hid (fun j hj => Q4.out.raw j hj)
  go_upto_region 5 with (first
    | (refine load_at rfl (.tmp 24) rfl rfl (r := r) HRD.out ?_)
    | (refine slice_piece rfl (.tmp 25) rfl (r := r) rfl ?_; intro w5 b5 e5 r5 l5 z5)
    | (refine alloc_piece rfl rfl ?_; intro w6 b6 e6 p6 l6 z6)
    | (refine store_piece (r := ⟨9, ⟨#[]⟩, some ⟨b5, 0, none⟩, 1, 1, 0, -1⟩) rfl (.tmp 8) (.tmp 27) rfl rfl rfl p6 ?_; intro w7 p7 l7 z7))
  have L57 := two_new l6 l7 e6
  have L47 : Below w4.heap.size w4 w7 := l5.trans (L57.mono l5.size)
  have L27 := Lib.hid (L24.out.trans (L47.mono L24.out.size))
  have L7 := Lib.hid (L4.out.trans (L47.mono L4.out.size))
  have Q7 := Lib.hid (Q4.out.below L47)
  have G7 := Lib.hid (G4.out.below L47)
  have P7 := Lib.hid p7
  have hb5 : b5 < w5.heap.size := by rw [z5]; omega
  have R7 : Hid (Raws w7.heap.size w7 (.slice (some ⟨b5, 0, none⟩) 1 1) [r]) := (r5.below L57).more L57.size
  have HB7 : Hid (w2.heap.size ≤ b5 ∧ b5 < w7.heap.size ∧ b5 ≠ b6 ∧ b5 ≠ b1 ∧ b6 ≠ b1 ∧ w2.heap.size ≤ b6 ∧ b6 < w7.heap.size) := by
    have a1 := HB4.out
    have a2 := L24.out.size
    have a3 := HB2.out.2
    refine ⟨by omega, Nat.lt_of_lt_of_le hb5 L57.size, by omega, by omega, by omega, by omega, ?_⟩
    exact P7.out.lt
  have hq5 := Q7.out.c5
  obtain ⟨d3, d4, f3, f4⟩ := P7.out.d
  clear e5 r5 l5 z5 e6 p6 l6 z6 p7 l7 z7 L57 L47 hb5 q5 q6
  have BS : Beside b6 w7 (w7.setCell ⟨b6, 3, none⟩ (.int .i64 1)) := beside_put _ _ _ _
  have P8 := Lib.hid (P7.out.put3 1)
  have G8 := Lib.hid (G7.out.beside BS HB7.out.2.2.2.2.1.symm)
  have L8 := Lib.hid (old_below L7.out BS (Nat.le_trans L2.out.size HB7.out.2.2.2.2.2.1))
  have L28 := Lib.hid (old_below L27.out BS HB7.out.2.2.2.2.2.1)
  have HS8 : Hid (b5 < (w7.setCell ⟨b6, 3, none⟩ (.int .i64 1)).heap.size) := by unfold Hid; rw [World.size_setCell]; exact HB7.out.2.1
  have R8 := Lib.hid (raws_beside R7.out HB7.out.2.1 BS.size HB7.out.2.1 BS HB7.out.2.2.1)
  clear BS
  go_wp2_with (first
    | (refine load_piece rfl (.tmp 8) rfl rfl P8.out ?_)
    | (refine build_got (r := ⟨9, ⟨#[]⟩, some ⟨b5, 0, none⟩, 1, 1, 1, -1⟩) rfl (.tmp 50) (.tmp 53) rfl rfl rfl ?_)
    | (refine store_got (r := ⟨9, ⟨#[]⟩, some ⟨b5, 0, none⟩, 1, 1, 1, -1⟩) (to := ((to + 1 : Nat) : Int)) (e := 0) (bad := 0) rfl (.tmp 6) (.tmp 54) rfl rfl rfl G8.out ?_; intro w9 p9 l9 z9))
  have hb := HB7.out
  refine end_got rfl rfl p9 rfl ⟨old_below L8.out l9 HB1.out.1, _, rfl, rep_done A1.out (fun q q1 q2 => ?_) L1.out.size ?_ ?_ ?_ ?_⟩
  · exact (l9.block q (Nat.lt_of_lt_of_le q2 L28.out.size) (fun e => Nat.lt_irrefl _ (Nat.lt_of_lt_of_le (e ▸ HB1.out.2) q1))).trans (L28.out.block q q2)
  · rw [z9]; exact L28.out.size
  · exact raws_beside R8.out HS8.out (by rw [z9]; exact Nat.le_refl _) HS8.out l9 hb.2.2.2.1
  · exact Nat.le_trans L2.out.size hb.1
  · rw [z9]; exact HS8.out
set_option maxHeartbeats 1000000 in
theorem refPart_quest (hs : s.size ≤ 900) (hto : to < s.size) (hc : s[to] = 63)
    (hC : ∀ w, Calls Tryz.prog 32 #[.string s, .int .i64 at_, .int .i64 deep] w (Gots w (.ok p to))) :
    Calls Tryz.prog 26 #[.string s, .int .i64 at_, .int .i64 deep] w (Gots w (.ok (.mk 9 ⟨#[]⟩ [p] 0 1) (to + 1))) := by
  have ti := int_no (show ¬ to = s.size by omega)
  have hi2 : (to : Int) < (s.size : Int) := by omega
  have hw1 : wrap64 ((to : Int) + 1) = ((to + 1 : Nat) : Int) := by unfold wrap64; omega
  have t123 : ((s[to].toNat : Int) == 123) = false := u8n (show ¬ s[to] = 123 by rw [hc]; decide)
  have t42 : ((s[to].toNat : Int) == 42) = false := u8n (show ¬ s[to] = 42 by rw [hc]; decide)
  have t43 : ((s[to].toNat : Int) == 43) = false := u8n (show ¬ s[to] = 43 by rw [hc]; decide)
  have t63 : ((s[to].toNat : Int) == 63) = true := u8y hc
  clear hc
  have HC := Lib.hid hC
  clear hC
  go_enter Tryz.func26, Tryz.ntmps26
  go_wp2_with (first
    | (refine alloc_got rfl rfl ?_; intro w1 b1 e1 p1 l1 z1))
  have G1 := Lib.hid p1
  have L1 := Lib.hid l1
  have HB1 : Hid (w.heap.size ≤ b1 ∧ b1 < w1.heap.size) := ⟨by omega, by omega⟩
  clear e1 p1 l1 z1
  refine (HC.out _).mono ?_
  rintro e w2 ⟨l2, r, rfl, hp⟩
  have A1 := Lib.hid hp
  clear hp
  have L2 := Lib.hid (L1.out.trans (l2.mono L1.out.size))
  have G2 := Lib.hid (G1.out.below l2)
  have HB2 : Hid (w.heap.size ≤ b1 ∧ b1 < w2.heap.size) := ⟨HB1.out.1, Nat.lt_of_lt_of_le HB1.out.2 l2.size⟩
  have HB1' : Hid (w1.heap.size ≤ w2.heap.size) := l2.size
  clear l2
  go_upto_region 2 with (first
    | (refine alloc_got rfl rfl ?_; intro w3 b3 e3 p3 l3 z3)
    | (refine store_got (r := r) (to := to) (e := 0) (bad := 0) rfl (.tmp 7) (.tmp 12) rfl rfl rfl p3 ?_; intro w4 p4 l4 z4))
  have L24 := Lib.hid (two_new l3 l4 e3)
  have G4 := Lib.hid (G2.out.below L24.out)
  have Q4 := Lib.hid p4
  have HB4 : Hid (b1 ≠ b3 ∧ b1 < w4.heap.size ∧ w2.heap.size = b3) := ⟨by have := HB2.out.2; omega, Nat.lt_of_lt_of_le HB2.out.2 L24.out.size, e3⟩
  have L4 := Lib.hid (L2.out.trans (L24.out.mono L2.out.size))
  have q5 := Q4.out.c5
  have q6 := Q4.out.c6
  clear e3 p3 l3 z3 p4 l4 z4
  have HRD := Lib.hid (fun j hj => Q4.out.raw j hj)
  go_upto_region 5 with (first
    | (refine load_at rfl (.tmp 24) rfl rfl (r := r) HRD.out ?_)
    | (refine slice_piece rfl (.tmp 25) rfl (r := r) rfl ?_; intro w5 b5 e5 r5 l5 z5)
    | (refine alloc_piece rfl rfl ?_; intro w6 b6 e6 p6 l6 z6)
    | (refine store_piece (r := ⟨9, ⟨#[]⟩, some ⟨b5, 0, none⟩, 1, 1, 0, -1⟩) rfl (.tmp 8) (.tmp 27) rfl rfl rfl p6 ?_; intro w7 p7 l7 z7))
  have L57 := two_new l6 l7 e6
  have L47 : Below w4.heap.size w4 w7 := l5.trans (L57.mono l5.size)
  have L27 := Lib.hid (L24.out.trans (L47.mono L24.out.size))
  have L7 := Lib.hid (L4.out.trans (L47.mono L4.out.size))
  have Q7 := Lib.hid (Q4.out.below L47)
  have G7 := Lib.hid (G4.out.below L47)
  have P7 := Lib.hid p7
  have hb5 : b5 < w5.heap.size := by rw [z5]; omega
  have R7 : Hid (Raws w7.heap.size w7 (.slice (some ⟨b5, 0, none⟩) 1 1) [r]) := (r5.below L57).more L57.size
  have HB7 : Hid (w2.heap.size ≤ b5 ∧ b5 < w7.heap.size ∧ b5 ≠ b6 ∧ b5 ≠ b1 ∧ b6 ≠ b1 ∧ w2.heap.size ≤ b6 ∧ b6 < w7.heap.size) := by
    have a1 := HB4.out
    have a2 := L24.out.size
    have a3 := HB2.out.2
    refine ⟨by omega, Nat.lt_of_lt_of_le hb5 L57.size, by omega, by omega, by omega, by omega, ?_⟩
    exact P7.out.lt
  have hq5 := Q7.out.c5
  obtain ⟨d3, d4, f3, f4⟩ := P7.out.d
  clear e5 r5 l5 z5 e6 p6 l6 z6 p7 l7 z7 L57 L47 hb5 q5 q6
  have BS : Beside b6 w7 (w7.setCell ⟨b6, 4, none⟩ (.int .i64 1)) := beside_put _ _ _ _
  have P8 := Lib.hid (P7.out.put4 1)
  have G8 := Lib.hid (G7.out.beside BS HB7.out.2.2.2.2.1.symm)
  have L8 := Lib.hid (old_below L7.out BS (Nat.le_trans L2.out.size HB7.out.2.2.2.2.2.1))
  have L28 := Lib.hid (old_below L27.out BS HB7.out.2.2.2.2.2.1)
  have HS8 : Hid (b5 < (w7.setCell ⟨b6, 4, none⟩ (.int .i64 1)).heap.size) := by unfold Hid; rw [World.size_setCell]; exact HB7.out.2.1
  have R8 := Lib.hid (raws_beside R7.out HB7.out.2.1 BS.size HB7.out.2.1 BS HB7.out.2.2.1)
  clear BS
  go_wp2_with (first
    | (refine load_piece rfl (.tmp 8) rfl rfl P8.out ?_)
    | (refine build_got (r := ⟨9, ⟨#[]⟩, some ⟨b5, 0, none⟩, 1, 1, 0, 1⟩) rfl (.tmp 58) (.tmp 61) rfl rfl rfl ?_)
    | (refine store_got (r := ⟨9, ⟨#[]⟩, some ⟨b5, 0, none⟩, 1, 1, 0, 1⟩) (to := ((to + 1 : Nat) : Int)) (e := 0) (bad := 0) rfl (.tmp 6) (.tmp 62) rfl rfl rfl G8.out ?_; intro w9 p9 l9 z9))
  have hb := HB7.out
  refine end_got rfl rfl p9 rfl ⟨old_below L8.out l9 HB1.out.1, _, rfl, rep_done A1.out (fun q q1 q2 => ?_) L1.out.size ?_ ?_ ?_ ?_⟩
  · exact (l9.block q (Nat.lt_of_lt_of_le q2 L28.out.size) (fun e => Nat.lt_irrefl _ (Nat.lt_of_lt_of_le (e ▸ HB1.out.2) q1))).trans (L28.out.block q q2)
  · rw [z9]; exact L28.out.size
  · exact raws_beside R8.out HS8.out (by rw [z9]; exact Nat.le_refl _) HS8.out l9 hb.2.2.2.1
  · exact Nat.le_trans L2.out.size hb.1
  · rw [z9]; exact HS8.out
set_option maxHeartbeats 1000000 in
theorem refPart_other (hs : s.size ≤ 900) (hto : to < s.size) (h123 : ¬ s[to] = 123) (h42 : ¬ s[to] = 42) (h43 : ¬ s[to] = 43) (h63 : ¬ s[to] = 63)
    (hC : ∀ w, Calls Tryz.prog 32 #[.string s, .int .i64 at_, .int .i64 deep] w (Gots w (.ok p to))) :
    Calls Tryz.prog 26 #[.string s, .int .i64 at_, .int .i64 deep] w (Gots w (.ok p to)) := by
  have ti := int_no (show ¬ to = s.size by omega)
  have hi2 : (to : Int) < (s.size : Int) := by omega
  have hw1 : wrap64 ((to : Int) + 1) = ((to + 1 : Nat) : Int) := by unfold wrap64; omega
  have t123 : ((s[to].toNat : Int) == 123) = false := u8n h123
  have t42 : ((s[to].toNat : Int) == 42) = false := u8n h42
  have t43 : ((s[to].toNat : Int) == 43) = false := u8n h43
  have t63 : ((s[to].toNat : Int) == 63) = false := u8n h63
  clear h123 h42 h43 h63
  have HC := Lib.hid hC
  clear hC
  go_enter Tryz.func26, Tryz.ntmps26
  go_wp2_with (first
    | (refine alloc_got rfl rfl ?_; intro w1 b1 e1 p1 l1 z1))
  have G1 := Lib.hid p1
  have L1 := Lib.hid l1
  have HB1 : Hid (w.heap.size ≤ b1 ∧ b1 < w1.heap.size) := ⟨by omega, by omega⟩
  clear e1 p1 l1 z1
  refine (HC.out _).mono ?_
  rintro e w2 ⟨l2, r, rfl, hp⟩
  have A1 := Lib.hid hp
  clear hp
  have L2 := Lib.hid (L1.out.trans (l2.mono L1.out.size))
  have G2 := Lib.hid (G1.out.below l2)
  have HB2 : Hid (w.heap.size ≤ b1 ∧ b1 < w2.heap.size) := ⟨HB1.out.1, Nat.lt_of_lt_of_le HB1.out.2 l2.size⟩
  have HB1' : Hid (w1.heap.size ≤ w2.heap.size) := l2.size
  clear l2
  go_upto_region 2 with (first
    | (refine alloc_got rfl rfl ?_; intro w3 b3 e3 p3 l3 z3)
    | (refine store_got (r := r) (to := to) (e := 0) (bad := 0) rfl (.tmp 7) (.tmp 12) rfl rfl rfl p3 ?_; intro w4 p4 l4 z4))
  have L24 := Lib.hid (two_new l3 l4 e3)
  have G4 := Lib.hid (G2.out.below L24.out)
  have Q4 := Lib.hid p4
  have HB4 : Hid (b1 ≠ b3 ∧ b1 < w4.heap.size ∧ w2.heap.size = b3) := ⟨by have := HB2.out.2; omega, Nat.lt_of_lt_of_le HB2.out.2 L24.out.size, e3⟩
  have L4 := Lib.hid (L2.out.trans (L24.out.mono L2.out.size))
  have q5 := Q4.out.c5
  have q6 := Q4.out.c6
  clear e3 p3 l3 z3 p4 l4 z4
  have HRD := Lib.hid (fun j hj => Q4.out.raw j hj)
  go_upto_region 5 with (first
    | (refine load_at rfl (.tmp 24) rfl rfl (r := r) HRD.out ?_)
    | (refine slice_piece rfl (.tmp 25) rfl (r := r) rfl ?_; intro w5 b5 e5 r5 l5 z5)
    | (refine alloc_piece rfl rfl ?_; intro w6 b6 e6 p6 l6 z6)
    | (refine store_piece (r := ⟨9, ⟨#[]⟩, some ⟨b5, 0, none⟩, 1, 1, 0, -1⟩) rfl (.tmp 8) (.tmp 27) rfl rfl rfl p6 ?_; intro w7 p7 l7 z7))
  have L57 := two_new l6 l7 e6
  have L47 : Below w4.heap.size w4 w7 := l5.trans (L57.mono l5.size)
  have L27 := Lib.hid (L24.out.trans (L47.mono L24.out.size))
  have L7 := Lib.hid (L4.out.trans (L47.mono L4.out.size))
  have Q7 := Lib.hid (Q4.out.below L47)
  have G7 := Lib.hid (G4.out.below L47)
  have P7 := Lib.hid p7
  have hb5 : b5 < w5.heap.size := by rw [z5]; omega
  have R7 : Hid (Raws w7.heap.size w7 (.slice (some ⟨b5, 0, none⟩) 1 1) [r]) := (r5.below L57).more L57.size
  have HB7 : Hid (w2.heap.size ≤ b5 ∧ b5 < w7.heap.size ∧ b5 ≠ b6 ∧ b5 ≠ b1 ∧ b6 ≠ b1 ∧ w2.heap.size ≤ b6 ∧ b6 < w7.heap.size) := by
    have a1 := HB4.out
    have a2 := L24.out.size
    have a3 := HB2.out.2
    refine ⟨by omega, Nat.lt_of_lt_of_le hb5 L57.size, by omega, by omega, by omega, by omega, ?_⟩
    exact P7.out.lt
  have hq5 := Q7.out.c5
  obtain ⟨d3, d4, f3, f4⟩ := P7.out.d
  clear e5 r5 l5 z5 e6 p6 l6 z6 p7 l7 z7 L57 L47 hb5 q5 q6
  go_wp2_with (first
    | (refine load_got rfl (.tmp 7) rfl rfl Q7.out ?_)
    | (refine store_got (r := r) (to := to) (e := 0) (bad := 0) rfl (.tmp 6) (.tmp 63) rfl rfl rfl G7.out ?_; intro w9 p9 l9 z9))
  refine end_got rfl rfl p9 rfl ⟨old_below L7.out l9 HB1.out.1, ?_⟩
  have hA : PAt (In w.heap.size w9.heap.size) w9 r p := (A1.out.by_below L27.out).keep (fun _ q => ⟨Nat.le_trans L1.out.size q.1, by rw [z9]; exact q.2⟩) (fun a q => cell_block (l9.block _ q.2 (fun e => Nat.lt_irrefl _ (Nat.lt_of_lt_of_le (e ▸ HB1.out.2) q.1))))
  exact ⟨r, rfl, hA⟩
set_option maxHeartbeats 1000000 in
theorem refPart_brace (hs : s.size ≤ 900) (hto : to < s.size) (hc : s[to] = 123)
    (hC : ∀ w, Calls Tryz.prog 32 #[.string s, .int .i64 at_, .int .i64 deep] w (Gots w (.ok p to))) :
    Calls Tryz.prog 26 #[.string s, .int .i64 at_, .int .i64 deep] w (Gots w (timesGot s.data.toList p to)) := by
  have ti := int_no (show ¬ to = s.size by omega)
  have hi2 : (to : Int) < (s.size : Int) := by omega
  have hw1 : wrap64 ((to : Int) + 1) = ((to + 1 : Nat) : Int) := by unfold wrap64; omega
  have t123 : ((s[to].toNat : Int) == 123) = true := u8y hc
  clear hc
  have HC := Lib.hid hC
  clear hC
  go_enter Tryz.func26, Tryz.ntmps26
  go_wp2_with (first
    | (refine alloc_got rfl rfl ?_; intro w1 b1 e1 p1 l1 z1))
  have G1 := Lib.hid p1
  have L1 := Lib.hid l1
  have HB1 : Hid (w.heap.size ≤ b1 ∧ b1 < w1.heap.size) := ⟨by omega, by omega⟩
  clear e1 p1 l1 z1
  refine (HC.out _).mono ?_
  rintro e w2 ⟨l2, r, rfl, hp⟩
  have A1 := Lib.hid hp
  clear hp
  have L2 := Lib.hid (L1.out.trans (l2.mono L1.out.size))
  have G2 := Lib.hid (G1.out.below l2)
  have HB2 : Hid (w.heap.size ≤ b1 ∧ b1 < w2.heap.size) := ⟨HB1.out.1, Nat.lt_of_lt_of_le HB1.out.2 l2.size⟩
  have HB1' : Hid (w1.heap.size ≤ w2.heap.size) := l2.size
  clear l2
  go_upto_region 2 with (first
    | (refine alloc_got rfl rfl ?_; intro w3 b3 e3 p3 l3 z3)
    | (refine store_got (r := r) (to := to) (e := 0) (bad := 0) rfl (.tmp 7) (.tmp 12) rfl rfl rfl p3 ?_; intro w4 p4 l4 z4))
  have L24 := Lib.hid (two_new l3 l4 e3)
  have G4 := Lib.hid (G2.out.below L24.out)
  have Q4 := Lib.hid p4
  have HB4 : Hid (b1 ≠ b3 ∧ b1 < w4.heap.size ∧ w2.heap.size = b3) := ⟨by have := HB2.out.2; omega, Nat.lt_of_lt_of_le HB2.out.2 L24.out.size, e3⟩
  have L4 := Lib.hid (L2.out.trans (L24.out.mono L2.out.size))
  have q5 := Q4.out.c5
  have q6 := Q4.out.c6
  clear e3 p3 l3 z3 p4 l4 z4
  have HRD := Lib.hid (fun j hj => Q4.out.raw j hj)
  go_upto_region 5 with (first
    | (refine load_at rfl (.tmp 24) rfl rfl (r := r) HRD.out ?_)
    | (refine slice_piece rfl (.tmp 25) rfl (r := r) rfl ?_; intro w5 b5 e5 r5 l5 z5)
    | (refine alloc_piece rfl rfl ?_; intro w6 b6 e6 p6 l6 z6)
    | (refine store_piece (r := ⟨9, ⟨#[]⟩, some ⟨b5, 0, none⟩, 1, 1, 0, -1⟩) rfl (.tmp 8) (.tmp 27) rfl rfl rfl p6 ?_; intro w7 p7 l7 z7))
  have L57 := two_new l6 l7 e6
  have L47 : Below w4.heap.size w4 w7 := l5.trans (L57.mono l5.size)
  have L27 := Lib.hid (L24.out.trans (L47.mono L24.out.size))
  have L7 := Lib.hid (L4.out.trans (L47.mono L4.out.size))
  have Q7 := Lib.hid (Q4.out.below L47)
  have G7 := Lib.hid (G4.out.below L47)
  have P7 := Lib.hid p7
  have hb5 : b5 < w5.heap.size := by rw [z5]; omega
  have R7 : Hid (Raws w7.heap.size w7 (.slice (some ⟨b5, 0, none⟩) 1 1) [r]) := (r5.below L57).more L57.size
  have HB7 : Hid (w2.heap.size ≤ b5 ∧ b5 < w7.heap.size ∧ b5 ≠ b6 ∧ b5 ≠ b1 ∧ b6 ≠ b1 ∧ w2.heap.size ≤ b6 ∧ b6 < w7.heap.size) := by
    have a1 := HB4.out
    have a2 := L24.out.size
    have a3 := HB2.out.2
    refine ⟨by omega, Nat.lt_of_lt_of_le hb5 L57.size, by omega, by omega, by omega, by omega, ?_⟩
    exact P7.out.lt
  have hq5 := Q7.out.c5
  obtain ⟨d3, d4, f3, f4⟩ := P7.out.d
  clear e5 r5 l5 z5 e6 p6 l6 z6 p7 l7 z7 L57 L47 hb5 q5 q6
  have HRE := Lib.hid (fun j hj => Q7.out.raw j hj)
  have A7 := Lib.hid (A1.out.by_below L27.out)
  have hlo : w1.heap.size ≤ w7.heap.size := Nat.le_trans HB1'.out L27.out.size
  have HT := Lib.hid (refTimes_any hto hs hlo A7.out)
  clear hlo
  go_wp2_with (first
    | (refine load_at rfl (.tmp 37) rfl rfl (r := r) HRE.out ?_))
  refine HT.out.mono ?_
  rintro e w8 hg
  obtain ⟨r8, to8, er8, bad8, rfl⟩ := got_form hg
  have GG := Lib.hid hg
  have G8 := Lib.hid (G7.out.below hg.1)
  have L8 := Lib.hid (L7.out.trans (hg.1.mono L7.out.size))
  clear hg
  go_wp2_with (first
    | (refine store_got (r := r8) (to := to8) (e := er8) (bad := bad8) rfl (.tmp 6) (.tmp 39) rfl rfl rfl G8.out ?_; intro w9 p9 l9 z9))
  refine end_got rfl rfl p9 rfl ?_
  exact gots_more GG.out (old_below L8.out l9 HB1.out.1) l9 L1.out.size HB1.out.2
end
/-- an atom of the document's own -/
def RAtomOk (R : Nat → Nat → Option Got) (s : ByteArray) (at_ deep : Nat) : Prop :=
  ∃ g, atom R s.data.toList at_ deep = some g ∧ Fine s.data.toList (at_ + 1) g ∧ ∀ w, Calls Tryz.prog 32 #[.string s, .int .i64 at_, .int .i64 deep] w (Gots w g)
theorem refPart_any {R : Nat → Nat → Option Got} {s : ByteArray} {at_ deep : Nat} (hA : RAtomOk R s at_ deep) (hs : s.size ≤ 900) : ∃ g, M14.part R s.data.toList at_ deep = some g ∧ Fine s.data.toList (at_ + 1) g ∧ ∀ w, Calls Tryz.prog 26 #[.string s, .int .i64 at_, .int .i64 deep] w (Gots w g) := by
  have hlen : s.data.toList.length = s.size := (Lib.size_eq s).symm
  obtain ⟨g, e, hf, hC⟩ := hA
  match g, hf, hC with
  | .bad q er, hf, hC => exact ⟨.bad q er, by unfold M14.part; rw [e], hf, fun w => refPart_bad hC⟩
  | .ok p to, hf, hC =>
    have hto := hf.2.1
    refine ⟨often s.data.toList p to, by unfold M14.part; rw [e], often_fine hf.1 hf.2.1 hf.2.2, fun w => ?_⟩
    by_cases he : to = s.size
    · have : often s.data.toList p to = .ok p to := by unfold often; rw [if_pos (by omega)]
      rw [this]; exact refPart_end he hC
    · have hlt : to < s.size := by omega
      have hg := getD_at' hlt
      by_cases h123 : s[to] = 123
      · have : often s.data.toList p to = timesGot s.data.toList p to := by
          unfold often timesGot
          rw [if_neg (by omega), if_pos (by rw [hg]; exact h123), timesG_is]
        rw [this]; exact refPart_brace hs hlt h123 hC
      · by_cases h42 : s[to] = 42
        · have : often s.data.toList p to = .ok (.mk 9 ⟨#[]⟩ [p] 0 (-1)) (to + 1) := by
            unfold often
            rw [if_neg (by omega), if_neg (by rw [hg]; exact h123), if_pos (by rw [hg]; exact h42)]
          rw [this]; exact refPart_star hs hlt h42 hC
        · by_cases h43 : s[to] = 43
          · have : often s.data.toList p to = .ok (.mk 9 ⟨#[]⟩ [p] 1 (-1)) (to + 1) := by
              unfold often
              rw [if_neg (by omega), if_neg (by rw [hg]; exact h123), if_neg (by rw [hg]; exact h42), if_pos (by rw [hg]; exact h43)]
            rw [this]; exact refPart_plus hs hlt h43 hC
          · by_cases h63 : s[to] = 63
            · have : often s.data.toList p to = .ok (.mk 9 ⟨#[]⟩ [p] 0 1) (to + 1) := by
                unfold often
                rw [if_neg (by omega), if_neg (by rw [hg]; exact h123), if_neg (by rw [hg]; exact h42), if_neg (by rw [hg]; exact h43), if_pos (by rw [hg]; exact h63)]
              rw [this]; exact refPart_quest hs hlt h63 hC
            · have : often s.data.toList p to = .ok p to := by
                unfold often
                rw [if_neg (by omega), if_neg (by rw [hg]; exact h123), if_neg (by rw [hg]; exact h42), if_neg (by rw [hg]; exact h43), if_neg (by rw [hg]; exact h63)]
              rw [this]; exact refPart_other hs hlt h123 h42 h43 h63 hC
end Go.Proofs.YtenlogfiabhfmaaGreatDoor.W14
/-
  Layer 14 (pattern), walk of the program's atom. The conditions stand in the statements.
-/
namespace Go.Proofs.YtenlogfiabhfmaaGreatDoor.W14
set_option maxRecDepth 100000
open Go Go.RowKit Go.Proofs.YtenlogfiabhfmaaGreatDoor.M14
open Go.Proofs.YtenlogfiabhfmaaGreatDoor.Row256 (Beside)
open Go.Proofs.YtenlogfiabhfmaaGreatDoor.Kit (ret_str ret_bool ret_int mk_of mk_bytes ba_ext below_draws on list_full list_ne list_none list_nil)

theorem reads_form {b : Nat} {s : ByteArray} {deep : Nat} {w w' : World} {g : Got} {e : Ending} (h : Reads b s deep w g e w') : ∃ r er, e = .returned (.tuple #[.agg (rawA r), .int .i64 er]) := by
  match g, h with
  | .ok p to, h => obtain ⟨_, r, e, _⟩ := h; exact ⟨r, 0, e⟩
  | .bad q er, h => obtain ⟨_, _, e, _⟩ := h; exact ⟨zeroR, er, e⟩
/-- what was read, told in a box of the caller's -/
theorem reads_more {b c : Nat} {s : ByteArray} {deep : Nat} {w w1 w' w'' : World} {g : Got} {e : Ending} (h : Reads b s deep w1 g e w') (l : Below w.heap.size w w1) (k : Beside c w' w'') (h1 : w.heap.size ≤ c) (h2 : c < w1.heap.size) (hb : b ≠ c) : Reads b s deep w g e w'' := by
  refine ⟨beside_fresh ((Beside.of l).trans h.1) k h1, ?_⟩
  match g, h with
  | .ok p to, h =>
    obtain ⟨_, r, e, hr, hp⟩ := h
    exact ⟨r, e, hr.beside k hb, (hp.by_beside k h2).by_less l.size⟩
  | .bad q er, h =>
    obtain ⟨_, he, e, d, hr⟩ := h
    exact ⟨he, e, d, hr.beside k hb⟩
/-- an atom that begins at a place: what the text of R says -/
def AtomOk (R : Nat → Nat → Option Got) (s : ByteArray) (at_ deep : Nat) : Prop :=
  ∃ g, atom R s.data.toList at_ deep = some g ∧ Fine s.data.toList (at_ + 1) g ∧ ∀ w b, Reader w b s at_ deep → Calls Tryz.prog 30 #[.pointer (some ⟨b, 0, none⟩)] w (Reads b s deep w g)
section
variable {w : World} {b : Nat} {s : ByteArray} {at_ deep : Nat}
set_option maxHeartbeats 1000000 in
theorem atom_brackets (h : Reader w b s at_ deep) (hat : at_ < s.size) (hs : s.size ≤ 900) (h40 : s[at_] = 40) {g : Got}
    (hC : ∀ w b, Reader w b s at_ deep → Calls Tryz.prog 35 #[.pointer (some ⟨b, 0, none⟩)] w (Reads b s deep w g)) :
    Calls Tryz.prog 30 #[.pointer (some ⟨b, 0, none⟩)] w (Reads b s deep w g) := by
  have hlt := h.lt
  have H := Lib.hid h
  have h1 : (at_ : Int) ≤ (s.size : Int) := by omega
  have hz : (s.extract at_ s.size).size = s.size - at_ := by rw [ByteArray.size_extract]; omega
  have hz0 : 0 < (s.extract at_ s.size).size := by omega
  have hz1 : (1 : Int) ≤ ((s.extract at_ s.size).size : Int) := by omega
  have hz2 : (0 : Int) < ((s.extract at_ s.size).size : Int) := by omega
  have hcc : (s.extract at_ s.size)[0] = s[at_] := by
    have := Kit.byte_get (s.extract at_ s.size) 0 hz0
    rw [Kit.drop_bytes, Kit.drop_next s at_ hat] at this
    exact this.symm
  have hw1 : wrap64 ((at_ : Int) + 1) = ((at_ + 1 : Nat) : Int) := by unfold wrap64; omega
  have t40 : (((s.extract at_ s.size)[0].toNat : Int) == 40) = true := by rw [hcc]; exact u8y h40
  have HC := Lib.hid hC
  clear hC hcc hw1 h40
  clear h
  go_enter Tryz.func30, Tryz.ntmps30
  go_wp2_with (first | (refine alloc_piece rfl rfl ?_; intro w1 b1 e1 p1 l1 z1))
  have H1 := Lib.hid (H.out.below l1)
  have P1 := Lib.hid p1
  have L1 := Lib.hid l1
  have c0 := H1.out.c0
  have c1 := H1.out.c1
  clear p1 l1
  go_quiet (fail)
  have P2 : Hid (PBox (w1.drewN nq) b1 zeroR) := P1
  have H2 : Hid (Reader (w1.drewN nq) b s at_ deep) := H1
  have L2 := Lib.hid (L1.out.trans ((below_draws w1 nq).mono L1.out.size))
  have hzz : w1.heap.size ≤ (w1.drewN nq).heap.size := Nat.le_refl _
  have d1 := H2.out.c1
  have f1 := H2.out.free 1
  have hne : b1 ≠ b := by omega
  generalize w1.drewN nq = w2 at *
  go_wp2_with fail
  refine (HC.out _ _ H2.out).mono ?_
  rintro e w3 hr
  obtain ⟨r, er, rfl⟩ := reads_form hr
  have R3 := Lib.hid hr
  have P3 := Lib.hid (P2.out.beside hr.1 hne)
  clear hr
  go_wp2_with (first | (refine store_piece (r := r) rfl (.tmp 2) (.tmp 20) rfl rfl rfl P3.out ?_; intro w4 p4 l4 z4))
  refine end_piece2 rfl rfl p4 rfl ?_
  exact reads_more R3.out L2.out l4 (by omega) (by omega) hne.symm
set_option maxHeartbeats 1000000 in
theorem atom_set (h : Reader w b s at_ deep) (hat : at_ < s.size) (hs : s.size ≤ 900) (h40 : ¬ s[at_] = 40) (h91 : s[at_] = 91) {g : Got}
    (hC : ∀ w b, Reader w b s at_ deep → Calls Tryz.prog 36 #[.pointer (some ⟨b, 0, none⟩)] w (Reads b s deep w g)) :
    Calls Tryz.prog 30 #[.pointer (some ⟨b, 0, none⟩)] w (Reads b s deep w g) := by
  have hlt := h.lt
  have H := Lib.hid h
  have h1 : (at_ : Int) ≤ (s.size : Int) := by omega
  have hz : (s.extract at_ s.size).size = s.size - at_ := by rw [ByteArray.size_extract]; omega
  have hz0 : 0 < (s.extract at_ s.size).size := by omega
  have hz1 : (1 : Int) ≤ ((s.extract at_ s.size).size : Int) := by omega
  have hz2 : (0 : Int) < ((s.extract at_ s.size).size : Int) := by omega
  have hcc : (s.extract at_ s.size)[0] = s[at_] := by
    have := Kit.byte_get (s.extract at_ s.size) 0 hz0
    rw [Kit.drop_bytes, Kit.drop_next s at_ hat] at this
    exact this.symm
  have hw1 : wrap64 ((at_ : Int) + 1) = ((at_ + 1 : Nat) : Int) := by unfold wrap64; omega
  have t40 : (((s.extract at_ s.size)[0].toNat : Int) == 40) = false := by rw [hcc]; exact u8n h40
  have t91 : (((s.extract at_ s.size)[0].toNat : Int) == 91) = true := by rw [hcc]; exact u8y h91
  have HC := Lib.hid hC
  clear hC hcc hw1 h40 h91
  clear h
  go_enter Tryz.func30, Tryz.ntmps30
  go_wp2_with (first | (refine alloc_piece rfl rfl ?_; intro w1 b1 e1 p1 l1 z1))
  have H1 := Lib.hid (H.out.below l1)
  have P1 := Lib.hid p1
  have L1 := Lib.hid l1
  have c0 := H1.out.c0
  have c1 := H1.out.c1
  clear p1 l1
  go_quiet (fail)
  have P2 : Hid (PBox (w1.drewN nq) b1 zeroR) := P1
  have H2 : Hid (Reader (w1.drewN nq) b s at_ deep) := H1
  have L2 := Lib.hid (L1.out.trans ((below_draws w1 nq).mono L1.out.size))
  have hzz : w1.heap.size ≤ (w1.drewN nq).heap.size := Nat.le_refl _
  have d1 := H2.out.c1
  have f1 := H2.out.free 1
  have hne : b1 ≠ b := by omega
  generalize w1.drewN nq = w2 at *
  go_wp2_with fail
  refine (HC.out _ _ H2.out).mono ?_
  rintro e w3 hr
  obtain ⟨r, er, rfl⟩ := reads_form hr
  have R3 := Lib.hid hr
  have P3 := Lib.hid (P2.out.beside hr.1 hne)
  clear hr
  go_wp2_with (first | (refine store_piece (r := r) rfl (.tmp 2) (.tmp 26) rfl rfl rfl P3.out ?_; intro w4 p4 l4 z4))
  refine end_piece2 rfl rfl p4 rfl ?_
  exact reads_more R3.out L2.out l4 (by omega) (by omega) hne.symm
set_option maxHeartbeats 1000000 in
theorem atom_escaped (h : Reader w b s at_ deep) (hat : at_ < s.size) (hs : s.size ≤ 900) (h40 : ¬ s[at_] = 40) (h91 : ¬ s[at_] = 91) (h92 : s[at_] = 92) {g : Got}
    (hC : ∀ w b, Reader w b s at_ deep → Calls Tryz.prog 37 #[.pointer (some ⟨b, 0, none⟩)] w (Reads b s deep w g)) :
    Calls Tryz.prog 30 #[.pointer (some ⟨b, 0, none⟩)] w (Reads b s deep w g) := by
  have hlt := h.lt
  have H := Lib.hid h
  have h1 : (at_ : Int) ≤ (s.size : Int) := by omega
  have hz : (s.extract at_ s.size).size = s.size - at_ := by rw [ByteArray.size_extract]; omega
  have hz0 : 0 < (s.extract at_ s.size).size := by omega
  have hz1 : (1 : Int) ≤ ((s.extract at_ s.size).size : Int) := by omega
  have hz2 : (0 : Int) < ((s.extract at_ s.size).size : Int) := by omega
  have hcc : (s.extract at_ s.size)[0] = s[at_] := by
    have := Kit.byte_get (s.extract at_ s.size) 0 hz0
    rw [Kit.drop_bytes, Kit.drop_next s at_ hat] at this
    exact this.symm
  have hw1 : wrap64 ((at_ : Int) + 1) = ((at_ + 1 : Nat) : Int) := by unfold wrap64; omega
  have t40 : (((s.extract at_ s.size)[0].toNat : Int) == 40) = false := by rw [hcc]; exact u8n h40
  have t91 : (((s.extract at_ s.size)[0].toNat : Int) == 91) = false := by rw [hcc]; exact u8n h91
  have t92 : (((s.extract at_ s.size)[0].toNat : Int) == 92) = true := by rw [hcc]; exact u8y h92
  have HC := Lib.hid hC
  clear hC hcc hw1 h40 h91 h92
  clear h
  go_enter Tryz.func30, Tryz.ntmps30
  go_wp2_with (first | (refine alloc_piece rfl rfl ?_; intro w1 b1 e1 p1 l1 z1))
  have H1 := Lib.hid (H.out.below l1)
  have P1 := Lib.hid p1
  have L1 := Lib.hid l1
  have c0 := H1.out.c0
  have c1 := H1.out.c1
  clear p1 l1
  go_quiet (fail)
  have P2 : Hid (PBox (w1.drewN nq) b1 zeroR) := P1
  have H2 : Hid (Reader (w1.drewN nq) b s at_ deep) := H1
  have L2 := Lib.hid (L1.out.trans ((below_draws w1 nq).mono L1.out.size))
  have hzz : w1.heap.size ≤ (w1.drewN nq).heap.size := Nat.le_refl _
  have d1 := H2.out.c1
  have f1 := H2.out.free 1
  have hne : b1 ≠ b := by omega
  generalize w1.drewN nq = w2 at *
  go_wp2_with fail
  refine (HC.out _ _ H2.out).mono ?_
  rintro e w3 hr
  obtain ⟨r, er, rfl⟩ := reads_form hr
  have R3 := Lib.hid hr
  have P3 := Lib.hid (P2.out.beside hr.1 hne)
  clear hr
  go_wp2_with (first | (refine store_piece (r := r) rfl (.tmp 2) (.tmp 32) rfl rfl rfl P3.out ?_; intro w4 p4 l4 z4))
  refine end_piece2 rfl rfl p4 rfl ?_
  exact reads_more R3.out L2.out l4 (by omega) (by omega) hne.symm
set_option maxHeartbeats 1000000 in
theorem atom_point (h : Reader w b s at_ deep) (hat : at_ < s.size) (hs : s.size ≤ 900) (h40 : ¬ s[at_] = 40) (h91 : ¬ s[at_] = 91) (h92 : ¬ s[at_] = 92) (h46 : s[at_] = 46) :
    Calls Tryz.prog 30 #[.pointer (some ⟨b, 0, none⟩)] w (Reads b s deep w (.ok (leaf 3 ⟨#[]⟩) (at_ + 1))) := by
  have hlt := h.lt
  have H := Lib.hid h
  have h1 : (at_ : Int) ≤ (s.size : Int) := by omega
  have hz : (s.extract at_ s.size).size = s.size - at_ := by rw [ByteArray.size_extract]; omega
  have hz0 : 0 < (s.extract at_ s.size).size := by omega
  have hz1 : (1 : Int) ≤ ((s.extract at_ s.size).size : Int) := by omega
  have hz2 : (0 : Int) < ((s.extract at_ s.size).size : Int) := by omega
  have hcc : (s.extract at_ s.size)[0] = s[at_] := by
    have := Kit.byte_get (s.extract at_ s.size) 0 hz0
    rw [Kit.drop_bytes, Kit.drop_next s at_ hat] at this
    exact this.symm
  have hw1 : wrap64 ((at_ : Int) + 1) = ((at_ + 1 : Nat) : Int) := by unfold wrap64; omega
  have t40 : (((s.extract at_ s.size)[0].toNat : Int) == 40) = false := by rw [hcc]; exact u8n h40
  have t91 : (((s.extract at_ s.size)[0].toNat : Int) == 91) = false := by rw [hcc]; exact u8n h91
  have t92 : (((s.extract at_ s.size)[0].toNat : Int) == 92) = false := by rw [hcc]; exact u8n h92
  have t46 : (((s.extract at_ s.size)[0].toNat : Int) == 46) = true := by rw [hcc]; exact u8y h46
  clear hcc h40 h91 h92 h46
  clear h
  go_enter Tryz.func30, Tryz.ntmps30
  go_wp2_with (first | (refine alloc_piece rfl rfl ?_; intro w1 b1 e1 p1 l1 z1))
  have H1 := Lib.hid (H.out.below l1)
  have P1 := Lib.hid p1
  have L1 := Lib.hid l1
  have c0 := H1.out.c0
  have c1 := H1.out.c1
  clear p1 l1
  go_quiet (fail)
  have P2 : Hid (PBox (w1.drewN nq) b1 zeroR) := P1
  have H2 : Hid (Reader (w1.drewN nq) b s at_ deep) := H1
  have L2 := Lib.hid (L1.out.trans ((below_draws w1 nq).mono L1.out.size))
  have hzz : w1.heap.size ≤ (w1.drewN nq).heap.size := Nat.le_refl _
  have d1 := H2.out.c1
  have f1 := H2.out.free 1
  have hne : b1 ≠ b := by omega
  generalize w1.drewN nq = w2 at *
  go_wp2_with (first | (refine store_piece (r := ⟨3, ⟨#[]⟩, none, 0, 0, 0, 0⟩) rfl (.tmp 2) (.tmp 45) rfl rfl rfl (PBox.beside P2.out (beside_put _ _ _ _) hne) ?_; intro w4 p4 l4 z4))
  refine end_piece2 rfl rfl p4 rfl ?_
  have B := beside_fresh ((Beside.of (b := b) L2.out).trans (beside_put w2 b 1 (.int .i64 ((at_ + 1 : Nat) : Int)))) l4 (by omega)
  exact ⟨B, _, rfl, (H2.out.put1 (at_ + 1)).beside l4 hne.symm, PAt.leaf _ _ 3 _⟩
set_option maxHeartbeats 1000000 in
theorem atom_begin (h : Reader w b s at_ deep) (hat : at_ < s.size) (hs : s.size ≤ 900) (h40 : ¬ s[at_] = 40) (h91 : ¬ s[at_] = 91) (h92 : ¬ s[at_] = 92) (h46 : ¬ s[at_] = 46) (h94 : s[at_] = 94) :
    Calls Tryz.prog 30 #[.pointer (some ⟨b, 0, none⟩)] w (Reads b s deep w (.ok (leaf 5 ⟨#[]⟩) (at_ + 1))) := by
  have hlt := h.lt
  have H := Lib.hid h
  have h1 : (at_ : Int) ≤ (s.size : Int) := by omega
  have hz : (s.extract at_ s.size).size = s.size - at_ := by rw [ByteArray.size_extract]; omega
  have hz0 : 0 < (s.extract at_ s.size).size := by omega
  have hz1 : (1 : Int) ≤ ((s.extract at_ s.size).size : Int) := by omega
  have hz2 : (0 : Int) < ((s.extract at_ s.size).size : Int) := by omega
  have hcc : (s.extract at_ s.size)[0] = s[at_] := by
    have := Kit.byte_get (s.extract at_ s.size) 0 hz0
    rw [Kit.drop_bytes, Kit.drop_next s at_ hat] at this
    exact this.symm
  have hw1 : wrap64 ((at_ : Int) + 1) = ((at_ + 1 : Nat) : Int) := by unfold wrap64; omega
  have t40 : (((s.extract at_ s.size)[0].toNat : Int) == 40) = false := by rw [hcc]; exact u8n h40
  have t91 : (((s.extract at_ s.size)[0].toNat : Int) == 91) = false := by rw [hcc]; exact u8n h91
  have t92 : (((s.extract at_ s.size)[0].toNat : Int) == 92) = false := by rw [hcc]; exact u8n h92
  have t46 : (((s.extract at_ s.size)[0].toNat : Int) == 46) = false := by rw [hcc]; exact u8n h46
  have t94 : (((s.extract at_ s.size)[0].toNat : Int) == 94) = true := by rw [hcc]; exact u8y h94
  clear hcc h40 h91 h92 h46 h94
  clear h
  go_enter Tryz.func30, Tryz.ntmps30
  go_wp2_with (first | (refine alloc_piece rfl rfl ?_; intro w1 b1 e1 p1 l1 z1))
  have H1 := Lib.hid (H.out.below l1)
  have P1 := Lib.hid p1
  have L1 := Lib.hid l1
  have c0 := H1.out.c0
  have c1 := H1.out.c1
  clear p1 l1
  go_quiet (fail)
  have P2 : Hid (PBox (w1.drewN nq) b1 zeroR) := P1
  have H2 : Hid (Reader (w1.drewN nq) b s at_ deep) := H1
  have L2 := Lib.hid (L1.out.trans ((below_draws w1 nq).mono L1.out.size))
  have hzz : w1.heap.size ≤ (w1.drewN nq).heap.size := Nat.le_refl _
  have d1 := H2.out.c1
  have f1 := H2.out.free 1
  have hne : b1 ≠ b := by omega
  generalize w1.drewN nq = w2 at *
  go_wp2_with (first | (refine store_piece (r := ⟨5, ⟨#[]⟩, none, 0, 0, 0, 0⟩) rfl (.tmp 2) (.tmp 48) rfl rfl rfl (PBox.beside P2.out (beside_put _ _ _ _) hne) ?_; intro w4 p4 l4 z4))
  refine end_piece2 rfl rfl p4 rfl ?_
  have B := beside_fresh ((Beside.of (b := b) L2.out).trans (beside_put w2 b 1 (.int .i64 ((at_ + 1 : Nat) : Int)))) l4 (by omega)
  exact ⟨B, _, rfl, (H2.out.put1 (at_ + 1)).beside l4 hne.symm, PAt.leaf _ _ 5 _⟩
set_option maxHeartbeats 1000000 in
theorem atom_end (h : Reader w b s at_ deep) (hat : at_ < s.size) (hs : s.size ≤ 900) (h40 : ¬ s[at_] = 40) (h91 : ¬ s[at_] = 91) (h92 : ¬ s[at_] = 92) (h46 : ¬ s[at_] = 46) (h94 : ¬ s[at_] = 94) (h36 : s[at_] = 36) :
    Calls Tryz.prog 30 #[.pointer (some ⟨b, 0, none⟩)] w (Reads b s deep w (.ok (leaf 6 ⟨#[]⟩) (at_ + 1))) := by
  have hlt := h.lt
  have H := Lib.hid h
  have h1 : (at_ : Int) ≤ (s.size : Int) := by omega
  have hz : (s.extract at_ s.size).size = s.size - at_ := by rw [ByteArray.size_extract]; omega
  have hz0 : 0 < (s.extract at_ s.size).size := by omega
  have hz1 : (1 : Int) ≤ ((s.extract at_ s.size).size : Int) := by omega
  have hz2 : (0 : Int) < ((s.extract at_ s.size).size : Int) := by omega
  have hcc : (s.extract at_ s.size)[0] = s[at_] := by
    have := Kit.byte_get (s.extract at_ s.size) 0 hz0
    rw [Kit.drop_bytes, Kit.drop_next s at_ hat] at this
    exact this.symm
  have hw1 : wrap64 ((at_ : Int) + 1) = ((at_ + 1 : Nat) : Int) := by unfold wrap64; omega
  have t40 : (((s.extract at_ s.size)[0].toNat : Int) == 40) = false := by rw [hcc]; exact u8n h40
  have t91 : (((s.extract at_ s.size)[0].toNat : Int) == 91) = false := by rw [hcc]; exact u8n h91
  have t92 : (((s.extract at_ s.size)[0].toNat : Int) == 92) = false := by rw [hcc]; exact u8n h92
  have t46 : (((s.extract at_ s.size)[0].toNat : Int) == 46) = false := by rw [hcc]; exact u8n h46
  have t94 : (((s.extract at_ s.size)[0].toNat : Int) == 94) = false := by rw [hcc]; exact u8n h94
  have t36 : (((s.extract at_ s.size)[0].toNat : Int) == 36) = true := by rw [hcc]; exact u8y h36
  clear hcc h40 h91 h92 h46 h94 h36
  clear h
  go_enter Tryz.func30, Tryz.ntmps30
  go_wp2_with (first | (refine alloc_piece rfl rfl ?_; intro w1 b1 e1 p1 l1 z1))
  have H1 := Lib.hid (H.out.below l1)
  have P1 := Lib.hid p1
  have L1 := Lib.hid l1
  have c0 := H1.out.c0
  have c1 := H1.out.c1
  clear p1 l1
  go_quiet (fail)
  have P2 : Hid (PBox (w1.drewN nq) b1 zeroR) := P1
  have H2 : Hid (Reader (w1.drewN nq) b s at_ deep) := H1
  have L2 := Lib.hid (L1.out.trans ((below_draws w1 nq).mono L1.out.size))
  have hzz : w1.heap.size ≤ (w1.drewN nq).heap.size := Nat.le_refl _
  have d1 := H2.out.c1
  have f1 := H2.out.free 1
  have hne : b1 ≠ b := by omega
  generalize w1.drewN nq = w2 at *
  go_wp2_with (first | (refine store_piece (r := ⟨6, ⟨#[]⟩, none, 0, 0, 0, 0⟩) rfl (.tmp 2) (.tmp 51) rfl rfl rfl (PBox.beside P2.out (beside_put _ _ _ _) hne) ?_; intro w4 p4 l4 z4))
  refine end_piece2 rfl rfl p4 rfl ?_
  have B := beside_fresh ((Beside.of (b := b) L2.out).trans (beside_put w2 b 1 (.int .i64 ((at_ + 1 : Nat) : Int)))) l4 (by omega)
  exact ⟨B, _, rfl, (H2.out.put1 (at_ + 1)).beside l4 hne.symm, PAt.leaf _ _ 6 _⟩
set_option maxHeartbeats 1000000 in
theorem atom_char (h : Reader w b s at_ deep) (hat : at_ < s.size) (hs : s.size ≤ 900) (h40 : ¬ s[at_] = 40) (h91 : ¬ s[at_] = 91) (h92 : ¬ s[at_] = 92) (h46 : ¬ s[at_] = 46) (h94 : ¬ s[at_] = 94) (h36 : ¬ s[at_] = 36) :
    Calls Tryz.prog 30 #[.pointer (some ⟨b, 0, none⟩)] w (Reads b s deep w (.ok (leaf 2 (chr s[at_])) (at_ + 1))) := by
  have hlt := h.lt
  have H := Lib.hid h
  have h1 : (at_ : Int) ≤ (s.size : Int) := by omega
  have hz : (s.extract at_ s.size).size = s.size - at_ := by rw [ByteArray.size_extract]; omega
  have hz0 : 0 < (s.extract at_ s.size).size := by omega
  have hz1 : (1 : Int) ≤ ((s.extract at_ s.size).size : Int) := by omega
  have hz2 : (0 : Int) < ((s.extract at_ s.size).size : Int) := by omega
  have hcc : (s.extract at_ s.size)[0] = s[at_] := by
    have := Kit.byte_get (s.extract at_ s.size) 0 hz0
    rw [Kit.drop_bytes, Kit.drop_next s at_ hat] at this
    exact this.symm
  have hw1 : wrap64 ((at_ : Int) + 1) = ((at_ + 1 : Nat) : Int) := by unfold wrap64; omega
  have t40 : (((s.extract at_ s.size)[0].toNat : Int) == 40) = false := by rw [hcc]; exact u8n h40
  have t91 : (((s.extract at_ s.size)[0].toNat : Int) == 91) = false := by rw [hcc]; exact u8n h91
  have t92 : (((s.extract at_ s.size)[0].toNat : Int) == 92) = false := by rw [hcc]; exact u8n h92
  have t46 : (((s.extract at_ s.size)[0].toNat : Int) == 46) = false := by rw [hcc]; exact u8n h46
  have t94 : (((s.extract at_ s.size)[0].toNat : Int) == 94) = false := by rw [hcc]; exact u8n h94
  have t36 : (((s.extract at_ s.size)[0].toNat : Int) == 36) = false := by rw [hcc]; exact u8n h36
  have HCH := Lib.hid (chr_at hat)
  clear hcc h40 h91 h92 h46 h94 h36
  clear h
  go_enter Tryz.func30, Tryz.ntmps30
  go_wp2_with (first | (refine alloc_piece rfl rfl ?_; intro w1 b1 e1 p1 l1 z1))
  have H1 := Lib.hid (H.out.below l1)
  have P1 := Lib.hid p1
  have L1 := Lib.hid l1
  have c0 := H1.out.c0
  have c1 := H1.out.c1
  clear p1 l1
  go_quiet (fail)
  have P2 : Hid (PBox (w1.drewN nq) b1 zeroR) := P1
  have H2 : Hid (Reader (w1.drewN nq) b s at_ deep) := H1
  have L2 := Lib.hid (L1.out.trans ((below_draws w1 nq).mono L1.out.size))
  have hzz : w1.heap.size ≤ (w1.drewN nq).heap.size := Nat.le_refl _
  have d1 := H2.out.c1
  have f1 := H2.out.free 1
  have hne : b1 ≠ b := by omega
  generalize w1.drewN nq = w2 at *
  go_wp2_with (first | (refine store_piece (r := ⟨2, (s.extract at_ s.size).extract 0 1, none, 0, 0, 0, 0⟩) rfl (.tmp 2) (.tmp 54) rfl rfl rfl (PBox.beside P2.out (beside_put _ _ _ _) hne) ?_; intro w4 p4 l4 z4))
  refine end_piece2 rfl rfl p4 rfl ?_
  have B := beside_fresh ((Beside.of (b := b) L2.out).trans (beside_put w2 b 1 (.int .i64 ((at_ + 1 : Nat) : Int)))) l4 (by omega)
  rw [HCH.out]
  exact ⟨B, _, rfl, (H2.out.put1 (at_ + 1)).beside l4 hne.symm, PAt.leaf _ _ 2 _⟩
theorem atom_is40 {R : Nat → Nat → Option Got} {S : List UInt8} (h : S.getD at_ 0 = 40) (hR : deep ≠ 64 → ∃ g, R (at_ + 1) (deep + 1) = some g) : atom R S at_ deep = some (bracketsR R S at_ deep) := by
  unfold atom bracketsR
  rw [if_pos h]
  by_cases h64 : deep = 64
  · rw [if_pos h64, if_pos h64]
  · rw [if_neg h64, if_neg h64]
    obtain ⟨g, e⟩ := hR h64
    rw [e]
    cases g with
    | bad q er => rfl
    | ok p to =>
      simp only
      by_cases ht : to = S.length
      · rw [if_pos ht, if_pos ht]
      · rw [if_neg ht, if_neg ht]
theorem atom_is91 {R : Nat → Nat → Option Got} {S : List UInt8} (h : S.getD at_ 0 = 91) : atom R S at_ deep = some (if (M13.parse (S.drop at_)).2.2 ≠ 0 then .bad at_ (M13.parse (S.drop at_)).2.2 else .ok (leaf 4 (txt (M13.parse (S.drop at_)).1)) (at_ + (M13.parse (S.drop at_)).2.1)) := by
  unfold atom
  rw [if_neg (by rw [h]; decide), if_pos h]
  split <;> rfl
theorem atom_is92 {R : Nat → Nat → Option Got} {S : List UInt8} (h : S.getD at_ 0 = 92) : atom R S at_ deep = some (escapedR S at_) := by
  unfold atom escapedR
  rw [h, if_neg (by decide), if_neg (by decide), if_neg (by decide), if_neg (by decide), if_neg (by decide), if_neg (by decide), if_neg (by decide)]
  split
  · rfl
  · split <;> rfl
theorem atom_any {R : Nat → Nat → Option Got} (hR : PatOk s R (at_ + 1)) (hat : at_ < s.size) (hs : s.size ≤ 900) (hd : deep ≤ 64) (h42 : ¬ s[at_] = 42) (h43 : ¬ s[at_] = 43) (h63 : ¬ s[at_] = 63) (h123 : ¬ s[at_] = 123) : AtomOk R s at_ deep := by
  have hlen : s.data.toList.length = s.size := (Lib.size_eq s).symm
  have hc : s.data.toList.getD at_ 0 = s[at_] := Kit.byte_get s at_ hat
  have hg : deep ≠ 64 → at_ + 1 ≤ s.data.toList.length → ∃ g, R (at_ + 1) (deep + 1) = some g ∧ Fine s.data.toList (at_ + 1) g := fun h q => by
    obtain ⟨g, e, hf, -⟩ := hR (at_ + 1) (deep + 1) (Nat.le_refl _) (by omega) (by omega)
    exact ⟨g, e, hf⟩
  obtain ⟨g, e, hf⟩ := atom_fine (R := R) (deep := deep) (S := s.data.toList) (at_ := at_) (by omega) hg
  refine ⟨g, e, hf, fun w b h => ?_⟩
  by_cases h40 : s[at_] = 40
  · rw [atom_is40 (by rw [hc]; exact h40) (fun q => by obtain ⟨g, e, -⟩ := hg q (by omega); exact ⟨g, e⟩)] at e
    injection e with e
    subst e
    exact atom_brackets h hat hs h40 fun w b h => brackets_any hR hat hs hd h
  · by_cases h91 : s[at_] = 91
    · rw [atom_is91 (by rw [hc]; exact h91)] at e
      injection e with e
      subst e
      exact atom_set h hat hs h40 h91 fun w b h => set_any h hat hs
    · by_cases h92 : s[at_] = 92
      · rw [atom_is92 (by rw [hc]; exact h92)] at e
        injection e with e
        subst e
        exact atom_escaped h hat hs h40 h91 h92 fun w b h => escaped_any h hat hs
      · unfold atom at e
        rw [hc, if_neg h40, if_neg h91] at e
        by_cases h46 : s[at_] = 46
        · rw [if_pos h46] at e
          injection e with e
          subst e
          exact atom_point h hat hs h40 h91 h92 h46
        · rw [if_neg h46] at e
          by_cases h94 : s[at_] = 94
          · rw [if_pos h94] at e
            injection e with e
            subst e
            exact atom_begin h hat hs h40 h91 h92 h46 h94
          · rw [if_neg h94] at e
            by_cases h36 : s[at_] = 36
            · rw [if_pos h36] at e
              injection e with e
              subst e
              exact atom_end h hat hs h40 h91 h92 h46 h94 h36
            · rw [if_neg h36, if_neg (by rintro (q | q | q | q) <;> contradiction), if_pos h92] at e
              injection e with e
              subst e
              exact atom_char h hat hs h40 h91 h92 h46 h94 h36
end
end Go.Proofs.YtenlogfiabhfmaaGreatDoor.W14
