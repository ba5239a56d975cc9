/-
  Texts joined, in build order, each with its own comment and its own conditions: W14Part, W14Row, W14RefRow.
-/
import Derived.Test.YtenlogfiabhfmaaGreatDoorJ13
import Derived.Deep.LoopGhost
/-
  Layer 14 (pattern), walk of the program's part. The conditions stand in the statements.
-/
namespace Go.Proofs.YtenlogfiabhfmaaGreatDoor.W14
set_option maxRecDepth 100000
open Go Go.RowKit Go.Proofs.YtenlogfiabhfmaaGreatDoor.Recs Go.Proofs.YtenlogfiabhfmaaGreatDoor.M14
open Go.Proofs.YtenlogfiabhfmaaGreatDoor.Row256 (Beside)
open Go.Proofs.YtenlogfiabhfmaaGreatDoor.Kit (ret_str ret_bool ret_int mk_of mk_bytes ba_ext below_draws on list_full list_ne list_none list_nil)

section
variable {w : World} {b : Nat} {s : ByteArray} {at_ deep : Nat}
set_option maxHeartbeats 1000000 in
theorem part_bad (h : Reader w b s at_ deep) {q : Nat} {er : Int}
    (hC : ∀ w b, Reader w b s at_ deep → Calls Tryz.prog 30 #[.pointer (some ⟨b, 0, none⟩)] w (Reads b s deep w (.bad q er))) :
    Calls Tryz.prog 24 #[.pointer (some ⟨b, 0, none⟩)] w (Reads b s deep w (.bad q er)) := by
  have hlt := h.lt
  have H := Lib.hid h
  have HC := Lib.hid hC
  clear h hC
  go_enter Tryz.func24, Tryz.ntmps24
  go_wp2_with (first | (refine alloc_piece rfl rfl ?_; intro w1 b1 e1 p1 l1 z1))
  have hne : b1 ≠ b := by omega
  refine (HC.out _ _ (H.out.below l1)).mono ?_
  rintro e w2 ⟨b4, he, rfl, d, hr⟩
  have B2 := Lib.hid b4
  have P2 := Lib.hid (PBox.beside p1 B2.out hne)
  have H2 := Lib.hid hr
  have te : (er != 0) = true := by simpa using he
  have HE := Lib.hid he
  have hz := B2.out.size
  clear b4 hr he
  go_wp2_with (first
    | (refine alloc_piece rfl rfl ?_; intro w5 b2 e5 p5 l5 z5)
    | (refine store_piece (r := zeroR) rfl (.tmp 4) (.tmp 12) rfl rfl rfl p5 ?_; intro w6 p6 l6 z6; have L6 := Lib.hid (two_new l5 l6 e5); have P6 := Lib.hid (P2.out.below L6.out))
    | (refine store_piece (r := zeroR) rfl (.tmp 2) (.tmp 16) rfl rfl rfl P6.out ?_; intro w7 p7 l7 z7))
  refine end_piece2 rfl rfl p7 rfl ?_
  exact ⟨beside_fresh ((Beside.of (b := b) l1).trans (beside_onto B2.out L6.out)) l7 (by omega), HE.out, rfl, _, (H2.out.below L6.out).beside l7 hne.symm⟩
set_option maxHeartbeats 1000000 in
theorem part_times (h : Reader w b s at_ deep) (hs : s.size ≤ 900) {p : Piece} {to : Nat} (hto : to ≤ s.size) {er m t : Int} {n : Nat} (hT : timesR (s.data.toList.drop to) = (er, m, t, n)) (he : er ≠ 0)
    (hC : ∀ w b, Reader w b s at_ deep → Calls Tryz.prog 30 #[.pointer (some ⟨b, 0, none⟩)] w (Reads b s deep w (.ok p to))) :
    Calls Tryz.prog 24 #[.pointer (some ⟨b, 0, none⟩)] w (Reads b s deep w (.bad to er)) := by
  have hlt := h.lt
  have H := Lib.hid h
  have HC := Lib.hid hC
  have h1 : (to : Int) ≤ (s.size : Int) := by omega
  have HT : Hid (∀ w, Calls Tryz.prog 31 #[.string (s.extract to s.size)] w fun e w' => e = .returned (.tuple #[.int .i64 m, .int .i64 t, .int .i64 n, .int .i64 er]) ∧ Below w.heap.size w w') := by
    intro w
    have := times_any (s.extract to s.size) (by rw [ByteArray.size_extract]; omega) w
    rw [Kit.drop_bytes, hT] at this
    exact this
  have te : (er != 0) = true := by simpa using he
  have HE := Lib.hid he
  clear he
  clear h hC hT
  go_enter Tryz.func24, Tryz.ntmps24
  go_wp2_with (first | (refine alloc_piece rfl rfl ?_; intro w1 b1 e1 p1 l1 z1))
  have hne : b1 ≠ b := by omega
  refine (HC.out _ _ (H.out.below l1)).mono ?_
  rintro e w2 ⟨b4, r, rfl, hr, hp⟩
  have B2 := Lib.hid b4
  have P2 := Lib.hid (PBox.beside p1 B2.out hne)
  have H2 := Lib.hid hr
  have A2 := Lib.hid hp
  have hz := B2.out.size
  clear b4 hr hp
  go_wp2_with (first
    | (refine alloc_piece rfl rfl ?_; intro w5 b2 e5 p5 l5 z5)
    | (refine store_piece (r := r) rfl (.tmp 4) (.tmp 12) rfl rfl rfl p5 ?_; intro w6 p6 l6 z6; have L6 := Lib.hid (two_new l5 l6 e5); have P6 := Lib.hid (P2.out.below L6.out); have H6 := Lib.hid (H2.out.below L6.out); have A6 := Lib.hid (A2.out.by_below L6.out); have Q6 := Lib.hid p6))
  have hlt6 := H6.out.lt
  have d0 := H6.out.c0
  have d1 := H6.out.c1
  have B6 := Lib.hid ((Beside.of (b := b) l1).trans (beside_onto B2.out L6.out))
  clear p6
  go_region_held3 (fun w' => w'.cell? ⟨b, 0, none⟩ = some (.string s) ∧ w'.cell? ⟨b, 1, none⟩ = some (.int .i64 to) ∧ Below w6.heap.size w6 w')
    (first | exact rs_on hlt6 (by assumption) hb7 | exact rs_start H6.out | exact rs_draw (by assumption) | go_keep)
    (first | (go_at_call 31; refine (HT.out _).mono ?_; rintro e w7 ⟨rfl, hb7⟩))
  have hS : RS w6 b s to w7 := by assumption
  have L7 := Lib.hid (rs_below hS)
  have H7 := Lib.hid (H6.out.below L7.out)
  have P7 := Lib.hid (P6.out.below L7.out)
  have Q7 := Lib.hid (Q6.out.below L7.out)
  have A7 := Lib.hid (A6.out.by_below L7.out)
  have B7 := Lib.hid (beside_onto B6.out L7.out)
  have hz7 : w2.heap.size ≤ w7.heap.size := Nat.le_trans L6.out.size L7.out.size
  clear hS d0 d1
  go_wp2_with (first
    | (refine store_piece (r := zeroR) rfl (.tmp 2) (.tmp 35) rfl rfl rfl P7.out ?_; intro w8 p8 l8 z8))
  refine end_piece2 rfl rfl p8 rfl ?_
  exact ⟨beside_fresh B7.out l8 (by omega), HE.out, rfl, _, H7.out.beside l8 hne.symm⟩
set_option maxHeartbeats 1000000 in
theorem part_plain (h : Reader w b s at_ deep) (hs : s.size ≤ 900) {p : Piece} {to : Nat} (hto : to ≤ s.size) {er m t : Int} {n : Nat} (hT : timesR (s.data.toList.drop to) = (er, m, t, n)) (he : er = 0) (hn : n = 0)
    (hC : ∀ w b, Reader w b s at_ deep → Calls Tryz.prog 30 #[.pointer (some ⟨b, 0, none⟩)] w (Reads b s deep w (.ok p to))) :
    Calls Tryz.prog 24 #[.pointer (some ⟨b, 0, none⟩)] w (Reads b s deep w (.ok p to)) := by
  have hlt := h.lt
  have H := Lib.hid h
  have HC := Lib.hid hC
  have h1 : (to : Int) ≤ (s.size : Int) := by omega
  have HT : Hid (∀ w, Calls Tryz.prog 31 #[.string (s.extract to s.size)] w fun e w' => e = .returned (.tuple #[.int .i64 m, .int .i64 t, .int .i64 n, .int .i64 er]) ∧ Below w.heap.size w w') := by
    intro w
    have := times_any (s.extract to s.size) (by rw [ByteArray.size_extract]; omega) w
    rw [Kit.drop_bytes, hT] at this
    exact this
  subst he hn
  clear h hC hT
  go_enter Tryz.func24, Tryz.ntmps24
  go_wp2_with (first | (refine alloc_piece rfl rfl ?_; intro w1 b1 e1 p1 l1 z1))
  have hne : b1 ≠ b := by omega
  refine (HC.out _ _ (H.out.below l1)).mono ?_
  rintro e w2 ⟨b4, r, rfl, hr, hp⟩
  have B2 := Lib.hid b4
  have P2 := Lib.hid (PBox.beside p1 B2.out hne)
  have H2 := Lib.hid hr
  have A2 := Lib.hid hp
  have hz := B2.out.size
  clear b4 hr hp
  go_wp2_with (first
    | (refine alloc_piece rfl rfl ?_; intro w5 b2 e5 p5 l5 z5)
    | (refine store_piece (r := r) rfl (.tmp 4) (.tmp 12) rfl rfl rfl p5 ?_; intro w6 p6 l6 z6; have L6 := Lib.hid (two_new l5 l6 e5); have P6 := Lib.hid (P2.out.below L6.out); have H6 := Lib.hid (H2.out.below L6.out); have A6 := Lib.hid (A2.out.by_below L6.out); have Q6 := Lib.hid p6))
  have hlt6 := H6.out.lt
  have d0 := H6.out.c0
  have d1 := H6.out.c1
  have B6 := Lib.hid ((Beside.of (b := b) l1).trans (beside_onto B2.out L6.out))
  clear p6
  go_region_held3 (fun w' => w'.cell? ⟨b, 0, none⟩ = some (.string s) ∧ w'.cell? ⟨b, 1, none⟩ = some (.int .i64 to) ∧ Below w6.heap.size w6 w')
    (first | exact rs_on hlt6 (by assumption) hb7 | exact rs_start H6.out | exact rs_draw (by assumption) | go_keep)
    (first | (go_at_call 31; refine (HT.out _).mono ?_; rintro e w7 ⟨rfl, hb7⟩))
  have hS : RS w6 b s to w7 := by assumption
  have L7 := Lib.hid (rs_below hS)
  have H7 := Lib.hid (H6.out.below L7.out)
  have P7 := Lib.hid (P6.out.below L7.out)
  have Q7 := Lib.hid (Q6.out.below L7.out)
  have A7 := Lib.hid (A6.out.by_below L7.out)
  have B7 := Lib.hid (beside_onto B6.out L7.out)
  have hz7 : w2.heap.size ≤ w7.heap.size := Nat.le_trans L6.out.size L7.out.size
  clear hS d0 d1
  go_wp2_with (first
    | (refine load_piece rfl (.tmp 4) rfl rfl Q7.out ?_)
    | (refine store_piece (r := r) rfl (.tmp 2) (.tmp 39) rfl rfl rfl P7.out ?_; intro w8 p8 l8 z8))
  refine end_piece2 rfl rfl p8 rfl ?_
  exact ⟨beside_fresh B7.out l8 (by omega), _, rfl, H7.out.beside l8 hne.symm, (A7.out.by_beside l8 (by omega)).by_less l1.size⟩
set_option maxHeartbeats 1000000 in
theorem part_rep (h : Reader w b s at_ deep) (hs : s.size ≤ 900) {p : Piece} {to : Nat} (hto : to ≤ s.size) {er m t : Int} {n : Nat} (hT : timesR (s.data.toList.drop to) = (er, m, t, n)) (he : er = 0) (hn : n ≠ 0) (hn2 : n ≤ 900)
    (hC : ∀ w b, Reader w b s at_ deep → Calls Tryz.prog 30 #[.pointer (some ⟨b, 0, none⟩)] w (Reads b s deep w (.ok p to))) :
    Calls Tryz.prog 24 #[.pointer (some ⟨b, 0, none⟩)] w (Reads b s deep w (.ok (.mk 9 ⟨#[]⟩ [p] m t) (to + n))) := by
  have hlt := h.lt
  have H := Lib.hid h
  have HC := Lib.hid hC
  have h1 : (to : Int) ≤ (s.size : Int) := by omega
  have HT : Hid (∀ w, Calls Tryz.prog 31 #[.string (s.extract to s.size)] w fun e w' => e = .returned (.tuple #[.int .i64 m, .int .i64 t, .int .i64 n, .int .i64 er]) ∧ Below w.heap.size w w') := by
    intro w
    have := times_any (s.extract to s.size) (by rw [ByteArray.size_extract]; omega) w
    rw [Kit.drop_bytes, hT] at this
    exact this
  subst he
  have tn : ((n : Int) == 0) = false := by simpa using (by omega : ¬ (n : Int) = 0)
  have hw : wrap64 ((to : Int) + (n : Int)) = ((to + n : Nat) : Int) := by unfold wrap64; omega
  clear h hC hT
  go_enter Tryz.func24, Tryz.ntmps24
  go_wp2_with (first | (refine alloc_piece rfl rfl ?_; intro w1 b1 e1 p1 l1 z1))
  have hne : b1 ≠ b := by omega
  refine (HC.out _ _ (H.out.below l1)).mono ?_
  rintro e w2 ⟨b4, r, rfl, hr, hp⟩
  have B2 := Lib.hid b4
  have P2 := Lib.hid (PBox.beside p1 B2.out hne)
  have H2 := Lib.hid hr
  have A2 := Lib.hid hp
  have hz := B2.out.size
  clear b4 hr hp
  go_wp2_with (first
    | (refine alloc_piece rfl rfl ?_; intro w5 b2 e5 p5 l5 z5)
    | (refine store_piece (r := r) rfl (.tmp 4) (.tmp 12) rfl rfl rfl p5 ?_; intro w6 p6 l6 z6; have L6 := Lib.hid (two_new l5 l6 e5); have P6 := Lib.hid (P2.out.below L6.out); have H6 := Lib.hid (H2.out.below L6.out); have A6 := Lib.hid (A2.out.by_below L6.out); have Q6 := Lib.hid p6))
  have hlt6 := H6.out.lt
  have d0 := H6.out.c0
  have d1 := H6.out.c1
  have B6 := Lib.hid ((Beside.of (b := b) l1).trans (beside_onto B2.out L6.out))
  clear p6
  go_region_held3 (fun w' => w'.cell? ⟨b, 0, none⟩ = some (.string s) ∧ w'.cell? ⟨b, 1, none⟩ = some (.int .i64 to) ∧ Below w6.heap.size w6 w')
    (first | exact rs_on hlt6 (by assumption) hb7 | exact rs_start H6.out | exact rs_draw (by assumption) | go_keep)
    (first | (go_at_call 31; refine (HT.out _).mono ?_; rintro e w7 ⟨rfl, hb7⟩))
  have hS : RS w6 b s to w7 := by assumption
  have L7 := Lib.hid (rs_below hS)
  have H7 := Lib.hid (H6.out.below L7.out)
  have P7 := Lib.hid (P6.out.below L7.out)
  have Q7 := Lib.hid (Q6.out.below L7.out)
  have A7 := Lib.hid (A6.out.by_below L7.out)
  have B7 := Lib.hid (beside_onto B6.out L7.out)
  have hz7 : w2.heap.size ≤ w7.heap.size := Nat.le_trans L6.out.size L7.out.size
  clear hS d0 d1
  have k1 := H7.out.c1
  have g1 := H7.out.free 1
  have B8 : Hid (Beside b w7 (w7.setCell ⟨b, 1, none⟩ (.int .i64 ((to + n : Nat) : Int)))) := beside_put _ _ _ _
  have H8 := Lib.hid (H7.out.put1 (to + n))
  have A8 := Lib.hid (A7.out.by_beside B8.out (by omega))
  have hz8 := B8.out.size
  go_wp2_with (first
    | (refine load_piece rfl (.tmp 4) rfl rfl (Q7.out.beside B8.out (by omega)) ?_)
    | (refine slice_piece rfl (.tmp 48) rfl (r := r) rfl ?_; intro w9 b3 e9 r9 l9 z9; have P9 := Lib.hid ((P7.out.beside B8.out hne).below l9))
    | (refine store_piece (r := ⟨9, ⟨#[]⟩, some ⟨b3, 0, none⟩, 1, 1, m, t⟩) rfl (.tmp 2) (.tmp 52) rfl rfl rfl P9.out ?_; intro w10 p10 l10 z10))
  refine end_piece2 rfl rfl p10 rfl ?_
  simp only [World.size_setCell] at e9 z9
  have hb3 : b3 < w9.heap.size := by omega
  have hb31 : b3 ≠ b1 := by omega
  have hin : In w.heap.size w10.heap.size b3 := ⟨by omega, by omega⟩
  refine ⟨beside_fresh (beside_onto (B7.out.trans B8.out) l9) l10 (by omega), _, rfl, (H8.out.below l9).beside l10 hne.symm, .mk _ _ _ _ _ _ _ [r] [p] w10.heap.size ?_ ?_ rfl ?_⟩
  · have r10 : Raws w9.heap.size w10 (.slice (some ⟨b3, 0, none⟩) 1 1) [r] := raws_keep r9 fun ad e _ q hq => by
      cases e
      exact cell_block (l10.block _ (by rw [hq]; exact hb3) (by rw [hq]; exact hb31))
    rw [z10]; exact r10
  · intro ad e _
    cases e
    exact hin
  · intro i i1 i2
    have i0 : i = 0 := by simp at i1; omega
    subst i0
    exact ((A8.out.by_below l9).by_beside l10 (by omega)).by_less l1.size
theorem part_any {R : Nat → Nat → Option Got} (hA : AtomOk R s at_ deep) (hs : s.size ≤ 900) : ∃ g, M14.part R s.data.toList at_ deep = some g ∧ Fine s.data.toList (at_ + 1) g ∧ ∀ w b, Reader w b s at_ deep → Calls Tryz.prog 24 #[.pointer (some ⟨b, 0, none⟩)] w (Reads b s deep w g) := by
  have hlen : s.data.toList.length = s.size := (Lib.size_eq s).symm
  obtain ⟨g, e, hf, hC⟩ := hA
  match g, hf, hC with
  | .bad q er, hf, hC => exact ⟨.bad q er, by unfold M14.part; rw [e], hf, fun w b h => part_bad h hC⟩
  | .ok p to, hf, hC =>
    have hto := hf.2.1
    refine ⟨often s.data.toList p to, by unfold M14.part; rw [e], often_fine hf.1 hf.2.1 hf.2.2, fun w b h => ?_⟩
    rw [often_times _ _ hto]
    have hle := timesR_ok (l := s.data.toList.drop to)
    obtain ⟨⟨er, m, t, n⟩, hT⟩ : ∃ r, timesR (s.data.toList.drop to) = r := ⟨_, rfl⟩
    rw [hT] at hle ⊢
    rw [List.length_drop] at hle
    simp only at hle ⊢
    by_cases he : er ≠ 0
    · rw [if_pos he]; exact part_times h hs (by omega) hT he hC
    · rw [if_neg he]
      have he0 : er = 0 := by simpa using he
      by_cases hn : n = 0
      · rw [if_pos hn]; exact part_plain h hs (by omega) hT he0 hn hC
      · rw [if_neg hn]; exact part_rep h hs (by omega) hT he0 hn (by have := hle he0; omega) hC
end
end Go.Proofs.YtenlogfiabhfmaaGreatDoor.W14
/-
  Layer 14 (pattern), walk of the program's row. The conditions stand in the statements.
-/
namespace Go.Proofs.YtenlogfiabhfmaaGreatDoor.W14
set_option maxRecDepth 100000
open Go Go.RowKit Go.Proofs.YtenlogfiabhfmaaGreatDoor.Recs Go.Proofs.YtenlogfiabhfmaaGreatDoor.M14
open Go.Proofs.YtenlogfiabhfmaaGreatDoor.Row256 (Beside)
open Go.Proofs.YtenlogfiabhfmaaGreatDoor.Kit (ret_str ret_bool ret_int mk_of mk_bytes ba_ext below_draws on list_full list_ne list_none list_nil)

theorem noAtom_cases (S : List UInt8) (at_ deep : Nat) : noAtom S at_ deep = (true, 0) ∨ noAtom S at_ deep = (true, 3) ∨ noAtom S at_ deep = (false, 0) := by
  unfold noAtom
  split
  · exact .inl rfl
  · split
    · split
      · exact .inl rfl
      · exact .inr (.inl rfl)
    · split
      · exact .inr (.inl rfl)
      · split
        · exact .inl rfl
        · exact .inr (.inr rfl)
section
variable {R : Nat → Nat → Option Got} {S : List UInt8} {deep k at_ : Nat} {acc : List Piece} {g : Got}
theorem row_end (h : stop S at_) (hr : row R S deep (k + 1) at_ acc = some g) : g = .ok (together 7 acc) at_ := by
  unfold row at hr
  rw [if_pos h] at hr
  injection hr with hr
  exact hr.symm
theorem row_on_bad (h : ¬ stop S at_) {q : Nat} {er : Int} (hp : M14.part R S at_ deep = some (.bad q er)) (hr : row R S deep (k + 1) at_ acc = some g) : g = .bad q er := by
  unfold row at hr
  rw [if_neg h, hp] at hr
  injection hr with hr
  exact hr.symm
theorem row_on_ok (h : ¬ stop S at_) {p : Piece} {to : Nat} (hp : M14.part R S at_ deep = some (.ok p to)) (hr : row R S deep (k + 1) at_ acc = some g) : row R S deep k to (acc ++ [p]) = some g := by
  unfold row at hr
  rw [if_neg h, hp] at hr
  exact hr
theorem row_stop (h : noAtom S at_ deep = (true, 0)) (hr : row R S deep (k + 1) at_ acc = some g) : fix S deep g = .ok (together 7 acc) at_ := by
  unfold noAtom at h
  by_cases h0 : at_ = S.length
  · rw [row_end (Or.inl (by omega)) hr]
    exact if_neg (by omega)
  · rw [if_neg h0] at h
    by_cases h41 : S.getD at_ 0 = 41
    · rw [if_pos h41] at h
      by_cases hd : 0 < deep
      · rw [row_end (Or.inr (Or.inr h41)) hr]
        exact if_neg (by omega)
      · rw [if_neg hd] at h; simp at h
    · rw [if_neg h41] at h
      split at h
      · simp at h
      · split at h
        · rename_i h124
          rw [row_end (Or.inr (Or.inl h124)) hr]
          exact if_neg (fun q => h41 q.2.2)
        · simp at h
theorem row_bad (ha : at_ ≤ S.length) (h : noAtom S at_ deep = (true, 3)) (hr : row R S deep (k + 1) at_ acc = some g) : fix S deep g = .bad at_ 3 := by
  unfold noAtom at h
  by_cases h0 : at_ = S.length
  · rw [if_pos h0] at h; simp at h
  · rw [if_neg h0] at h
    by_cases h41 : S.getD at_ 0 = 41
    · rw [if_pos h41] at h
      by_cases hd : 0 < deep
      · rw [if_pos hd] at h; simp at h
      · rw [row_end (Or.inr (Or.inr h41)) hr]
        exact if_pos ⟨by omega, by omega, h41⟩
    · rw [if_neg h41] at h
      by_cases hq : S.getD at_ 0 = 42 ∨ S.getD at_ 0 = 43 ∨ S.getD at_ 0 = 63 ∨ S.getD at_ 0 = 123
      · have hst : ¬ stop S at_ := by
          rintro (q | q | q)
          · omega
          · rcases hq with e | e | e | e <;> (rw [e] at q; exact absurd q (by decide))
          · exact h41 q
        have hp : M14.part R S at_ deep = some (.bad at_ 3) := by
          unfold M14.part atom
          have n : ∀ c : UInt8, c = 40 ∨ c = 91 ∨ c = 46 ∨ c = 94 ∨ c = 36 → ¬ S.getD at_ 0 = c := by
            rintro c (e | e | e | e | e) q <;> rcases hq with f | f | f | f <;> (rw [q, e] at f; exact absurd f (by decide))
          rw [if_neg (n 40 (by simp)), if_neg (n 91 (by simp)), if_neg (n 46 (by simp)), if_neg (n 94 (by simp)), if_neg (n 36 (by simp)), if_pos hq]
        rw [row_on_bad hst hp hr]; rfl
      · rw [if_neg hq] at h
        split at h <;> simp at h
theorem row_go (ha : at_ ≤ S.length) (h : noAtom S at_ deep = (false, 0)) : at_ < S.length ∧ ¬ stop S at_ ∧ ¬ S.getD at_ 0 = 42 ∧ ¬ S.getD at_ 0 = 43 ∧ ¬ S.getD at_ 0 = 63 ∧ ¬ S.getD at_ 0 = 123 := by
  unfold noAtom at h
  by_cases h0 : at_ = S.length
  · rw [if_pos h0] at h; simp at h
  · rw [if_neg h0] at h
    by_cases h41 : S.getD at_ 0 = 41
    · rw [if_pos h41] at h
      split at h <;> simp at h
    · rw [if_neg h41] at h
      by_cases hq : S.getD at_ 0 = 42 ∨ S.getD at_ 0 = 43 ∨ S.getD at_ 0 = 63 ∨ S.getD at_ 0 = 123
      · rw [if_pos hq] at h; simp at h
      · rw [if_neg hq] at h
        by_cases h124 : S.getD at_ 0 = 124
        · rw [if_pos h124] at h; simp at h
        · refine ⟨by omega, ?_, fun q => hq (.inl q), fun q => hq (.inr (.inl q)), fun q => hq (.inr (.inr (.inl q))), fun q => hq (.inr (.inr (.inr q)))⟩
          rintro (q | q | q)
          · omega
          · exact h124 q
          · exact h41 q
end
theorem PatOk.more {s : ByteArray} {R : Nat → Nat → Option Got} {lo lo' : Nat} (h : PatOk s R lo) (k : lo ≤ lo') : PatOk s R lo' := fun a d h1 h2 h3 => h a d (Nat.le_trans k h1) h2 h3
section
variable {e : TypeId} {base : Nat} {u w' w'' : World} {v : Value} {ks : List Piece} {b : Nat}
theorem grown_beside (hb : Build e base w' v ks) (hg : w'.grownBy w'' v.ownBlock) (h0 : u.heap.size ≤ base) (k : Beside b u w') : Beside b u w'' := by
  have hs := grown_below hb hg
  obtain ⟨g1, g2, g3, g4, -⟩ := hg
  exact ⟨g1.trans k.os, g2.trans k.tape, g3.trans k.output, Nat.le_trans k.size g4, fun i hi e => (hs i (by omega) (Nat.lt_of_lt_of_le hi k.size)).trans (k.block i hi e)⟩
theorem grown_reader {s : ByteArray} {at_ deep : Nat} (hb : Build e base w' v ks) (hg : w'.grownBy w'' v.ownBlock) (h0 : b < base) (h : Reader w' b s at_ deep) : Reader w'' b s at_ deep := (grown_below hb hg b h0 h.lt).trans h
theorem grown_box {r : Raw} (hb : Build e base w' v ks) (hg : w'.grownBy w'' v.ownBlock) (h0 : b < base) (h : PBox w' b r) : PBox w'' b r := (grown_below hb hg b h0 h.lt).trans h
end
section
variable {w : World} {b : Nat} {s : ByteArray} {at_ deep : Nat}
set_option maxHeartbeats 4000000 in
theorem row_any {R : Nat → Nat → Option Got} (hR : PatOk s R (at_ + 1)) (hat : at_ ≤ s.size) (hs : s.size ≤ 900) (hd : deep ≤ 64) {g : Got} (hg : row R s.data.toList deep (s.data.toList.length + 1) at_ [] = some g) (h : Reader w b s at_ deep) :
    Calls Tryz.prog 17 #[.pointer (some ⟨b, 0, none⟩)] w (Reads b s deep w (fix s.data.toList deep g)) := by
  have hlen : s.data.toList.length = s.size := (Lib.size_eq s).symm
  have hlt := h.lt
  have H := Lib.hid h
  have HG := Lib.hid hg
  have HR := Lib.hid hR
  obtain ⟨G, hG⟩ : ∃ G, fix s.data.toList deep g = G := ⟨_, rfl⟩
  rw [hG]
  have HFX := Lib.hid hG
  have HLEN := Lib.hid hlen
  clear h hg hR hG hlen
  go_enter Tryz.func17, Tryz.ntmps17
  go_wp2_with (first | (refine alloc_piece rfl rfl ?_; intro w1 b1 e1 p1 l1 z1))
  have hne : b1 ≠ b := by omega
  have hb1 : b < w1.heap.size := by omega
  have hb2 : b1 < w1.heap.size := by omega
  go_loopg [4] s.size (fun gk s4 wr => ∃ (a : Nat) (acc : List Piece), at_ ≤ a ∧ a ≤ s.size ∧ acc.length ≤ a ∧ Hid (row R s.data.toList deep (gk + 1) a acc = some g) ∧ Hid (Build 25 w1.heap.size wr s4 acc) ∧ Hid (Reader wr b s a deep) ∧ Hid (PBox wr b1 zeroR) ∧ Hid (Beside b w wr) ∧ w1.heap.size ≤ wr.heap.size)
  case atStart =>
    refine ⟨at_, [], Nat.le_refl _, hat, Nat.zero_le _, ?_, Build.nil _ _ _, H.out.below l1, p1, .of l1, Nat.le_refl _⟩
    show row R _ _ _ _ _ = _
    rw [← HLEN.out]; exact HG.out
  case round =>
    obtain ⟨a, acc, ha0, ha1, hacc, hrow, hbuild, hrd, hbox, hbes, hsz⟩ := hrel
    have hna := noAtom_any hrd.out ha1
    obtain ⟨A, c, rfl, hA1, hA2⟩ := hbuild.out.len
    unfold maxLen at hA2
    rcases noAtom_cases s.data.toList a deep with hq | hq | hq
    · -- the row ends
      rw [hq] at hna
      have HX : Hid (G = .ok (together 7 acc) a) := by
        unfold Hid
        rw [← HFX.out]
        exact row_stop hq hrow.out
      have HN := Lib.hid hna
      clear hna hq
      go_wp2_with fail
      refine HN.out.mono ?_
      rintro e w2 ⟨rfl, q, rfl⟩
      have hbuild2 : Hid (Build 25 w1.heap.size (wr.drewN q) (.slice A acc.length c) acc) := hbuild.out.same (Nat.le_refl _) fun _ _ _ => rfl
      have hrd2 : Hid (Reader (wr.drewN q) b s a deep) := hrd
      have hbox2 : Hid (PBox (wr.drewN q) b1 zeroR) := hbox
      have hbes2 : Hid (Beside b w (wr.drewN q)) := beside_onto hbes.out (below_draws wr q)
      have hsz2 : w1.heap.size ≤ (wr.drewN q).heap.size := hsz
      clear hbuild hrd hbox hbes
      generalize wr.drewN q = w2 at *
      go_wp2_with fail
      refine (together_any 7 (by omega) hbuild2.out).mono ?_
      rintro e w3 ⟨r, rfl, hp, l3⟩
      have A3 := Lib.hid hp
      have L3 := Lib.hid l3
      have P3 := Lib.hid (hbox2.out.below l3)
      clear hp l3
      go_wp2_with (first
        | (refine store_piece (r := r) rfl (.tmp 2) (.tmp 19) rfl rfl rfl P3.out ?_; intro w8 p8 l8 z8))
      refine end_piece2 rfl rfl p8 rfl ?_
      rw [HX.out]
      exact ⟨beside_fresh (beside_onto hbes2.out L3.out) l8 (by omega), _, rfl, (hrd2.out.below L3.out).beside l8 hne.symm, (A3.out.by_beside l8 hb2).by_less l1.size⟩
    · -- no row may end here
      rw [hq] at hna
      have HX : Hid (G = .bad a 3) := by
        unfold Hid
        rw [← HFX.out]
        exact row_bad (by rw [HLEN.out]; exact ha1) hq hrow.out
      have HN := Lib.hid hna
      clear hna hq
      go_wp2_with fail
      refine HN.out.mono ?_
      rintro e w2 ⟨rfl, q, rfl⟩
      have hrd2 : Hid (Reader (wr.drewN q) b s a deep) := hrd
      have hbox2 : Hid (PBox (wr.drewN q) b1 zeroR) := hbox
      have hbes2 : Hid (Beside b w (wr.drewN q)) := beside_onto hbes.out (below_draws wr q)
      clear hbuild hrd hbox hbes
      generalize wr.drewN q = w2 at *
      go_wp2_with (first
        | (refine store_piece (r := zeroR) rfl (.tmp 2) (.tmp 15) rfl rfl rfl hbox2.out ?_; intro w8 p8 l8 z8))
      refine end_piece2 rfl rfl p8 rfl ?_
      rw [HX.out]
      exact ⟨beside_fresh hbes2.out l8 (by omega), by decide, rfl, _, hrd2.out.beside l8 hne.symm⟩
    · -- a part
      rw [hq] at hna
      obtain ⟨ha2, hst, n42, n43, n63, n123⟩ := row_go (by rw [HLEN.out]; exact ha1) hq
      have ha3 : a < s.size := by rw [HLEN.out] at ha2; exact ha2
      rw [getD_at ha3] at n42 n43 n63 n123
      obtain ⟨g0, hp0, hf0, hC⟩ := part_any (atom_any (HR.out.more (by omega)) ha3 hs hd n42 n43 n63 n123) hs
      have HN := Lib.hid hna
      have HC := Lib.hid hC
      clear hna hq n42 n43 n63 n123 hC ha2
      match g0, hf0, HC, hp0 with
      | .bad qb er, hf0, HC, hp0 =>
        have HX : Hid (G = .bad qb er) := by
          unfold Hid
          rw [← HFX.out, row_on_bad hst hp0 hrow.out]; rfl
        clear hf0 hp0 hst
        go_wp2_with fail
        refine HN.out.mono ?_
        rintro e w2 ⟨rfl, q, rfl⟩
        have hrd2 : Hid (Reader (wr.drewN q) b s a deep) := hrd
        have hbox2 : Hid (PBox (wr.drewN q) b1 zeroR) := hbox
        have hbes2 : Hid (Beside b w (wr.drewN q)) := beside_onto hbes.out (below_draws wr q)
        have hsz2 : w1.heap.size ≤ (wr.drewN q).heap.size := hsz
        clear hbuild hrd hbox hbes
        generalize wr.drewN q = w2 at *
        go_wp2_with fail
        refine (HC.out _ _ hrd2.out).mono ?_
        rintro e w4 ⟨b4, he, rfl, d, hr⟩
        have B4 := Lib.hid b4
        have P4 := Lib.hid (hbox2.out.beside b4 hne)
        have H4 := Lib.hid hr
        have te : (er != 0) = true := by simpa using he
        have HE := Lib.hid he
        have hz := B4.out.size
        clear b4 hr he
        go_wp2_with (first
          | (refine alloc_piece rfl rfl ?_; intro w5 c2 e5 p5 l5 z5)
          | (refine store_piece (r := zeroR) rfl (.tmp 7) (.tmp 23) rfl rfl rfl p5 ?_; intro w6 p6 l6 z6; have L6 := Lib.hid (two_new l5 l6 e5); have P6 := Lib.hid (P4.out.below L6.out))
          | (refine store_piece (r := zeroR) rfl (.tmp 2) (.tmp 27) rfl rfl rfl P6.out ?_; intro w7 p7 l7 z7))
        refine end_piece2 rfl rfl p7 rfl ?_
        rw [HX.out]
        exact ⟨beside_fresh (hbes2.out.trans (beside_onto B4.out L6.out)) l7 (by omega), HE.out, rfl, _, (H4.out.below L6.out).beside l7 hne.symm⟩
      | .ok p to, hf0, HC, hp0 =>
        have HON := Lib.hid (row_on_ok hst hp0 hrow.out)
        have hto1 : a + 1 ≤ to := hf0.1
        have hto2 : to ≤ s.size := by have := hf0.2.1; rw [HLEN.out] at this; exact this
        clear hf0 hp0 hst hrow
        go_wp2_with fail
        refine HN.out.mono ?_
        rintro e w2 ⟨rfl, q, rfl⟩
        have hbuild2 : Hid (Build 25 w1.heap.size (wr.drewN q) (.slice A acc.length c) acc) := hbuild.out.same (Nat.le_refl _) fun _ _ _ => rfl
        have hrd2 : Hid (Reader (wr.drewN q) b s a deep) := hrd
        have hbox2 : Hid (PBox (wr.drewN q) b1 zeroR) := hbox
        have hbes2 : Hid (Beside b w (wr.drewN q)) := beside_onto hbes.out (below_draws wr q)
        have hsz2 : w1.heap.size ≤ (wr.drewN q).heap.size := hsz
        clear hbuild hrd hbox hbes
        generalize wr.drewN q = w2 at *
        go_wp2_with fail
        refine (HC.out _ _ hrd2.out).mono ?_
        rintro e w4 ⟨b4, r, rfl, hr, hp⟩
        have B4 := Lib.hid b4
        have P4 := Lib.hid (hbox2.out.beside b4 hne)
        have U4 := Lib.hid (hbuild2.out.beside b4 hb1)
        have H4 := Lib.hid hr
        have A4 := Lib.hid hp
        have hz := B4.out.size
        clear b4 hr hp
        go_wp2_with (first
          | (refine alloc_piece rfl rfl ?_; intro w5 c2 e5 p5 l5 z5)
          | (refine store_piece (r := r) rfl (.tmp 7) (.tmp 23) rfl rfl rfl p5 ?_; intro w6 p6 l6 z6; have L6 := Lib.hid (two_new l5 l6 e5))
          | (refine load_piece rfl (.tmp 7) rfl rfl p6 ?_)
          | (refine slice_piece rfl (.tmp 30) rfl (r := r) rfl ?_; intro w7 b3 e7 r7 l7 z7; have L7 := Lib.hid (L6.out.trans (l7.mono L6.out.size)); have U7 := Lib.hid (U4.out.below L7.out); have A7 := Lib.hid (A4.out.by_below L7.out); have hz7 := L7.out.size)
          | (refine append_piece rfl (.tmp 29) (.tmp 31) rfl rfl rfl U7.out hbuild2.out.own_lt hsz2 (by omega) r7 A7.out (by omega) ?_; intro v' w8 U8 g8))
        have HU := Lib.hid U8
        have HR8 := Lib.hid (grown_reader U7.out g8 hb1 (H4.out.below L7.out))
        have HP8 := Lib.hid (grown_box U7.out g8 hb2 (P4.out.below L7.out))
        have HB8 := Lib.hid (grown_beside U7.out g8 l1.size (hbes2.out.trans (beside_onto B4.out L7.out)))
        have hz8 : w7.heap.size ≤ w8.heap.size := by obtain ⟨_, _, _, g, _⟩ := g8; exact g
        clear g8 U8
        cases gk with
        | zero => exact absurd HON.out (by simp [row])
        | succ gk2 =>
          try go_wp2_with fail
          go_roundg gk2
          case measure => omega
          case rel => exact ⟨to, acc ++ [p], by omega, hto2, by simp only [List.length_append, List.length_cons, List.length_nil]; omega, HON, HU, HR8, HP8, HB8, by omega⟩
end
end Go.Proofs.YtenlogfiabhfmaaGreatDoor.W14
/-
  Layer 14 (pattern), walk of the document's row. The conditions stand in the statements.
-/
namespace Go.Proofs.YtenlogfiabhfmaaGreatDoor.W14
set_option maxRecDepth 100000
open Go Go.RowKit Go.Proofs.YtenlogfiabhfmaaGreatDoor.Strs Go.Proofs.YtenlogfiabhfmaaGreatDoor.Recs Go.Proofs.YtenlogfiabhfmaaGreatDoor.M14
open Go.Proofs.YtenlogfiabhfmaaGreatDoor.Row256 (Beside)
open Go.Proofs.YtenlogfiabhfmaaGreatDoor.Kit (below_draws on)

theorem build_one {base : Nat} {w : World} {v : Value} {p : Piece} (h : Build 25 base w v [p]) : ∃ g c r, v = .slice (some ⟨g, 0, none⟩) 1 c ∧ Hid (1 ≤ c ∧ c ≤ maxLen) ∧ Hid (∀ j, j < 5 → w.cell? ⟨g, 0 + j, none⟩ = (rawC r)[j]?) ∧ Hid (PAt (In base w.heap.size) w r p) := by
  obtain ⟨raws, hown, hall⟩ := h
  obtain ⟨r, rfl⟩ : ∃ r, raws = [r] := List.length_eq_one_iff.1 hall.1
  have hp := hall.2 0 (by simp) (by simp)
  simp only [List.getElem_cons_zero] at hp
  have hR := Recs.of_own rawC_len rfl hown
  obtain ⟨g, c, rfl, hg, hgw, h1, h2⟩ := own_form hown (by simp)
  obtain ⟨b, o, hl, hbo, -, hc⟩ := hR.flat_ rawC_len (by decide) (k := 0) (by simp)
  cases hbo
  simp only [List.getElem_cons_zero, Nat.zero_mul, Nat.add_zero] at hc
  exact ⟨g, c, r, rfl, ⟨h1, h2⟩, hc, hp.keep (fun _ q => q.1) (fun _ _ => rfl)⟩
theorem build_many {base : Nat} {w : World} {v : Value} {l : List Piece} (k : Int) (h : Build 25 base w v l) (h2 : 0 < l.length) : ∃ A c, v = .slice A l.length c ∧ Hid (l.length ≤ c ∧ c ≤ maxLen) ∧ Hid (PAt (In base w.heap.size) w ⟨k, ⟨#[]⟩, A, l.length, c, 0, 0⟩ (.mk k ⟨#[]⟩ l 0 0)) := by
  obtain ⟨raws, hown, hall⟩ := h
  have hlen := hall.1
  have hR := Recs.of_own rawC_len rfl hown
  obtain ⟨g, c, rfl, hg, hgw, h1, h3⟩ := own_form hown (by omega)
  refine ⟨_, c, by rw [hlen], ⟨by omega, h3⟩, ?_⟩
  rw [hlen] at hR
  refine .mk _ _ _ _ _ _ _ raws l _ hR ?_ hlen ?_
  · intro ad e _
    cases e
    exact ⟨hg, hgw⟩
  · intro i i1 i2
    exact (hall.2 i i1 i2).keep (fun _ q => q.1) (fun _ _ => rfl)
theorem grown_got {e : TypeId} {base : Nat} {w' w'' : World} {v : Value} {ks : List Piece} {b : Nat} {r : Raw} {to er bad : Int} (hb : Build e base w' v ks) (hg : w'.grownBy w'' v.ownBlock) (h0 : b < base) (h : GBox w' b r to er bad) : GBox w'' b r to er bad := (grown_below hb hg b h0 h.lt).trans h
theorem grown_under {e : TypeId} {base : Nat} {u w' w'' : World} {v : Value} {ks : List Piece} (hb : Build e base w' v ks) (hg : w'.grownBy w'' v.ownBlock) (h0 : u.heap.size ≤ base) (k : Below u.heap.size u w') : Below u.heap.size u w'' := by
  have hs := grown_below hb hg
  obtain ⟨g1, g2, g3, g4, -⟩ := hg
  exact ⟨g1.trans k.os, g2.trans k.tape, g3.trans k.output, Nat.le_trans k.size g4, fun i hi => (hs i (by omega) (Nat.lt_of_lt_of_le hi k.size)).trans (k.block i hi)⟩
/-- a box newer than a list's row is not touched by an append -/
theorem grown_cell {e e' : TypeId} {base b : Nat} {u w' w'' : World} {v : Value} {ks ks' : List Piece} {r : Raw} {to er bad : Int} (_hb : Build e base w' v ks) (hg : w'.grownBy w'' v.ownBlock) (h : GBox w' b r to er bad) (hu : Build e' base u v ks') (huw : u.heap.size ≤ b) : w''.cell? ⟨b, 5, none⟩ = some (.int .i64 to) := by
  obtain ⟨_, _, _, _, g5⟩ := hg
  have : GBox w'' b r to er bad := (g5 b h.lt (fun q => by have := hu.own_lt b q.symm; omega)).trans h
  exact this.c5
/-- the document's rows, from a place lo on -/
def RPatOk (s : ByteArray) (R : Nat → Nat → Option Got) (lo : Nat) : Prop :=
  ∀ at_ deep, lo ≤ at_ → at_ ≤ s.size → deep ≤ 64 → ∃ g, R at_ deep = some g ∧ Fine s.data.toList at_ g ∧ ∀ w, Calls Tryz.prog 12 #[.string s, .int .i64 at_, .int .i64 deep] w (Gots w g)
theorem row_fin {R : Nat → Nat → Option Got} {S : List UInt8} {deep k at_ : Nat} {acc : List Piece} {g : Got} (h : stop S at_) (hr : row R S deep (k + 1) at_ acc = some g) : g = .ok (together 7 acc) at_ := row_end h hr
section
variable {w : World} {s : ByteArray} {at_ deep : Nat}
set_option maxHeartbeats 4000000 in
theorem refRow_any {R : Nat → Nat → Option Got} (hA : ∀ a, at_ ≤ a → a < s.size → RAtomOk R s a deep) (hat : at_ ≤ s.size) (hs : s.size ≤ 900) {g : Got} (hg : row R s.data.toList deep (s.data.toList.length + 1) at_ [] = some g) :
    Calls Tryz.prog 20 #[.string s, .int .i64 at_, .int .i64 deep] w (Gots w g) := by
  have hlen : s.data.toList.length = s.size := (Lib.size_eq s).symm
  have HG := Lib.hid hg
  have HA := Lib.hid hA
  have HLEN := Lib.hid hlen
  have HS := Lib.hid hs
  have HAT := Lib.hid hat
  clear hg hA hlen hs hat
  go_enter Tryz.func20, Tryz.ntmps20
  go_wp2_with (first | (refine alloc_got rfl rfl ?_; intro w1 b1 e1 p1 l1 z1))
  have G1 := Lib.hid p1
  have L1 := Lib.hid l1
  have HB := Lib.hid (show w.heap.size ≤ b1 ∧ b1 < w1.heap.size from ⟨by omega, by omega⟩)
  clear e1 p1 l1 z1
  go_loopg [1, 7] s.size (fun gk s1 s7 wr => ∃ (a : Nat) (acc : List Piece), s1 = .int .i64 a ∧ Hid (at_ ≤ a ∧ a ≤ s.size ∧ acc.length ≤ a) ∧ Hid (row R s.data.toList deep (gk + 1) a acc = some g) ∧ Hid (Build 25 w1.heap.size wr s7 acc) ∧ Hid (GBox wr b1 zeroR 0 0 0) ∧ Hid (Below w.heap.size w wr) ∧ Hid (w1.heap.size ≤ wr.heap.size))
  case atStart =>
    refine ⟨at_, [], rfl, ⟨Nat.le_refl _, HAT.out, Nat.zero_le _⟩, ?_, Build.nil _ _ _, G1, L1, Nat.le_refl _⟩
    show row R _ _ _ _ _ = _
    rw [← HLEN.out]; exact HG.out
  case round =>
    obtain ⟨a, acc, rfl, ha, hrow, hbuild, hbox, hbel, hsz⟩ := hrel
    by_cases hlt : a < s.size
    · have hlt2 : (a : Int) < (s.size : Int) := by omega
      have hga := getD_at' hlt
      by_cases h124 : s[a] = 124
      · have t124 : ((s[a].toNat : Int) == 124) = true := u8y h124
        have n124 : ((s[a].toNat : Int) != 124) = false := by show (!((s[a].toNat : Int) == 124)) = false; rw [t124]; rfl
        have hst := Lib.hid (show stop s.data.toList a from .inr (.inl (by rw [hga]; exact h124)))
        clear h124 hga
        have HX := Lib.hid (row_fin hst.out hrow.out)
        match acc, hbuild, HX with
        | [], hbuild, HX =>
          obtain ⟨A, c, rfl, hA1, hA2⟩ := hbuild.out.len
          unfold maxLen at hA2
          clear hrow hA1
          go_wp2_with fail
          refine (refLeaf_any 1 ⟨#[]⟩ a _).mono ?_
          rintro e w5 ⟨l5, r5, rfl, h5⟩
          have G5 := Lib.hid (hbox.out.below l5)
          have L5 := Lib.hid (hbel.out.trans (l5.mono hbel.out.size))
          have A5 := Lib.hid h5
          have K5 := Lib.hid (show w.heap.size ≤ wr.heap.size ∧ b1 < wr.heap.size from ⟨hbel.out.size, hbox.out.lt⟩)
          clear l5 h5
          go_wp2_with (first
            | (refine store_got (r := r5) (to := ((a : Nat) : Int)) (e := 0) (bad := 0) rfl (.tmp 6) (.tmp 44) rfl rfl rfl G5.out ?_; intro w9 p9 l9 z9))
          refine end_got rfl rfl p9 rfl ?_
          rw [HX.out]
          exact ⟨old_below L5.out l9 HB.out.1, r5, rfl, (A5.out.by_beside l9 K5.out.2).by_less K5.out.1⟩
        | [p], hbuild, HX =>
          obtain ⟨g0, c, r, rfl, hc1, hcell, hp⟩ := build_one hbuild.out
          have hA2 := hc1.out.2
          have hA1 := hc1.out.1
          unfold maxLen at hA2
          clear hrow
          go_wp2_with (first
            | (refine load_at rfl (.tmp 49) rfl rfl (r := r) hcell.out ?_)
            | (refine build_got (r := r) rfl (.tmp 50) (.tmp 51) rfl rfl rfl ?_)
            | (refine store_got (r := r) (to := ((a : Nat) : Int)) (e := 0) (bad := 0) rfl (.tmp 6) (.tmp 52) rfl rfl rfl hbox.out ?_; intro w9 p9 l9 z9))
          refine end_got rfl rfl p9 rfl ?_
          rw [HX.out]
          exact ⟨old_below hbel.out l9 HB.out.1, r, rfl, (hp.out.by_beside l9 HB.out.2).by_less L1.out.size⟩
        | p :: q :: l, hbuild, HX =>
          obtain ⟨A, c, rfl, hc1, hp⟩ := build_many 7 hbuild.out (by simp)
          have hA2 := hc1.out.2
          unfold maxLen at hA2
          have HN : Hid ((p :: q :: l).length ≤ 901) := by have := ha.out; have := HS.out; show _ ≤ _; omega
          have t0 : (((p :: q :: l).length : Int) == 0) = false := by simpa using (by omega : ¬ ((l.length : Int) + 1 + 1 = 0))
          have t1 : (((p :: q :: l).length : Int) == 1) = false := by simpa using (by omega : ¬ ((l.length : Int) + 1 + 1 = 1))
          obtain ⟨n, hn⟩ : ∃ n, (p :: q :: l).length = n := ⟨_, rfl⟩
          rw [hn] at t0 t1 hp HN ⊢
          have HN2 := Lib.hid hn
          clear hrow hn hbuild hc1
          go_wp2_with (first
            | (refine build_got (r := ⟨7, ⟨#[]⟩, A, n, c, 0, 0⟩) rfl (.tmp 54) (.tmp 55) rfl rfl rfl ?_)
            | (refine store_got (r := ⟨7, ⟨#[]⟩, A, n, c, 0, 0⟩) (to := ((a : Nat) : Int)) (e := 0) (bad := 0) rfl (.tmp 6) (.tmp 56) rfl rfl rfl hbox.out ?_; intro w9 p9 l9 z9))
          refine end_got rfl rfl p9 rfl ?_
          rw [HX.out]
          exact ⟨old_below hbel.out l9 HB.out.1, _, rfl, (hp.out.by_beside l9 HB.out.2).by_less L1.out.size⟩
      · have t124 : ((s[a].toNat : Int) == 124) = false := u8n h124
        have n124 : ((s[a].toNat : Int) != 124) = true := by show (!((s[a].toNat : Int) == 124)) = true; rw [t124]; rfl
        by_cases h41 : s[a] = 41
        · have t41 : ((s[a].toNat : Int) == 41) = true := u8y h41
          have n41 : ((s[a].toNat : Int) != 41) = false := by show (!((s[a].toNat : Int) == 41)) = false; rw [t41]; rfl
          have hst := Lib.hid (show stop s.data.toList a from .inr (.inr (by rw [hga]; exact h41)))
          clear h124 h41 hga
          have HX := Lib.hid (row_fin hst.out hrow.out)
          match acc, hbuild, HX with
          | [], hbuild, HX =>
            obtain ⟨A, c, rfl, hA1, hA2⟩ := hbuild.out.len
            unfold maxLen at hA2
            clear hrow hA1
            go_wp2_with fail
            refine (refLeaf_any 1 ⟨#[]⟩ a _).mono ?_
            rintro e w5 ⟨l5, r5, rfl, h5⟩
            have G5 := Lib.hid (hbox.out.below l5)
            have L5 := Lib.hid (hbel.out.trans (l5.mono hbel.out.size))
            have A5 := Lib.hid h5
            have K5 := Lib.hid (show w.heap.size ≤ wr.heap.size ∧ b1 < wr.heap.size from ⟨hbel.out.size, hbox.out.lt⟩)
            clear l5 h5
            go_wp2_with (first
              | (refine store_got (r := r5) (to := ((a : Nat) : Int)) (e := 0) (bad := 0) rfl (.tmp 6) (.tmp 44) rfl rfl rfl G5.out ?_; intro w9 p9 l9 z9))
            refine end_got rfl rfl p9 rfl ?_
            rw [HX.out]
            exact ⟨old_below L5.out l9 HB.out.1, r5, rfl, (A5.out.by_beside l9 K5.out.2).by_less K5.out.1⟩
          | [p], hbuild, HX =>
            obtain ⟨g0, c, r, rfl, hc1, hcell, hp⟩ := build_one hbuild.out
            have hA2 := hc1.out.2
            have hA1 := hc1.out.1
            unfold maxLen at hA2
            clear hrow
            go_wp2_with (first
              | (refine load_at rfl (.tmp 49) rfl rfl (r := r) hcell.out ?_)
              | (refine build_got (r := r) rfl (.tmp 50) (.tmp 51) rfl rfl rfl ?_)
              | (refine store_got (r := r) (to := ((a : Nat) : Int)) (e := 0) (bad := 0) rfl (.tmp 6) (.tmp 52) rfl rfl rfl hbox.out ?_; intro w9 p9 l9 z9))
            refine end_got rfl rfl p9 rfl ?_
            rw [HX.out]
            exact ⟨old_below hbel.out l9 HB.out.1, r, rfl, (hp.out.by_beside l9 HB.out.2).by_less L1.out.size⟩
          | p :: q :: l, hbuild, HX =>
            obtain ⟨A, c, rfl, hc1, hp⟩ := build_many 7 hbuild.out (by simp)
            have hA2 := hc1.out.2
            unfold maxLen at hA2
            have HN : Hid ((p :: q :: l).length ≤ 901) := by have := ha.out; have := HS.out; show _ ≤ _; omega
            have t0 : (((p :: q :: l).length : Int) == 0) = false := by simpa using (by omega : ¬ ((l.length : Int) + 1 + 1 = 0))
            have t1 : (((p :: q :: l).length : Int) == 1) = false := by simpa using (by omega : ¬ ((l.length : Int) + 1 + 1 = 1))
            obtain ⟨n, hn⟩ : ∃ n, (p :: q :: l).length = n := ⟨_, rfl⟩
            rw [hn] at t0 t1 hp HN ⊢
            have HN2 := Lib.hid hn
            clear hrow hn hbuild hc1
            go_wp2_with (first
              | (refine build_got (r := ⟨7, ⟨#[]⟩, A, n, c, 0, 0⟩) rfl (.tmp 54) (.tmp 55) rfl rfl rfl ?_)
              | (refine store_got (r := ⟨7, ⟨#[]⟩, A, n, c, 0, 0⟩) (to := ((a : Nat) : Int)) (e := 0) (bad := 0) rfl (.tmp 6) (.tmp 56) rfl rfl rfl hbox.out ?_; intro w9 p9 l9 z9))
            refine end_got rfl rfl p9 rfl ?_
            rw [HX.out]
            exact ⟨old_below hbel.out l9 HB.out.1, _, rfl, (hp.out.by_beside l9 HB.out.2).by_less L1.out.size⟩
        · have t41 : ((s[a].toNat : Int) == 41) = false := u8n h41
          have n41 : ((s[a].toNat : Int) != 41) = true := by show (!((s[a].toNat : Int) == 41)) = true; rw [t41]; rfl
          have hst : ¬ stop s.data.toList a := by
            rintro (q | q | q)
            · have := HLEN.out; omega
            · exact h124 (by rw [← hga]; exact q)
            · exact h41 (by rw [← hga]; exact q)
          obtain ⟨g0, hp0, hf0, hC⟩ := refPart_any (HA.out a ha.out.1 hlt) HS.out
          have HC := Lib.hid hC
          have HRO := Lib.hid hrow.out
          obtain ⟨A, c, rfl, hA1, hA2⟩ := hbuild.out.len
          unfold maxLen at hA2
          rcases g0 with ⟨p, to⟩ | ⟨qb, er⟩
          · have HON := Lib.hid (row_on_ok hst hp0 hrow.out)
            have HTO : Hid (at_ ≤ to ∧ to ≤ s.size ∧ (acc ++ [p]).length ≤ to ∧ acc.length ≤ 1000000) := by
              have h1 := hf0.1
              have h2 := hf0.2.1
              have h3 := HLEN.out
              have h4 := ha.out
              have h5 := HS.out
              refine ⟨by omega, by omega, ?_, by omega⟩
              rw [List.length_append]
              show acc.length + 1 ≤ to
              omega
            clear hst h124 h41 hga hp0 hf0 hC hrow HRO
            go_wp2_with fail
            refine (HC.out _).mono ?_
            rintro e w4 ⟨l4, r, rfl, hp⟩
            have G4 := Lib.hid (hbox.out.below l4)
            have U4 := Lib.hid (hbuild.out.below l4)
            have L4 := Lib.hid (hbel.out.trans (l4.mono hbel.out.size))
            have A4 := Lib.hid hp
            have Z4 := Lib.hid l4.size
            clear l4 hp
            cases gk with
            | zero => exact absurd HON.out (by simp [row])
            | succ gk2 =>
              go_wp2_with (first
                | (refine alloc_got rfl rfl ?_; intro w5 b3 e5 p5 l5 z5)
                | (refine store_got (r := r) (to := ((to : Nat) : Int)) (e := 0) (bad := 0) rfl (.tmp 8) (.tmp 28) rfl rfl rfl p5 ?_; intro w6 p6 l6 z6; have L6 := Lib.hid (two_new l5 l6 e5); have Q6 := Lib.hid p6; have k5 := p6.c5; have k6 := p6.c6; have ZB := Lib.hid (show wr.heap.size ≤ b3 from e5 ▸ Z4.out); clear e5 p5 l5 z5 p6 l6 z6)
                | (refine load_at rfl (.tmp 34) rfl rfl (r := r) (fun j hj => Q6.out.raw j hj) ?_)
                | (refine slice_piece rfl (.tmp 35) rfl (r := r) rfl ?_; intro w7 b7 e7 r7 l7 z7; have L7 := Lib.hid (L6.out.trans (l7.mono L6.out.size)); have U7 := Lib.hid (U4.out.below L7.out); have A7 := Lib.hid (A4.out.by_below L7.out); have Q7 := Lib.hid (Q6.out.below l7); have R7 := Lib.hid r7; clear e7 r7 l7 z7 k5 k6)
                | (refine append_piece rfl (.tmp 33) (.tmp 36) rfl rfl rfl U7.out hbuild.out.own_lt hsz.out (Nat.le_trans hsz.out (Nat.le_trans Z4.out L7.out.size)) R7.out A7.out HTO.out.2.2.2 ?_; intro v' w8 U8 g8; have HU := Lib.hid U8; have G8 := Lib.hid (grown_got U7.out g8 HB.out.2 (G4.out.below L7.out)); have L8 := Lib.hid (grown_under U7.out g8 L1.out.size (L4.out.trans (L7.out.mono L4.out.size))); have Z8 : Hid (w1.heap.size ≤ w8.heap.size) := (by obtain ⟨_, _, _, g, _⟩ := g8; exact Nat.le_trans hsz.out (Nat.le_trans Z4.out (Nat.le_trans L7.out.size g))); have kk := grown_cell U7.out g8 Q7.out hbuild.out ZB.out; clear U8 g8))
              go_roundg gk2
              case measure => exact Nat.lt_succ_self _
              case rel => exact ⟨to, acc ++ [p], by first | rfl | trivial, ⟨HTO.out.1, HTO.out.2.1, HTO.out.2.2.1⟩, HON, HU, G8, L8, Z8⟩
          · have HX := Lib.hid (row_on_bad hst hp0 hrow.out)
            clear hst h124 h41 hga hp0 hf0 hC hrow HRO
            go_wp2_with fail
            refine (HC.out _).mono ?_
            rintro e w4 ⟨l4, he, tq, rfl⟩
            have G4 := Lib.hid (hbox.out.below l4)
            have L4 := Lib.hid (hbel.out.trans (l4.mono hbel.out.size))
            have te : (er != 0) = true := by simpa using he
            have HE := Lib.hid he
            clear l4 he
            go_wp2_with (first
              | (refine alloc_got rfl rfl ?_; intro w5 b3 e5 p5 l5 z5)
              | (refine store_got (r := zeroR) (to := tq) (e := er) (bad := (qb : Int)) rfl (.tmp 8) (.tmp 28) rfl rfl rfl p5 ?_; intro w6 p6 l6 z6; have L6 := Lib.hid (two_new l5 l6 e5); have G6 := Lib.hid (G4.out.below L6.out); have L6' := Lib.hid (L4.out.trans (L6.out.mono L4.out.size)); have Q6 := Lib.hid p6; have k6 := p6.c6; clear e5 p5 l5 z5 p6 l6 z6)
              | (refine load_got rfl (.tmp 8) rfl rfl Q6.out ?_)
              | (refine store_got (r := zeroR) (to := tq) (e := er) (bad := (qb : Int)) rfl (.tmp 6) (.tmp 32) rfl rfl rfl G6.out ?_; intro w9 p9 l9 z9))
            refine end_got rfl rfl p9 rfl ?_
            rw [HX.out]
            exact ⟨old_below L6'.out l9 HB.out.1, HE.out, tq, rfl⟩
    · have hlt2 : ¬ (a : Int) < (s.size : Int) := by omega
      have hst := Lib.hid (show stop s.data.toList a from .inl (by rw [HLEN.out]; omega))
      clear hlt
      have HX := Lib.hid (row_fin hst.out hrow.out)
      match acc, hbuild, HX with
      | [], hbuild, HX =>
        obtain ⟨A, c, rfl, hA1, hA2⟩ := hbuild.out.len
        unfold maxLen at hA2
        clear hrow hA1
        go_wp2_with fail
        refine (refLeaf_any 1 ⟨#[]⟩ a _).mono ?_
        rintro e w5 ⟨l5, r5, rfl, h5⟩
        have G5 := Lib.hid (hbox.out.below l5)
        have L5 := Lib.hid (hbel.out.trans (l5.mono hbel.out.size))
        have A5 := Lib.hid h5
        have K5 := Lib.hid (show w.heap.size ≤ wr.heap.size ∧ b1 < wr.heap.size from ⟨hbel.out.size, hbox.out.lt⟩)
        clear l5 h5
        go_wp2_with (first
          | (refine store_got (r := r5) (to := ((a : Nat) : Int)) (e := 0) (bad := 0) rfl (.tmp 6) (.tmp 44) rfl rfl rfl G5.out ?_; intro w9 p9 l9 z9))
        refine end_got rfl rfl p9 rfl ?_
        rw [HX.out]
        exact ⟨old_below L5.out l9 HB.out.1, r5, rfl, (A5.out.by_beside l9 K5.out.2).by_less K5.out.1⟩
      | [p], hbuild, HX =>
        obtain ⟨g0, c, r, rfl, hc1, hcell, hp⟩ := build_one hbuild.out
        have hA2 := hc1.out.2
        have hA1 := hc1.out.1
        unfold maxLen at hA2
        clear hrow
        go_wp2_with (first
          | (refine load_at rfl (.tmp 49) rfl rfl (r := r) hcell.out ?_)
          | (refine build_got (r := r) rfl (.tmp 50) (.tmp 51) rfl rfl rfl ?_)
          | (refine store_got (r := r) (to := ((a : Nat) : Int)) (e := 0) (bad := 0) rfl (.tmp 6) (.tmp 52) rfl rfl rfl hbox.out ?_; intro w9 p9 l9 z9))
        refine end_got rfl rfl p9 rfl ?_
        rw [HX.out]
        exact ⟨old_below hbel.out l9 HB.out.1, r, rfl, (hp.out.by_beside l9 HB.out.2).by_less L1.out.size⟩
      | p :: q :: l, hbuild, HX =>
        obtain ⟨A, c, rfl, hc1, hp⟩ := build_many 7 hbuild.out (by simp)
        have hA2 := hc1.out.2
        unfold maxLen at hA2
        have HN : Hid ((p :: q :: l).length ≤ 901) := by have := ha.out; have := HS.out; show _ ≤ _; omega
        have t0 : (((p :: q :: l).length : Int) == 0) = false := by simpa using (by omega : ¬ ((l.length : Int) + 1 + 1 = 0))
        have t1 : (((p :: q :: l).length : Int) == 1) = false := by simpa using (by omega : ¬ ((l.length : Int) + 1 + 1 = 1))
        obtain ⟨n, hn⟩ : ∃ n, (p :: q :: l).length = n := ⟨_, rfl⟩
        rw [hn] at t0 t1 hp HN ⊢
        have HN2 := Lib.hid hn
        clear hrow hn hbuild hc1
        go_wp2_with (first
          | (refine build_got (r := ⟨7, ⟨#[]⟩, A, n, c, 0, 0⟩) rfl (.tmp 54) (.tmp 55) rfl rfl rfl ?_)
          | (refine store_got (r := ⟨7, ⟨#[]⟩, A, n, c, 0, 0⟩) (to := ((a : Nat) : Int)) (e := 0) (bad := 0) rfl (.tmp 6) (.tmp 56) rfl rfl rfl hbox.out ?_; intro w9 p9 l9 z9))
        refine end_got rfl rfl p9 rfl ?_
        rw [HX.out]
        exact ⟨old_below hbel.out l9 HB.out.1, _, rfl, (hp.out.by_beside l9 HB.out.2).by_less L1.out.size⟩
end
end Go.Proofs.YtenlogfiabhfmaaGreatDoor.W14
