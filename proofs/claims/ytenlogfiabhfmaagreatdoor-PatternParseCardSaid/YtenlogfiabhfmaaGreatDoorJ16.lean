/-
  Texts joined, in build order, each with its own comment and its own conditions: W14Pattern, W14RefRows, W14RefAll, W14Parse, W14More, W14RefParse.
-/
import Derived.Test.YtenlogfiabhfmaaGreatDoorJ14
import Derived.Deep.Cut
import Derived.Test.YtenlogfiabhfmaaGreatDoorJ15
import Derived.Test.YtenlogfiabhfmaaGreatDoorJ05
/-
  Layer 14 (pattern), walks of the program's pattern and Parse. The conditions stand in the statements.
-/
namespace Go.Proofs.YtenlogfiabhfmaaGreatDoor.W14
set_option maxRecDepth 100000
open Go Go.RowKit Go.Proofs.YtenlogfiabhfmaaGreatDoor.Recs Go.Proofs.YtenlogfiabhfmaaGreatDoor.M14
open Go.Proofs.YtenlogfiabhfmaaGreatDoor.Row256 (Beside)
open Go.Proofs.YtenlogfiabhfmaaGreatDoor.Kit (ret_str ret_bool ret_int mk_of mk_bytes ba_ext below_draws on list_full list_ne list_none list_nil)

section
variable {R : Nat → Nat → Option Got} {S : List UInt8} {deep k at_ : Nat} {acc : List Piece} {g : Got}
theorem rowsL_bad {g0 : Got} {q : Nat} {er : Int} (hp : row R S deep (S.length + 1) at_ [] = some g0) (hf : fix S deep g0 = .bad q er) (hr : rowsL R S deep (k + 1) at_ acc = some g) : fix S deep g = .bad q er := by
  unfold rowsL at hr
  rw [hp] at hr
  match g0, hf, hr with
  | .bad b e, hf, hr =>
    simp only at hr
    injection hr with hr
    rw [← hr]; exact hf
  | .ok p to, hf, hr =>
    have hf' : (if deep = 0 ∧ to < S.length ∧ S.getD to 0 = 41 then Got.bad to 3 else Got.ok p to) = .bad q er := hf
    by_cases hc : deep = 0 ∧ to < S.length ∧ S.getD to 0 = 41
    · rw [if_pos hc] at hf'
      simp only at hr
      rw [if_pos (Or.inr (by rw [hc.2.2]; decide))] at hr
      injection hr with hr
      rw [← hr, ← hf']
      exact if_pos hc
    · rw [if_neg hc] at hf'; cases hf'
theorem fix_ok {g0 : Got} {p : Piece} {to : Nat} (hf : fix S deep g0 = .ok p to) : g0 = .ok p to ∧ ¬ (deep = 0 ∧ to < S.length ∧ S.getD to 0 = 41) := by
  match g0, hf with
  | .bad b e, hf => cases hf
  | .ok p' to', hf =>
    have hf' : (if deep = 0 ∧ to' < S.length ∧ S.getD to' 0 = 41 then Got.bad to' 3 else Got.ok p' to') = .ok p to := hf
    by_cases hc : deep = 0 ∧ to' < S.length ∧ S.getD to' 0 = 41
    · rw [if_pos hc] at hf'; cases hf'
    · rw [if_neg hc] at hf'
      injection hf' with h1 h2
      subst h1 h2
      exact ⟨rfl, hc⟩
theorem rowsL_end {p : Piece} {to : Nat} (hp : row R S deep (S.length + 1) at_ [] = some (.ok p to)) (hc : ¬ (deep = 0 ∧ to < S.length ∧ S.getD to 0 = 41)) (ht : to = S.length ∨ S.getD to 0 ≠ 124) (hr : rowsL R S deep (k + 1) at_ acc = some g) : fix S deep g = .ok (together 8 (acc ++ [p])) to := by
  unfold rowsL at hr
  rw [hp] at hr
  simp only at hr
  rw [if_pos ht] at hr
  injection hr with hr
  rw [← hr]
  exact if_neg hc
theorem rowsL_on {p : Piece} {to : Nat} (hp : row R S deep (S.length + 1) at_ [] = some (.ok p to)) (ht : ¬ (to = S.length ∨ S.getD to 0 ≠ 124)) (hr : rowsL R S deep (k + 1) at_ acc = some g) : rowsL R S deep k (to + 1) (acc ++ [p]) = some g := by
  unfold rowsL at hr
  rw [hp] at hr
  simp only at hr
  rw [if_neg ht] at hr
  exact hr
end
theorem bar_yes {s : ByteArray} {to : Nat} (h : to < s.size) (h2 : s[to] = 124) : Lib.hasPrefix (s.extract to s.size).data.toList [124] = true := by
  rw [Kit.drop_bytes, Kit.drop_next s to h, h2]
  simp [Lib.hasPrefix]
theorem bar_no {s : ByteArray} {to : Nat} (h : ¬ ∃ h : to < s.size, s[to] = 124) : Lib.hasPrefix (s.extract to s.size).data.toList [124] = false := by
  rw [Kit.drop_bytes]
  by_cases ht : to < s.size
  · rw [Kit.drop_next s to ht]
    have : ¬ s[to] = 124 := fun e => h ⟨ht, e⟩
    have e : (124 : UInt8) ≠ s[to] := fun e => this e.symm
    show ((124 : UInt8) == s[to] && _) = false
    rw [beq_eq_false_iff_ne.2 e, Bool.false_and]
  · rw [Kit.drop_end s to ht]; rfl
theorem bar_true {s : ByteArray} {to : Nat} (h : Lib.hasPrefix (s.extract to s.size).data.toList [124] = true) : ∃ h : to < s.size, s[to] = 124 := Classical.byContradiction fun q => by rw [bar_no q] at h; cases h
theorem bar_false {s : ByteArray} {to : Nat} (h : Lib.hasPrefix (s.extract to s.size).data.toList [124] = false) : ¬ ∃ h : to < s.size, s[to] = 124 := fun ⟨a, b⟩ => by rw [bar_yes a b] at h; cases h
section
variable {w : World} {b : Nat} {s : ByteArray} {at_ deep : Nat}
set_option maxHeartbeats 1000000 in
theorem pattern_any {R : Nat → Nat → Option Got} (hR : PatOk s R (at_ + 1)) (hat : at_ ≤ s.size) (hs : s.size ≤ 900) (hd : deep ≤ 64) {g : Got} (hg : rowsL R s.data.toList deep (s.data.toList.length + 1) at_ [] = some g) (h : Reader w b s at_ deep) :
    Calls Tryz.prog 11 #[.pointer (some ⟨b, 0, none⟩)] w (Reads b s deep w (fix s.data.toList deep g)) := by
  have hlen : s.data.toList.length = s.size := (Lib.size_eq s).symm
  have hlt := h.lt
  have H := Lib.hid h
  have HG := Lib.hid hg
  have HR := Lib.hid hR
  obtain ⟨G, hG⟩ : ∃ G, fix s.data.toList deep g = G := ⟨_, rfl⟩
  rw [hG]
  have HFX := Lib.hid hG
  have HLEN := Lib.hid hlen
  clear h hg hR hG hlen
  go_enter Tryz.func11, Tryz.ntmps11
  go_wp2_with (first | (refine alloc_piece rfl rfl ?_; intro w1 b1 e1 p1 l1 z1))
  have hne : b1 ≠ b := by omega
  have hb1 : b < w1.heap.size := by omega
  have hb2 : b1 < w1.heap.size := by omega
  have hwb : w.heap.size ≤ b1 := by omega
  go_loopg [4] s.size (fun gk s4 wr => ∃ (a : Nat) (acc : List Piece), at_ ≤ a ∧ a ≤ s.size ∧ acc.length ≤ a ∧ Hid (rowsL R s.data.toList deep (gk + 1) a acc = some g) ∧ Hid (Build 25 w1.heap.size wr s4 acc) ∧ Hid (Reader wr b s a deep) ∧ Hid (PBox wr b1 zeroR) ∧ Hid (Beside b w wr) ∧ w1.heap.size ≤ wr.heap.size)
  case atStart =>
    refine ⟨at_, [], Nat.le_refl _, hat, Nat.zero_le _, ?_, Build.nil _ _ _, H.out.below l1, p1, .of l1, Nat.le_refl _⟩
    show rowsL R _ _ _ _ _ = _
    rw [← HLEN.out]; exact HG.out
  case round =>
    obtain ⟨a, acc, ha0, ha1, hacc, hrow, hbuild, hrd, hbox, hbes, hsz⟩ := hrel
    obtain ⟨A, c, rfl, hA1, hA2⟩ := hbuild.out.len
    unfold maxLen at hA2
    obtain ⟨g0, hg0, hf0⟩ := row_fine (R := R) (S := s.data.toList) (deep := deep) (lo := a) (by rw [HLEN.out]; exact hs) (fun hd2 to h1 h2 => by
      obtain ⟨g, e, hf, -⟩ := HR.out to (deep + 1) (by omega) (by rw [HLEN.out] at h2; exact h2) (by omega)
      exact ⟨g, e, hf⟩) (s.data.toList.length + 1) a [] (Nat.le_refl _) (by rw [HLEN.out]; exact ha1) (by have := HLEN.out; omega) (Nat.zero_le _) (by simp)
    have hC : ∀ w b, Reader w b s a deep → Calls Tryz.prog 17 #[.pointer (some ⟨b, 0, none⟩)] w (Reads b s deep w (fix s.data.toList deep g0)) := fun w b h => row_any (HR.out.more (by omega)) ha1 hs hd hg0 h
    obtain ⟨F0, hF0⟩ : ∃ F, fix s.data.toList deep g0 = F := ⟨_, rfl⟩
    rw [hF0] at hC
    have HC := Lib.hid hC
    clear hC
    rcases F0 with ⟨p, to⟩ | ⟨qb, er⟩
    rotate_left
    · skip
      have HX : Hid (G = .bad qb er) := by
        unfold Hid
        rw [← HFX.out]
        exact rowsL_bad hg0 hF0 hrow.out
      clear hf0 hF0 hg0 hrow
      go_wp2_with fail
      refine (HC.out _ _ hrd.out).mono ?_
      rintro e w4 ⟨b4, he, rfl, d, hr⟩
      have B4 := Lib.hid b4
      have P4 := Lib.hid (hbox.out.beside b4 hne)
      have H4 := Lib.hid hr
      have te : (er != 0) = true := by simpa using he
      have HE := Lib.hid he
      have hz := B4.out.size
      clear b4 hr he
      go_wp2_with (first
        | (refine alloc_piece rfl rfl ?_; intro w5 c2 e5 p5 l5 z5)
        | (refine store_piece (r := zeroR) rfl (.tmp 5) (.tmp 10) rfl rfl rfl p5 ?_; intro w6 p6 l6 z6; have L6 := Lib.hid (two_new l5 l6 e5); have P6 := Lib.hid (P4.out.below L6.out))
        | (refine store_piece (r := zeroR) rfl (.tmp 2) (.tmp 14) rfl rfl rfl P6.out ?_; intro w7 p7 l7 z7))
      refine end_piece2 rfl rfl p7 rfl ?_
      rw [HX.out]
      exact ⟨beside_fresh (hbes.out.trans (beside_onto B4.out L6.out)) l7 hwb, HE.out, rfl, _, (H4.out.below L6.out).beside l7 hne.symm⟩
    · obtain ⟨rfl, hnc⟩ := fix_ok hF0
      have hto1 : a ≤ to := hf0.1
      have hto2 : to ≤ s.size := by have := hf0.2.1; rw [HLEN.out] at this; exact this
      have hto3 : (to : Int) ≤ (s.size : Int) := by omega
      obtain ⟨bo, hbo⟩ : ∃ bo, Lib.hasPrefix (s.extract to s.size).data.toList [124] = bo := ⟨_, rfl⟩
      have HQ : Hid (∀ w, Calls Tryz.prog 18 #[.string (s.extract to s.size), .string ⟨#[124]⟩] w fun e w' => e = .returned (.bool bo) ∧ w' = w) := fun w => by
        have := Tryz.strings_HasPrefix (s.extract to s.size) ⟨#[124]⟩ w
        rw [hbo] at this
        exact this
      have HBO := Lib.hid hbo
      have HG0 := Lib.hid hg0
      have HNC := Lib.hid hnc
      have hal0 : acc.length ≤ 1000000 := by omega
      have r4 : acc.length ≤ to := by omega
      have r5 : at_ ≤ to := by omega
      clear hf0 hF0 hg0 hbo hnc hto1 ha0 ha1 hacc hA1 hA2
      go_wp2_with fail
      refine (HC.out _ _ hrd.out).mono ?_
      rintro e w4 ⟨b4, r, rfl, hr, hp⟩
      have B4 := Lib.hid b4
      have P4 := Lib.hid (hbox.out.beside b4 hne)
      have U4 := Lib.hid (hbuild.out.beside b4 hb1)
      have H4 := Lib.hid hr
      have A4 := Lib.hid hp
      have hz := B4.out.size
      clear b4 hr hp
      go_wp2_with (first
        | (refine alloc_piece rfl rfl ?_; intro w5 c2 e5 p5 l5 z5)
        | (refine store_piece (r := r) rfl (.tmp 5) (.tmp 10) rfl rfl rfl p5 ?_; intro w6 p6 l6 z6; have L6 := Lib.hid (two_new l5 l6 e5))
        | (refine load_piece rfl (.tmp 5) rfl rfl p6 ?_)
        | (refine slice_piece rfl (.tmp 17) rfl (r := r) rfl ?_; intro w7 b3 e7 r7 l7 z7; have L7 := Lib.hid (L6.out.trans (l7.mono L6.out.size)); have U7 := Lib.hid (U4.out.below L7.out); have A7 := Lib.hid (A4.out.by_below L7.out); have hz7 := L7.out.size)
        | (refine append_piece rfl (.tmp 16) (.tmp 18) rfl rfl rfl U7.out hbuild.out.own_lt hsz (Nat.le_trans hsz (Nat.le_trans hz hz7)) r7 A7.out hal0 ?_; intro v' w8 U8 g8; have HR8 := Lib.hid (grown_reader U7.out g8 hb1 (H4.out.below L7.out)); have k0 := HR8.out.c0; have k1 := HR8.out.c1))
      have HU := Lib.hid U8
      have HP8 := Lib.hid (grown_box U7.out g8 hb2 (P4.out.below L7.out))
      have HB8 := Lib.hid (grown_beside U7.out g8 l1.size (hbes.out.trans (beside_onto B4.out L7.out)))
      have hz8 : w7.heap.size ≤ w8.heap.size := by obtain ⟨_, _, _, g, _⟩ := g8; exact g
      clear g8 U8
      go_quiet ((go_at_call 18; exact Calls.quiet_of_same (HQ.out _)))
      have HU2 : Hid (Build 25 w1.heap.size (w8.drewN nq) v' (acc ++ [p])) := HU.out.same (Nat.le_refl _) fun _ _ _ => rfl
      have HR9 : Hid (Reader (w8.drewN nq) b s to deep) := HR8
      have HP9 : Hid (PBox (w8.drewN nq) b1 zeroR) := HP8
      have HB9 : Hid (Beside b w (w8.drewN nq)) := beside_onto HB8.out (below_draws w8 nq)
      have hz9 : w8.heap.size ≤ (w8.drewN nq).heap.size := Nat.le_refl _
      clear HU HR8 HP8 HB8 k0 k1
      have HSZ : Hid (w1.heap.size ≤ (w8.drewN nq).heap.size) := Nat.le_trans hsz (Nat.le_trans hz (Nat.le_trans hz7 hz8))
      clear hz9 hz8 hz7 hz hsz z5 z6 e5 L6 l6 L7 U7 A7 e7 z7 l7 r7 p6 l5 p5 A4 H4 U4 P4 B4
      generalize w8.drewN nq = w9 at *
      cases bo with
      | true =>
        obtain ⟨hto4, hbr⟩ := bar_true HBO.out
        have hno : ¬ (to = s.data.toList.length ∨ s.data.toList.getD to 0 ≠ 124) := by
          rintro (q | q)
          · rw [HLEN.out] at q; exact absurd hto4 (by rw [q]; exact Nat.lt_irrefl _)
          · exact q (by rw [getD_at hto4]; exact hbr)
        have HON := Lib.hid (rowsL_on HG0.out hno hrow.out)
        have r3 : (acc ++ [p]).length ≤ to + 1 := by rw [List.length_append]; exact Nat.succ_le_succ r4
        have hw : wrap64 ((to : Int) + 1) = ((to + 1 : Nat) : Int) := by unfold wrap64; omega
        clear hno hbr
        have k1 := HR9.out.c1
        have g1 := HR9.out.free 1
        have B10 : Hid (Beside b w9 (w9.setCell ⟨b, 1, none⟩ (.int .i64 ((to + 1 : Nat) : Int)))) := beside_put _ _ _ _
        have HR10 := Lib.hid (HR9.out.put1 (to + 1))
        have HP10 := Lib.hid (HP9.out.beside B10.out hne)
        have HU10 := Lib.hid (HU2.out.beside B10.out hb1)
        have HB10 := Lib.hid (HB9.out.trans B10.out)
        have HZ10 := Lib.hid B10.out.size
        have R3 := Lib.hid r3
        have R5 := Lib.hid (Nat.le_succ_of_le r5)
        have R6 := Lib.hid hto4
        clear r3 r4 r5 hal0 hto2 hto3 hto4
        cases gk with
        | zero => exact absurd HON.out (by simp [rowsL])
        | succ gk2 =>
          go_wp2_with fail
          go_roundg gk2
          case measure => exact Nat.lt_succ_self _
          case rel => exact ⟨to + 1, acc ++ [p], R5.out, R6.out, R3.out, HON, HU10, HR10, HP10, HB10, Nat.le_trans HSZ.out HZ10.out⟩
      | false =>
        have HX : Hid (G = .ok (together 8 (acc ++ [p])) to) := by
          unfold Hid
          rw [← HFX.out]
          refine rowsL_end HG0.out HNC.out ?_ hrow.out
          rcases Nat.lt_or_ge to s.size with q | q
          · exact .inr fun e => bar_false HBO.out ⟨q, by rw [getD_at q] at e; exact e⟩
          · exact .inl (by rw [HLEN.out]; exact Nat.le_antisymm hto2 q)
        have hal : (acc ++ [p]).length ≤ 1000000 := by
          rw [List.length_append]
          exact Nat.le_trans (Nat.succ_le_succ r4) (Nat.le_trans (Nat.succ_le_succ (Nat.le_trans hto2 hs)) (by decide))
        go_wp2_with fail
        refine (together_any 8 hal HU2.out).mono ?_
        rintro e w10 ⟨r10, rfl, hp, l10⟩
        have A10 := Lib.hid hp
        have L10 := Lib.hid l10
        have P10 := Lib.hid (HP9.out.below l10)
        clear hp l10
        go_wp2_with (first
          | (refine store_piece (r := r10) rfl (.tmp 2) (.tmp 32) rfl rfl rfl P10.out ?_; intro w11 p11 l11 z11))
        refine end_piece2 rfl rfl p11 rfl ?_
        rw [HX.out]
        exact ⟨beside_fresh (beside_onto HB9.out L10.out) l11 hwb, _, rfl, (HR9.out.below L10.out).beside l11 hne.symm, (A10.out.by_beside l11 hb2).by_less l1.size⟩
theorem patOk (hs : s.size ≤ 900) : ∀ (n lo : Nat), s.data.toList.length < lo + n → PatOk s (rows s.data.toList n) lo
  | 0, lo, h => fun a d h1 h2 _ => by rw [← Lib.size_eq] at h; omega
  | n + 1, lo, h => fun a d h1 h2 h3 => by
    have hl : s.data.toList.length = s.size := (Lib.size_eq s).symm
    obtain ⟨g, e, hf⟩ := rows_fine (S := s.data.toList) (by omega) (n + 1) a d (by omega) (by omega)
    refine ⟨g, e, hf, fun w b hr => ?_⟩
    exact pattern_any (patOk hs n (a + 1) (by omega)) h2 hs h3 (by unfold rows at e; exact e) hr
end
end Go.Proofs.YtenlogfiabhfmaaGreatDoor.W14
/-
  Layer 14 (pattern), walk of the document's rows. The conditions stand in the statements.
-/
namespace Go.Proofs.YtenlogfiabhfmaaGreatDoor.W14
set_option maxRecDepth 100000
open Go Go.RowKit Go.Proofs.YtenlogfiabhfmaaGreatDoor.Strs Go.Proofs.YtenlogfiabhfmaaGreatDoor.Recs Go.Proofs.YtenlogfiabhfmaaGreatDoor.M14
open Go.Proofs.YtenlogfiabhfmaaGreatDoor.Row256 (Beside)
open Go.Proofs.YtenlogfiabhfmaaGreatDoor.Kit (below_draws on)

section
variable {R : Nat → Nat → Option Got} {S : List UInt8} {deep k at_ : Nat} {acc : List Piece} {g : Got}
theorem rowsL_no {q : Nat} {er : Int} (hp : row R S deep (S.length + 1) at_ [] = some (.bad q er)) (hr : rowsL R S deep (k + 1) at_ acc = some g) : g = .bad q er := by
  unfold rowsL at hr
  rw [hp] at hr
  injection hr with hr
  exact hr.symm
theorem rowsL_fin {p : Piece} {to : Nat} (hp : row R S deep (S.length + 1) at_ [] = some (.ok p to)) (ht : to = S.length ∨ S.getD to 0 ≠ 124) (hr : rowsL R S deep (k + 1) at_ acc = some g) : g = .ok (together 8 (acc ++ [p])) to := by
  unfold rowsL at hr
  rw [hp] at hr
  simp only at hr
  rw [if_pos ht] at hr
  injection hr with hr
  exact hr.symm
end
section
variable {w : World} {s : ByteArray} {at_ deep : Nat}
set_option maxHeartbeats 4000000 in
theorem refRows_any {R : Nat → Nat → Option Got} (hA : ∀ a, at_ ≤ a → a < s.size → RAtomOk R s a deep) (hF : deep ≠ 64 → ∀ to, at_ < to → to ≤ s.size → ∃ g, R to (deep + 1) = some g ∧ Fine s.data.toList to g) (hat : at_ ≤ s.size) (hs : s.size ≤ 900) {g : Got} (hg : rowsL R s.data.toList deep (s.data.toList.length + 1) at_ [] = some g) :
    Calls Tryz.prog 12 #[.string s, .int .i64 at_, .int .i64 deep] w (Gots w g) := by
  have hlen : s.data.toList.length = s.size := (Lib.size_eq s).symm
  have HG := Lib.hid hg
  have HA := Lib.hid hA
  have HF := Lib.hid hF
  have HLEN := Lib.hid hlen
  have HS := Lib.hid hs
  have HAT := Lib.hid hat
  clear hg hA hF hlen hs hat
  go_enter Tryz.func12, Tryz.ntmps12
  go_wp2_with (first | (refine alloc_got rfl rfl ?_; intro w1 b1 e1 p1 l1 z1))
  have G1 := Lib.hid p1
  have L1 := Lib.hid l1
  have HB := Lib.hid (show w.heap.size ≤ b1 ∧ b1 < w1.heap.size from ⟨by omega, by omega⟩)
  clear e1 p1 l1 z1
  go_loopg [1, 7] s.size (fun gk s1 s7 wr => ∃ (a : Nat) (acc : List Piece), s1 = .int .i64 a ∧ Hid (at_ ≤ a ∧ a ≤ s.size ∧ acc.length ≤ a) ∧ Hid (rowsL R s.data.toList deep (gk + 1) a acc = some g) ∧ Hid (Build 25 w1.heap.size wr s7 acc) ∧ Hid (GBox wr b1 zeroR 0 0 0) ∧ Hid (Below w.heap.size w wr) ∧ Hid (w1.heap.size ≤ wr.heap.size))
  case atStart =>
    refine ⟨at_, [], rfl, ⟨Nat.le_refl _, HAT.out, Nat.zero_le _⟩, ?_, Build.nil _ _ _, G1, L1, Nat.le_refl _⟩
    show rowsL R _ _ _ _ _ = _
    rw [← HLEN.out]; exact HG.out
  case round =>
    obtain ⟨a, acc, rfl, ha, hrow, hbuild, hbox, hbel, hsz⟩ := hrel
    obtain ⟨g0, hg0, hf0⟩ := row_fine (R := R) (S := s.data.toList) (deep := deep) (lo := a) (by rw [HLEN.out]; exact HS.out) (fun hd to h1 h2 => HF.out hd to (Nat.lt_of_le_of_lt ha.out.1 h1) (by rw [HLEN.out] at h2; exact h2)) (s.data.toList.length + 1) a [] (Nat.le_refl _) (by rw [HLEN.out]; exact ha.out.2.1) (by have := HLEN.out; omega) (Nat.zero_le _) (by simp)
    have HC := Lib.hid (fun w => refRow_any (w := w) (fun b h1 h2 => HA.out b (Nat.le_trans ha.out.1 h1) h2) ha.out.2.1 HS.out hg0)
    obtain ⟨A, c, rfl, hA1, hA2⟩ := hbuild.out.len
    unfold maxLen at hA2
    rcases g0 with ⟨p, to⟩ | ⟨qb, er⟩
    rotate_left
    · have HX := Lib.hid (rowsL_no hg0 hrow.out)
      clear hg0 hf0 hrow
      go_wp2_with fail
      refine (HC.out _).mono ?_
      rintro e w4 ⟨l4, he, tq, rfl⟩
      have G4 := Lib.hid (hbox.out.below l4)
      have L4 := Lib.hid (hbel.out.trans (l4.mono hbel.out.size))
      have te : (er != 0) = true := by simpa using he
      have HE := Lib.hid he
      clear l4 he
      go_wp2_with (first
        | (refine alloc_got rfl rfl ?_; intro w5 b3 e5 p5 l5 z5)
        | (refine store_got (r := zeroR) (to := tq) (e := er) (bad := (qb : Int)) rfl (.tmp 8) (.tmp 12) rfl rfl rfl p5 ?_; intro w6 p6 l6 z6; have L6 := Lib.hid (two_new l5 l6 e5); have G6 := Lib.hid (G4.out.below L6.out); have L6' := Lib.hid (L4.out.trans (L6.out.mono L4.out.size)); have Q6 := Lib.hid p6; have k6 := p6.c6; clear e5 p5 l5 z5 p6 l6 z6)
        | (refine load_got rfl (.tmp 8) rfl rfl Q6.out ?_)
        | (refine store_got (r := zeroR) (to := tq) (e := er) (bad := (qb : Int)) rfl (.tmp 6) (.tmp 16) rfl rfl rfl G6.out ?_; intro w9 p9 l9 z9))
      refine end_got rfl rfl p9 rfl ?_
      rw [HX.out]
      exact ⟨old_below L6'.out l9 HB.out.1, HE.out, tq, rfl⟩
    · have HTO : Hid (a ≤ to ∧ to ≤ s.size ∧ (acc ++ [p]).length ≤ to + 1 ∧ acc.length ≤ 1000000) := by
        have h1 := hf0.1
        have h2 := hf0.2.1
        have h3 := HLEN.out
        have h4 := ha.out
        have h5 := HS.out
        refine ⟨by omega, by omega, ?_, by omega⟩
        rw [List.length_append]
        show acc.length + 1 ≤ to + 1
        omega
      by_cases hlt : to < s.size
      · have hlt2 : (to : Int) < (s.size : Int) := by omega
        have ti := int_no (show ¬ to = s.size by omega)
        have hga := getD_at' hlt
        by_cases h124 : s[to] = 124
        · have t124 : ((s[to].toNat : Int) == 124) = true := u8y h124
          have n124 : ((s[to].toNat : Int) != 124) = false := by show (!((s[to].toNat : Int) == 124)) = false; rw [t124]; rfl
          have hno : ¬ (to = s.data.toList.length ∨ s.data.toList.getD to 0 ≠ 124) := by
            rintro (q | q)
            · rw [HLEN.out] at q; omega
            · exact q (by rw [hga]; exact h124)
          have HON := Lib.hid (rowsL_on hg0 hno hrow.out)
          have hw : wrap64 ((to : Int) + 1) = ((to + 1 : Nat) : Int) := by have := HS.out; unfold wrap64; omega
          have HT2 := Lib.hid (show at_ ≤ to + 1 ∧ to + 1 ≤ s.size ∧ (acc ++ [p]).length ≤ to + 1 from ⟨Nat.le_succ_of_le (Nat.le_trans ha.out.1 HTO.out.1), hlt, HTO.out.2.2.1⟩)
          clear hno h124 hga hg0 hf0 hrow
          go_wp2_with fail
          refine (HC.out _).mono ?_
          rintro e w4 ⟨l4, r, rfl, hp⟩
          have G4 := Lib.hid (hbox.out.below l4)
          have U4 := Lib.hid (hbuild.out.below l4)
          have L4 := Lib.hid (hbel.out.trans (l4.mono hbel.out.size))
          have A4 := Lib.hid hp
          have Z4 := Lib.hid l4.size
          clear l4 hp
          go_upto_region 6 with (first
            | (refine alloc_got rfl rfl ?_; intro w5 b3 e5 p5 l5 z5)
            | (refine store_got (r := r) (to := ((to : Nat) : Int)) (e := 0) (bad := 0) rfl (.tmp 8) (.tmp 12) rfl rfl rfl p5 ?_; intro w6 p6 l6 z6; have L6 := Lib.hid (two_new l5 l6 e5); have Q6 := Lib.hid p6; have k5 := p6.c5; have k6 := p6.c6; have ZB := Lib.hid (show wr.heap.size ≤ b3 from e5 ▸ Z4.out); clear e5 p5 l5 z5 p6 l6 z6)
            | (refine load_at rfl (.tmp 18) rfl rfl (r := r) (fun j hj => Q6.out.raw j hj) ?_)
            | (refine slice_piece rfl (.tmp 19) rfl (r := r) rfl ?_; intro w7 b7 e7 r7 l7 z7; have L7 := Lib.hid (L6.out.trans (l7.mono L6.out.size)); have U7 := Lib.hid (U4.out.below L7.out); have A7 := Lib.hid (A4.out.by_below L7.out); have Q7 := Lib.hid (Q6.out.below l7); have R7 := Lib.hid r7; clear e7 r7 l7 z7 k5 k6)
            | (refine append_piece rfl (.tmp 17) (.tmp 20) rfl rfl rfl U7.out hbuild.out.own_lt hsz.out (Nat.le_trans hsz.out (Nat.le_trans Z4.out L7.out.size)) R7.out A7.out HTO.out.2.2.2 ?_; intro v' w8 U8 g8; have HU := Lib.hid U8; have G8 := Lib.hid (grown_got U7.out g8 HB.out.2 (G4.out.below L7.out)); have L8 := Lib.hid (grown_under U7.out g8 L1.out.size (L4.out.trans (L7.out.mono L4.out.size))); have Z8 : Hid (w1.heap.size ≤ w8.heap.size) := (by obtain ⟨_, _, _, g, _⟩ := g8; exact Nat.le_trans hsz.out (Nat.le_trans Z4.out (Nat.le_trans L7.out.size g))); have kk := grown_cell U7.out g8 Q7.out hbuild.out ZB.out; clear U8 g8))
          clear R7 Q7 A7 U7 L7 Q6 L6 A4 U4 L4 G4 hbuild hbox hbel hsz Z4 ZB
          cases gk with
          | zero => exact absurd HON.out (by simp [rowsL])
          | succ gk2 =>
            go_wp2_with fail
            go_roundg gk2
            case measure => exact Nat.lt_succ_self _
            case rel => exact ⟨to + 1, acc ++ [p], congrArg (Value.int .i64) hw, HT2, HON, HU, G8, L8, Z8⟩
        · have t124 : ((s[to].toNat : Int) == 124) = false := u8n h124
          have n124 : ((s[to].toNat : Int) != 124) = true := by show (!((s[to].toNat : Int) == 124)) = true; rw [t124]; rfl
          have HX := Lib.hid (rowsL_fin hg0 (.inr (by rw [hga]; exact h124)) hrow.out)
          clear h124 hga hg0 hf0 hrow
          go_wp2_with fail
          refine (HC.out _).mono ?_
          rintro e w4 ⟨l4, r, rfl, hp⟩
          have G4 := Lib.hid (hbox.out.below l4)
          have U4 := Lib.hid (hbuild.out.below l4)
          have L4 := Lib.hid (hbel.out.trans (l4.mono hbel.out.size))
          have A4 := Lib.hid hp
          have Z4 := Lib.hid l4.size
          clear l4 hp
          go_upto_region 6 with (first
            | (refine alloc_got rfl rfl ?_; intro w5 b3 e5 p5 l5 z5)
            | (refine store_got (r := r) (to := ((to : Nat) : Int)) (e := 0) (bad := 0) rfl (.tmp 8) (.tmp 12) rfl rfl rfl p5 ?_; intro w6 p6 l6 z6; have L6 := Lib.hid (two_new l5 l6 e5); have Q6 := Lib.hid p6; have k5 := p6.c5; have k6 := p6.c6; have ZB := Lib.hid (show wr.heap.size ≤ b3 from e5 ▸ Z4.out); clear e5 p5 l5 z5 p6 l6 z6)
            | (refine load_at rfl (.tmp 18) rfl rfl (r := r) (fun j hj => Q6.out.raw j hj) ?_)
            | (refine slice_piece rfl (.tmp 19) rfl (r := r) rfl ?_; intro w7 b7 e7 r7 l7 z7; have L7 := Lib.hid (L6.out.trans (l7.mono L6.out.size)); have U7 := Lib.hid (U4.out.below L7.out); have A7 := Lib.hid (A4.out.by_below L7.out); have Q7 := Lib.hid (Q6.out.below l7); have R7 := Lib.hid r7; clear e7 r7 l7 z7 k5 k6)
            | (refine append_piece rfl (.tmp 17) (.tmp 20) rfl rfl rfl U7.out hbuild.out.own_lt hsz.out (Nat.le_trans hsz.out (Nat.le_trans Z4.out L7.out.size)) R7.out A7.out HTO.out.2.2.2 ?_; intro v' w8 U8 g8; have HU := Lib.hid U8; have G8 := Lib.hid (grown_got U7.out g8 HB.out.2 (G4.out.below L7.out)); have L8 := Lib.hid (grown_under U7.out g8 L1.out.size (L4.out.trans (L7.out.mono L4.out.size))); have Z8 : Hid (w1.heap.size ≤ w8.heap.size) := (by obtain ⟨_, _, _, g, _⟩ := g8; exact Nat.le_trans hsz.out (Nat.le_trans Z4.out (Nat.le_trans L7.out.size g))); have kk := grown_cell U7.out g8 Q7.out hbuild.out ZB.out; clear U8 g8))
          clear R7 Q7 A7 U7 L7 Q6 L6 A4 U4 L4 G4 hbuild hbox hbel hsz Z4 ZB
          match acc, HU, HX with
          | [], HU, HX =>
            obtain ⟨g1, c1, r1, rfl, hc1, hcell, hp⟩ := build_one (show Build 25 w1.heap.size w8 v' [p] from HU.out)
            have hA2 := hc1.out.2
            have hA1 := hc1.out.1
            unfold maxLen at hA2
            go_wp2_with (first
              | (refine load_at rfl (.tmp 40) rfl rfl (r := r1) hcell.out ?_)
              | (refine build_got (r := r1) rfl (.tmp 41) (.tmp 42) rfl rfl rfl ?_)
              | (refine store_got (r := r1) (to := ((to : Nat) : Int)) (e := 0) (bad := 0) rfl (.tmp 6) (.tmp 43) rfl rfl rfl G8.out ?_; intro w9 p9 l9 z9))
            refine end_got rfl rfl p9 rfl ?_
            rw [HX.out]
            exact ⟨old_below L8.out l9 HB.out.1, r1, rfl, (hp.out.by_beside l9 HB.out.2).by_less L1.out.size⟩
          | q :: l, HU, HX =>
            obtain ⟨A1, c1, rfl, hc1, hp⟩ := build_many 8 HU.out (by simp)
            have hA2 := hc1.out.2
            unfold maxLen at hA2
            have HN : Hid ((q :: l ++ [p]).length ≤ 901) := by have := HTO.out; have := HS.out; show _ ≤ _; omega
            have t1 : (((q :: l ++ [p]).length : Int) == 1) = false := by simpa using (by omega : ¬ ((l.length : Int) + 1 + 1 = 1))
            have HT8 := Lib.hid (show together 8 (q :: l ++ [p]) = .mk 8 ⟨#[]⟩ (q :: l ++ [p]) 0 0 by cases l <;> rfl)
            obtain ⟨M, hM⟩ : ∃ M, q :: l ++ [p] = M := ⟨_, rfl⟩
            rw [hM] at t1 hp HN HT8 HX ⊢
            obtain ⟨n, hn⟩ : ∃ n, M.length = n := ⟨_, rfl⟩
            rw [hn] at t1 hp HN ⊢
            clear hn hM HU hc1 HTO
            go_wp2_with (first
              | (refine build_got (r := ⟨8, ⟨#[]⟩, A1, n, c1, 0, 0⟩) rfl (.tmp 45) (.tmp 46) rfl rfl rfl ?_)
              | (refine store_got (r := ⟨8, ⟨#[]⟩, A1, n, c1, 0, 0⟩) (to := ((to : Nat) : Int)) (e := 0) (bad := 0) rfl (.tmp 6) (.tmp 47) rfl rfl rfl G8.out ?_; intro w9 p9 l9 z9))
            refine end_got rfl rfl p9 rfl ?_
            rw [HX.out, HT8.out]
            exact ⟨old_below L8.out l9 HB.out.1, _, rfl, (hp.out.by_beside l9 HB.out.2).by_less L1.out.size⟩
      · have ti := int_yes (show to = s.size by have := HTO.out; omega)
        have HX := Lib.hid (rowsL_fin hg0 (.inl (by have := HTO.out; rw [HLEN.out]; omega)) hrow.out)
        clear hg0 hf0 hrow hlt
        go_wp2_with fail
        refine (HC.out _).mono ?_
        rintro e w4 ⟨l4, r, rfl, hp⟩
        have G4 := Lib.hid (hbox.out.below l4)
        have U4 := Lib.hid (hbuild.out.below l4)
        have L4 := Lib.hid (hbel.out.trans (l4.mono hbel.out.size))
        have A4 := Lib.hid hp
        have Z4 := Lib.hid l4.size
        clear l4 hp
        go_upto_region 6 with (first
          | (refine alloc_got rfl rfl ?_; intro w5 b3 e5 p5 l5 z5)
          | (refine store_got (r := r) (to := ((to : Nat) : Int)) (e := 0) (bad := 0) rfl (.tmp 8) (.tmp 12) rfl rfl rfl p5 ?_; intro w6 p6 l6 z6; have L6 := Lib.hid (two_new l5 l6 e5); have Q6 := Lib.hid p6; have k5 := p6.c5; have k6 := p6.c6; have ZB := Lib.hid (show wr.heap.size ≤ b3 from e5 ▸ Z4.out); clear e5 p5 l5 z5 p6 l6 z6)
          | (refine load_at rfl (.tmp 18) rfl rfl (r := r) (fun j hj => Q6.out.raw j hj) ?_)
          | (refine slice_piece rfl (.tmp 19) rfl (r := r) rfl ?_; intro w7 b7 e7 r7 l7 z7; have L7 := Lib.hid (L6.out.trans (l7.mono L6.out.size)); have U7 := Lib.hid (U4.out.below L7.out); have A7 := Lib.hid (A4.out.by_below L7.out); have Q7 := Lib.hid (Q6.out.below l7); have R7 := Lib.hid r7; clear e7 r7 l7 z7 k5 k6)
          | (refine append_piece rfl (.tmp 17) (.tmp 20) rfl rfl rfl U7.out hbuild.out.own_lt hsz.out (Nat.le_trans hsz.out (Nat.le_trans Z4.out L7.out.size)) R7.out A7.out HTO.out.2.2.2 ?_; intro v' w8 U8 g8; have HU := Lib.hid U8; have G8 := Lib.hid (grown_got U7.out g8 HB.out.2 (G4.out.below L7.out)); have L8 := Lib.hid (grown_under U7.out g8 L1.out.size (L4.out.trans (L7.out.mono L4.out.size))); have Z8 : Hid (w1.heap.size ≤ w8.heap.size) := (by obtain ⟨_, _, _, g, _⟩ := g8; exact Nat.le_trans hsz.out (Nat.le_trans Z4.out (Nat.le_trans L7.out.size g))); have kk := grown_cell U7.out g8 Q7.out hbuild.out ZB.out; clear U8 g8))
        clear R7 Q7 A7 U7 L7 Q6 L6 A4 U4 L4 G4 hbuild hbox hbel hsz Z4 ZB
        match acc, HU, HX with
        | [], HU, HX =>
          obtain ⟨g1, c1, r1, rfl, hc1, hcell, hp⟩ := build_one (show Build 25 w1.heap.size w8 v' [p] from HU.out)
          have hA2 := hc1.out.2
          have hA1 := hc1.out.1
          unfold maxLen at hA2
          go_wp2_with (first
            | (refine load_at rfl (.tmp 40) rfl rfl (r := r1) hcell.out ?_)
            | (refine build_got (r := r1) rfl (.tmp 41) (.tmp 42) rfl rfl rfl ?_)
            | (refine store_got (r := r1) (to := ((to : Nat) : Int)) (e := 0) (bad := 0) rfl (.tmp 6) (.tmp 43) rfl rfl rfl G8.out ?_; intro w9 p9 l9 z9))
          refine end_got rfl rfl p9 rfl ?_
          rw [HX.out]
          exact ⟨old_below L8.out l9 HB.out.1, r1, rfl, (hp.out.by_beside l9 HB.out.2).by_less L1.out.size⟩
        | q :: l, HU, HX =>
          obtain ⟨A1, c1, rfl, hc1, hp⟩ := build_many 8 HU.out (by simp)
          have hA2 := hc1.out.2
          unfold maxLen at hA2
          have HN : Hid ((q :: l ++ [p]).length ≤ 901) := by have := HTO.out; have := HS.out; show _ ≤ _; omega
          have t1 : (((q :: l ++ [p]).length : Int) == 1) = false := by simpa using (by omega : ¬ ((l.length : Int) + 1 + 1 = 1))
          have HT8 := Lib.hid (show together 8 (q :: l ++ [p]) = .mk 8 ⟨#[]⟩ (q :: l ++ [p]) 0 0 by cases l <;> rfl)
          obtain ⟨M, hM⟩ : ∃ M, q :: l ++ [p] = M := ⟨_, rfl⟩
          rw [hM] at t1 hp HN HT8 HX ⊢
          obtain ⟨n, hn⟩ : ∃ n, M.length = n := ⟨_, rfl⟩
          rw [hn] at t1 hp HN ⊢
          clear hn hM HU hc1 HTO
          go_wp2_with (first
            | (refine build_got (r := ⟨8, ⟨#[]⟩, A1, n, c1, 0, 0⟩) rfl (.tmp 45) (.tmp 46) rfl rfl rfl ?_)
            | (refine store_got (r := ⟨8, ⟨#[]⟩, A1, n, c1, 0, 0⟩) (to := ((to : Nat) : Int)) (e := 0) (bad := 0) rfl (.tmp 6) (.tmp 47) rfl rfl rfl G8.out ?_; intro w9 p9 l9 z9))
          refine end_got rfl rfl p9 rfl ?_
          rw [HX.out, HT8.out]
          exact ⟨old_below L8.out l9 HB.out.1, _, rfl, (hp.out.by_beside l9 HB.out.2).by_less L1.out.size⟩
end
end Go.Proofs.YtenlogfiabhfmaaGreatDoor.W14
/-
  Layer 14 (pattern): the document's atoms and rows, whole. The conditions stand in the statements.
-/
namespace Go.Proofs.YtenlogfiabhfmaaGreatDoor.W14
open Go Go.RowKit Go.Proofs.YtenlogfiabhfmaaGreatDoor.M14

section
variable {s : ByteArray} {at_ deep : Nat}
/-- layer 13's answer for every text of the document's -/
def P13Ok (s : ByteArray) : Prop := ∀ (a : Nat) (w : World), a < s.size → Calls Tryz.prog 40 #[.string (s.extract a s.size)] w (W13.Parsed w (M13.parse (s.data.toList.drop a)))
theorem ratom_any {R : Nat → Nat → Option Got} (hR : RPatOk s R (at_ + 1)) (hP : P13Ok s) (hat : at_ < s.size) (hs : s.size ≤ 900) (hd : deep ≤ 64) : RAtomOk R s at_ deep := by
  have hlen : s.data.toList.length = s.size := (Lib.size_eq s).symm
  have hc : s.data.toList.getD at_ 0 = s[at_] := Kit.byte_get s at_ hat
  have hg : deep ≠ 64 → at_ + 1 ≤ s.data.toList.length → ∃ g, R (at_ + 1) (deep + 1) = some g ∧ Fine s.data.toList (at_ + 1) g := fun h q => by
    obtain ⟨g, e, hf, -⟩ := hR (at_ + 1) (deep + 1) (Nat.le_refl _) (by omega) (by omega)
    exact ⟨g, e, hf⟩
  obtain ⟨g, e, hf⟩ := atom_fine (R := R) (deep := deep) (S := s.data.toList) (at_ := at_) (by omega) hg
  refine ⟨g, e, hf, fun w => ?_⟩
  by_cases h40 : s[at_] = 40
  · rw [atom_is40 (by rw [hc]; exact h40) (fun q => by obtain ⟨g, e, -⟩ := hg q (by omega); exact ⟨g, e⟩)] at e
    injection e with e
    subst e
    unfold bracketsR
    by_cases h64 : deep = 64
    · rw [if_pos h64]; exact refAtom_deep hat hs h40 h64
    · rw [if_neg h64]
      obtain ⟨g, e, hf2, hC⟩ := hR (at_ + 1) (deep + 1) (Nat.le_refl _) (by omega) (by omega)
      rw [e]
      match g, hf2, hC with
      | .bad q er, hf2, hC => exact refAtom_inBad hat hs h40 (by omega) hC
      | .ok p to, hf2, hC =>
        simp only
        have h2 := hf2.2.1
        by_cases ht : to = s.data.toList.length
        · rw [if_pos ht, hlen]; exact refAtom_inEnd hat hs h40 (by omega) (by omega) hC
        · rw [if_neg ht]; exact refAtom_inOk hat hs h40 (by omega) (by omega) hC
  · by_cases h91 : s[at_] = 91
    · rw [atom_is91 (by rw [hc]; exact h91)] at e
      injection e with e
      subst e
      obtain ⟨⟨F, n, er⟩, hp⟩ : ∃ r, M13.parse (s.data.toList.drop at_) = r := ⟨_, rfl⟩
      have hP2 := fun w => hP at_ w hat
      rw [hp]
      simp only
      by_cases he : er = 0
      · rw [if_neg (by simpa using he)]; exact refAtom_setOk hat hs h91 hp hP2 he
      · rw [if_pos he]; exact refAtom_setBad hat hs h91 hp hP2 he
    · by_cases h92 : s[at_] = 92
      · rw [atom_is92 (by rw [hc]; exact h92)] at e
        injection e with e
        subst e
        unfold escapedR
        by_cases hl : at_ + 1 = s.size
        · rw [if_pos (by omega)]; exact refAtom_slash hat hs h92 hl
        · have hl2 : at_ + 1 < s.size := by omega
          rw [if_neg (by omega), getD_at' hl2]
          cases hlet : M13.letter s[at_ + 1] with
          | true => rw [if_pos rfl]; exact refAtom_letter hat hs h92 hl2 hlet
          | false => rw [if_neg (by simp)]; exact refAtom_escaped hat hs h92 hl2 hlet
      · unfold atom at e
        rw [hc, if_neg h40, if_neg h91] at e
        by_cases h46 : s[at_] = 46
        · rw [if_pos h46] at e
          injection e with e
          subst e
          exact refAtom_point hat hs h46
        · rw [if_neg h46] at e
          by_cases h94 : s[at_] = 94
          · rw [if_pos h94] at e
            injection e with e
            subst e
            exact refAtom_begin hat hs h94
          · rw [if_neg h94] at e
            by_cases h36 : s[at_] = 36
            · rw [if_pos h36] at e
              injection e with e
              subst e
              exact refAtom_stop hat hs h36
            · rw [if_neg h36] at e
              by_cases hq : s[at_] = 42 ∨ s[at_] = 43 ∨ s[at_] = 63 ∨ s[at_] = 123
              · rw [if_pos hq] at e
                injection e with e
                subst e
                rcases hq with q | q | q | q
                · exact refAtom_no42 hat hs q
                · exact refAtom_no43 hat hs q
                · exact refAtom_no63 hat hs q
                · exact refAtom_no123 hat hs q
              · rw [if_neg hq, if_pos h92] at e
                injection e with e
                subst e
                exact refAtom_char hat hs h40 h91 h46 h94 h36 (fun q => hq (.inl q)) (fun q => hq (.inr (.inl q))) (fun q => hq (.inr (.inr (.inl q)))) (fun q => hq (.inr (.inr (.inr q)))) h92
theorem RPatOk.more {R : Nat → Nat → Option Got} {lo lo' : Nat} (h : RPatOk s R lo) (k : lo ≤ lo') : RPatOk s R lo' := fun a d h1 h2 h3 => h a d (Nat.le_trans k h1) h2 h3
theorem rpatOk (hs : s.size ≤ 900) (hP : P13Ok s) : ∀ (n lo : Nat), s.data.toList.length < lo + n → RPatOk s (rows s.data.toList n) lo
  | 0, lo, h => fun a d h1 h2 _ => by rw [← Lib.size_eq] at h; omega
  | n + 1, lo, h => fun a d h1 h2 h3 => by
    have hl : s.data.toList.length = s.size := (Lib.size_eq s).symm
    obtain ⟨g, e, hf⟩ := rows_fine (S := s.data.toList) (by omega) (n + 1) a d (by omega) (by omega)
    have ih : RPatOk s (rows s.data.toList n) (a + 1) := rpatOk hs hP n (a + 1) (by omega)
    refine ⟨g, e, hf, fun w => ?_⟩
    exact refRows_any (R := rows s.data.toList n) (fun b hb1 hb2 => ratom_any (ih.more (by omega)) hP hb2 hs h3) (fun hd to h4 h5 => by
      obtain ⟨g, e, hf, -⟩ := ih to (d + 1) (by omega) h5 (by omega)
      exact ⟨g, e, hf⟩) h2 hs (by unfold rows at e; exact e)
end
end Go.Proofs.YtenlogfiabhfmaaGreatDoor.W14
/-
  Layer 14 (pattern): the contract of the program's Parse. The conditions stand in the statements.
-/
namespace Go.Proofs.YtenlogfiabhfmaaGreatDoor.W14
set_option maxRecDepth 100000
open Go Go.RowKit Go.Proofs.YtenlogfiabhfmaaGreatDoor.Recs Go.Proofs.YtenlogfiabhfmaaGreatDoor.M14
open Go.Proofs.YtenlogfiabhfmaaGreatDoor.Row256 (Beside)
open Go.Proofs.YtenlogfiabhfmaaGreatDoor.Kit (ret_str ret_bool ret_int mk_of mk_bytes ba_ext below_draws on list_full list_ne list_none list_nil)

theorem reader_info : (Tryz.prog.info? 36).map (fun i => (i.zero, i.size, i.bytes)) = some (some (.agg #[.string ⟨#[]⟩, .int .i64 0, .int .i64 0]), 3, 32) := by kernel_rfl
theorem reader_size (s : ByteArray) (a d : Nat) : (Tryz.prog.info? 36).map (·.size) = some (#[Value.string s, .int .i64 a, .int .i64 d] : Array Value).size := by
  obtain ⟨i, hi, -, h2, -⟩ := info_parts reader_info
  rw [hi]; simp [h2]
theorem zero_reader (w : World) : (zeroValue 36).run Tryz.prog w = .ok (.agg #[.string ⟨#[]⟩, .int .i64 0, .int .i64 0]) w := by
  obtain ⟨i, hi, h1, -, -⟩ := info_parts reader_info
  simp [zeroValue, typeInfo, hi, h1]
section
variable {ops : Array Oper} {rest : List Oper} {o : Oper} {a : Act} {w : World} {Q : Exit → Act → World → Prop}
theorem alloc_reader (hgd : o.guard = none) (ho : o.op = .alloc 36)
    (h : ∀ w' b, w.heap.size = b → Reader w' b ⟨#[]⟩ 0 0 → Below w.heap.size w w' → w'.heap.size = w.heap.size + 1 → wpList Tryz.prog ops Q rest (a.put o.dst (.pointer (some ⟨b, 0, none⟩))) w') : wpList Tryz.prog ops Q (o :: rest) a w :=
  wpList_plain hgd fun _ hK => by
    unfold Oper.wp execOp
    simp only [ho, Instr.alloc, newVar, newRow, zero_reader, Sem.run_bind, Sem.run_pure, Result.andThen_ok]
    exact hK _ _ (h _ _ rfl (heap_alloc_new w _) (below_new w _) (World.size_alloc w _))
theorem store_reader (hgd : o.guard = none) (x y : Operand) (ho : o.op = .store 36 x y) {b : Nat} {s s' : ByteArray} {n m n' m' : Nat} (hx : a.eval x = .pointer (some ⟨b, 0, none⟩)) (hy : a.eval y = .agg #[.string s, .int .i64 n, .int .i64 m]) (hr : Reader w b s' n' m')
    (h : ∀ w', Reader w' b s n m → Beside b w w' → w'.heap.size = w.heap.size → wpList Tryz.prog ops Q rest (a.put o.dst undef) w') : wpList Tryz.prog ops Q (o :: rest) a w :=
  wpList_store_row hgd 36 x y ho b _ hx hy 36 _ hr (reader_size s n m) rfl (by simp [Value.oneCell'])
    (h _ (setRow_heap w b _ _ _ _ hr) ⟨rfl, rfl, rfl, by rw [setRow_size]; exact Nat.le_refl _, fun k _ e => setRow_other w b k _ e⟩ (setRow_size _ _ _))
end
theorem put_same {w : World} {b : Nat} (h : PBox w b zeroR) (j : Nat) (v : Value) (hv : (rawA zeroR).setIfInBounds j v = rawA zeroR) : PBox (w.setCell ⟨b, j, none⟩ v) b zeroR := by
  unfold PBox at *
  rw [heap_setCell_same w b j _ _ v h, hv]
theorem drew_box {w : World} {b : Nat} {r : Raw} (h : PBox w b r) : PBox w.drew b r := h
theorem put_five {w : World} {b : Nat} (h : PBox w b zeroR) : PBox (((((w.setCell ⟨b, 0, none⟩ (.int .i64 0)).setCell ⟨b, 1, none⟩ (.string ⟨#[]⟩)).setCell ⟨b, 2, none⟩ (.slice none 0 0)).setCell ⟨b, 3, none⟩ (.int .i64 0)).setCell ⟨b, 4, none⟩ (.int .i64 0)).drew b zeroR := by
  have h0 := put_same h 0 (.int .i64 0) (by simp [rawA, zeroR])
  have h1 := put_same h0 1 (.string ⟨#[]⟩) (by simp [rawA, zeroR])
  have h2 := put_same h1 2 (.slice none 0 0) (by simp [rawA, zeroR])
  have h3 := put_same h2 3 (.int .i64 0) (by simp [rawA, zeroR])
  have h4 := put_same h3 4 (.int .i64 0) (by simp [rawA, zeroR])
  exact drew_box h4
theorem beside_five (w : World) (b : Nat) (v0 v1 v2 v3 v4 : Value) : Beside b w (((((w.setCell ⟨b, 0, none⟩ v0).setCell ⟨b, 1, none⟩ v1).setCell ⟨b, 2, none⟩ v2).setCell ⟨b, 3, none⟩ v3).setCell ⟨b, 4, none⟩ v4).drew :=
  beside_onto ((((((Beside.refl b w).put 0 v0).put 1 v1).put 2 v2).put 3 v3).put 4 v4) (below_draws _ 1)
/-- what Parse answers -/
def ParsesTo (w : World) (g : Got) (e : Ending) (w' : World) : Prop :=
  Below w.heap.size w w' ∧ match g with
  | .ok p _ => ∃ r, e = .returned (.tuple #[.agg (rawA r), .int .i64 0, .int .i64 0]) ∧ PAt (In w.heap.size w'.heap.size) w' r p
  | .bad b er => er ≠ 0 ∧ e = .returned (.tuple #[.agg (rawA zeroR), .int .i64 b, .int .i64 er])
section
variable {w : World} {s : ByteArray}
set_option maxHeartbeats 1000000 in
theorem parse_ok {p : Piece} {to : Nat} (hC : ∀ w b, Reader w b s 0 0 → Calls Tryz.prog 11 #[.pointer (some ⟨b, 0, none⟩)] w (Reads b s 0 w (.ok p to))) :
    Calls Tryz.prog 5 #[.string s] w (ParsesTo w (.ok p to)) := by
  have HC := Lib.hid hC
  clear hC
  go_enter Tryz.func5, Tryz.ntmps5
  go_wp2_with (first
    | (refine alloc_piece rfl rfl ?_; intro w1 b1 e1 p1 l1 z1)
    | (refine alloc_reader rfl rfl ?_; intro w2 b2 e2 p2 l2 z2; have P2 := p1.below l2)
    | (refine store_reader (s := s) (n := 0) (m := 0) rfl (.tmp 5) (.tmp 9) rfl rfl rfl p2 ?_; intro w3 p3 l3 z3; have P3 := P2.beside l3 (by omega)))
  have R3 := Lib.hid p3
  have P3' := Lib.hid P3
  have h23 : b1 ≠ b2 := by omega
  have L3 : Hid (Below w.heap.size w w3) := (l1.trans (l2.mono l1.size)).trans (l3.below (Nat.le_trans l1.size l2.size) (by omega))
  have hb1 : w.heap.size ≤ b1 := by omega
  have hb2 : w.heap.size ≤ b2 := by omega
  have hb3 : b1 < w3.heap.size := by omega
  have hs3 : Hid (w.heap.size ≤ w3.heap.size) := L3.out.size
  clear e1 p1 l1 z1 e2 p2 l2 z2 P2 p3 l3 z3 P3
  refine (HC.out _ _ R3.out).mono ?_
  rintro e w4 ⟨b4, r, rfl, hr, hp⟩
  have L4 : Hid (Below w.heap.size w w4) := L3.out.trans (b4.below hs3.out hb2)
  have P4 := Lib.hid (P3'.out.beside b4 h23)
  have A4 := Lib.hid hp
  clear b4 hr hp
  go_wp2_with (first
    | (refine alloc_piece rfl rfl ?_; intro w5 b3 e5 p5 l5 z5)
    | (refine store_piece (r := r) rfl (.tmp 6) (.tmp 12) rfl rfl rfl p5 ?_; intro w6 p6 l6 z6; have L6 := two_new l5 l6 e5; have P6 := P4.out.below L6; have A6 := A4.out.by_below L6)
    | (refine load_piece rfl (.tmp 6) rfl rfl p6 ?_)
    | (refine store_piece (r := r) rfl (.tmp 2) (.tmp 20) rfl rfl rfl P6 ?_; intro w7 p7 l7 z7))
  refine end_piece3 rfl rfl p7 rfl ?_
  exact ⟨(L4.out.trans (L6.mono L4.out.size)).trans (l7.below (Nat.le_trans L4.out.size L6.size) hb1), r, rfl, (A6.by_beside l7 hb3).by_less hs3.out⟩
set_option maxHeartbeats 1000000 in
theorem parse_bad {q : Nat} {er : Int} (hC : ∀ w b, Reader w b s 0 0 → Calls Tryz.prog 11 #[.pointer (some ⟨b, 0, none⟩)] w (Reads b s 0 w (.bad q er))) :
    Calls Tryz.prog 5 #[.string s] w (ParsesTo w (.bad q er)) := by
  have HC := Lib.hid hC
  clear hC
  go_enter Tryz.func5, Tryz.ntmps5
  go_wp2_with (first
    | (refine alloc_piece rfl rfl ?_; intro w1 b1 e1 p1 l1 z1)
    | (refine alloc_reader rfl rfl ?_; intro w2 b2 e2 p2 l2 z2; have P2 := p1.below l2)
    | (refine store_reader (s := s) (n := 0) (m := 0) rfl (.tmp 5) (.tmp 9) rfl rfl rfl p2 ?_; intro w3 p3 l3 z3; have P3 := P2.beside l3 (by omega)))
  have R3 := Lib.hid p3
  have P3' := Lib.hid P3
  have h23 : b1 ≠ b2 := by omega
  have L3 : Hid (Below w.heap.size w w3) := (l1.trans (l2.mono l1.size)).trans (l3.below (Nat.le_trans l1.size l2.size) (by omega))
  have hb1 : w.heap.size ≤ b1 := by omega
  have hb2 : w.heap.size ≤ b2 := by omega
  have hs3 : Hid (w.heap.size ≤ w3.heap.size) := L3.out.size
  clear e1 p1 l1 z1 e2 p2 l2 z2 P2 p3 l3 z3 P3
  refine (HC.out _ _ R3.out).mono ?_
  rintro e w4 ⟨b4, he, rfl, d, hr⟩
  have L4 : Hid (Below w.heap.size w w4) := L3.out.trans (b4.below hs3.out hb2)
  have P4 := Lib.hid (P3'.out.beside b4 h23)
  have R4 := Lib.hid hr
  have te : (er != 0) = true := by simpa using he
  have HE := Lib.hid he
  clear b4 hr he
  go_wp2_with (first
    | (refine alloc_piece rfl rfl ?_; intro w5 b3 e5 p5 l5 z5)
    | (refine store_piece (r := zeroR) rfl (.tmp 6) (.tmp 12) rfl rfl rfl p5 ?_; intro w6 p6 l6 z6; have L6 := two_new l5 l6 e5; have P6 := Lib.hid (P4.out.below L6); have R6 := Lib.hid (R4.out.below L6); have L6' := Lib.hid L6; have k1 := R6.out.c1; clear e5 p5 l5 z5 p6 l6 z6 L6))
  have k2 : b2 < w6.heap.size := R6.out.lt
  have fr : ∀ j, w6.frozen? ⟨b1, j, none⟩ = false := fun j => frozen_of_row w6 b1 j _ _ P6.out
  have d0 : w6.cell? ⟨b1, 0, none⟩ = some (.int .i64 0) := cell_of_row w6 b1 0 _ _ _ P6.out
  have d1 : w6.cell? ⟨b1, 1, none⟩ = some (.string ⟨#[]⟩) := cell_of_row w6 b1 1 _ _ _ P6.out
  have d2 : w6.cell? ⟨b1, 2, none⟩ = some (.slice none 0 0) := cell_of_row w6 b1 2 _ _ _ P6.out
  have d3 : w6.cell? ⟨b1, 3, none⟩ = some (.int .i64 0) := cell_of_row w6 b1 3 _ _ _ P6.out
  have d4 : w6.cell? ⟨b1, 4, none⟩ = some (.int .i64 0) := cell_of_row w6 b1 4 _ _ _ P6.out
  have f0 := fr 0
  have f1 := fr 1
  have f2 := fr 2
  have f3 := fr 3
  have f4 := fr 4
  have hne : ¬ b2 = b1 := h23.symm
  have hne2 : ¬ b1 = b2 := h23
  clear fr hs3 k2
  go_region
  all_goals (try go_wp2)
  refine end_piece3 rfl rfl (put_five P6.out) rfl ?_
  have L7 := (L4.out.trans (L6'.out.mono L4.out.size))
  exact ⟨L7.trans ((beside_five w6 b1 _ _ _ _ _).below L7.size hb1), HE.out, rfl⟩
theorem parse_any (hs : s.size ≤ 900) : ∃ g, rows s.data.toList (s.data.toList.length + 1) 0 0 = some g ∧ Fine s.data.toList 0 g ∧ ∀ w, Calls Tryz.prog 5 #[.string s] w (ParsesTo w (fix s.data.toList 0 g)) := by
  obtain ⟨g, e, hf, hc⟩ := patOk hs (s.data.toList.length + 1) 0 (by omega) 0 0 (Nat.le_refl _) (Nat.zero_le _) (by omega)
  refine ⟨g, e, hf, fun w => ?_⟩
  match fix s.data.toList 0 g, hc with
  | .ok p to, hc => exact parse_ok hc
  | .bad q er, hc => exact parse_bad hc
end
end Go.Proofs.YtenlogfiabhfmaaGreatDoor.W14
/-
  Layer 14 (pattern), plain mathematics: where rows end, what the pattern of lives is, sizes of parts of lists. No condition but those that each theorem bears.
-/
namespace Go.Proofs.YtenlogfiabhfmaaGreatDoor.M14
open Go Go.Proofs.YtenlogfiabhfmaaGreatDoor.M13

theorem row_stops {R : Nat → Nat → Option Got} {S : List UInt8} {deep : Nat} : ∀ (k at_ : Nat) (acc : List Piece) (p : Piece) (to : Nat), row R S deep k at_ acc = some (.ok p to) → stop S to
  | 0, _, _, _, _ => by intro h; simp [row] at h
  | k + 1, at_, acc, p, to => by
    intro h
    unfold row at h
    by_cases c : stop S at_
    · rw [if_pos c] at h
      injection h with h
      injection h with h1 h2
      subst h2; exact c
    · rw [if_neg c] at h
      cases hp : part R S at_ deep with
      | none => rw [hp] at h; simp at h
      | some g =>
        rw [hp] at h
        match g, h with
        | .bad b e, h => simp at h
        | .ok q t2, h => exact row_stops k _ _ _ _ h
theorem rowsL_stops {R : Nat → Nat → Option Got} {S : List UInt8} {deep : Nat} : ∀ (k at_ : Nat) (acc : List Piece) (p : Piece) (to : Nat), rowsL R S deep k at_ acc = some (.ok p to) → S.length ≤ to ∨ S.getD to 0 = 41
  | 0, _, _, _, _ => by intro h; simp [rowsL] at h
  | k + 1, at_, acc, p, to => by
    intro h
    unfold rowsL at h
    cases hp : row R S deep (S.length + 1) at_ [] with
    | none => rw [hp] at h; simp at h
    | some g =>
      rw [hp] at h
      match g, hp, h with
      | .bad b e, hp, h => simp at h
      | .ok q t2, hp, h =>
        simp only at h
        by_cases c : t2 = S.length ∨ S.getD t2 0 ≠ 124
        · rw [if_pos c] at h
          injection h with h
          injection h with h1 h2
          subst h2
          rcases row_stops _ _ _ _ _ hp with s1 | s1 | s1
          · exact .inl s1
          · rcases c with c | c
            · exact .inl (by omega)
            · exact absurd s1 c
          · exact .inr s1
        · rw [if_neg c] at h
          exact rowsL_stops k _ _ _ _ h
theorem rows_stops {S : List UInt8} {n at_ deep : Nat} {p : Piece} {to : Nat} (h : rows S n at_ deep = some (.ok p to)) : S.length ≤ to ∨ S.getD to 0 = 41 := by
  cases n with
  | zero => simp [rows] at h
  | succ n => unfold rows at h; exact rowsL_stops _ _ _ _ _ h

/-- the piece of lives -/
def livesP : Piece := .mk 8 ⟨#[]⟩ [leaf 2 (chr 97), .mk 9 ⟨#[]⟩ [leaf 2 (chr 98)] 0 (-1)] 0 0
set_option maxRecDepth 100000 in
theorem lives_rows : rows [97, 124, 98, 42] 5 0 0 = some (.ok livesP 4) := by rfl
theorem lives_size : size livesP = 6 := by
  simp [livesP, leaf, size, sizes]
theorem lives_whole : Whole livesP := by
  refine .many 8 (by omega) _ (by simp) (by simp) fun p hp => ?_
  simp only [List.mem_cons, List.not_mem_nil, or_false] at hp
  rcases hp with rfl | rfl
  · exact .char 97
  · exact .rep _ _ _ (by omega) (by omega) (.char 98)

theorem sizes_take {l : List Piece} {i : Nat} (h : i < l.length) : sizes (l.take (i + 1)) = sizes (l.take i) + size l[i] := by
  rw [List.take_succ_eq_append_getElem h, sizes_append]
  simp [sizes]
theorem sizes_take_le (l : List Piece) (i : Nat) : sizes (l.take i) ≤ sizes l := by
  conv => rhs; rw [← List.take_append_drop i l, sizes_append]
  exact Nat.le_add_right _ _
end Go.Proofs.YtenlogfiabhfmaaGreatDoor.M14
/-
  Layer 14 (pattern), walk of the document's Parse. The conditions stand in the statements.
-/
namespace Go.Proofs.YtenlogfiabhfmaaGreatDoor.W14
set_option maxRecDepth 100000
open Go Go.RowKit Go.Proofs.YtenlogfiabhfmaaGreatDoor.Strs Go.Proofs.YtenlogfiabhfmaaGreatDoor.Recs Go.Proofs.YtenlogfiabhfmaaGreatDoor.M14
open Go.Proofs.YtenlogfiabhfmaaGreatDoor.Row256 (Beside)
open Go.Proofs.YtenlogfiabhfmaaGreatDoor.Kit (below_draws on)

section
variable {w : World} {s : ByteArray}
set_option maxHeartbeats 1000000 in
theorem rparse_ok {p : Piece} {to : Nat} (hto : to = s.size) (hC : ∀ w, Calls Tryz.prog 12 #[.string s, .int .i64 0, .int .i64 0] w (Gots w (.ok p to))) :
    Calls Tryz.prog 6 #[.string s] w (ParsesTo w (.ok p to)) := by
  have HC := Lib.hid hC
  have ti : ¬ (to : Int) < (s.size : Int) := by omega
  clear hC hto
  go_enter Tryz.func6, Tryz.ntmps6
  go_wp2_with (first
    | (refine alloc_piece rfl rfl ?_; intro w1 b1 e1 p1 l1 z1))
  have P1 := Lib.hid p1
  have L1 := Lib.hid l1
  have HB := Lib.hid (show w.heap.size ≤ b1 ∧ b1 < w1.heap.size from ⟨by omega, by omega⟩)
  clear e1 p1 l1 z1
  refine (HC.out _).mono ?_
  rintro e w2 ⟨l2, r, rfl, hp⟩
  have P2 := Lib.hid (P1.out.below l2)
  have L2 := Lib.hid (L1.out.trans (l2.mono L1.out.size))
  have HB2 := Lib.hid (show b1 < w2.heap.size from Nat.lt_of_lt_of_le HB.out.2 l2.size)
  have A2 := Lib.hid hp
  clear l2 hp
  go_wp2_with (first
    | (refine alloc_got rfl rfl ?_; intro w3 b3 e3 p3 l3 z3)
    | (refine store_got (r := r) (to := ((to : Nat) : Int)) (e := 0) (bad := 0) rfl (.tmp 5) (.tmp 7) rfl rfl rfl p3 ?_; intro w4 p4 l4 z4; have L24 := Lib.hid (two_new l3 l4 e3); have P4 := Lib.hid (P2.out.below L24.out); have Q4 := Lib.hid p4; have L4 := Lib.hid (L2.out.trans (L24.out.mono L2.out.size)); have A4 := Lib.hid (A2.out.by_below L24.out); have q5 := p4.c5; have q6 := p4.c6; clear e3 p3 l3 z3 p4 l4 z4)
    | (refine load_at rfl (.tmp 29) rfl rfl (r := r) (fun j hj => Q4.out.raw j hj) ?_)
    | (refine store_piece (r := r) rfl (.tmp 2) (.tmp 30) rfl rfl rfl P4.out ?_; intro w9 p9 l9 z9))
  refine end_piece3 rfl rfl p9 rfl ?_
  exact ⟨old_below L4.out l9 HB.out.1, r, rfl, (A4.out.by_beside l9 HB.out.2).by_less L1.out.size⟩
set_option maxHeartbeats 2000000 in
theorem rparse_more {p : Piece} {to : Nat} (hto : to < s.size) (hC : ∀ w, Calls Tryz.prog 12 #[.string s, .int .i64 0, .int .i64 0] w (Gots w (.ok p to))) :
    Calls Tryz.prog 6 #[.string s] w (ParsesTo w (.bad to 3)) := by
  have HC := Lib.hid hC
  have ti : (to : Int) < (s.size : Int) := by omega
  clear hC hto
  go_enter Tryz.func6, Tryz.ntmps6
  go_wp2_with (first
    | (refine alloc_piece rfl rfl ?_; intro w1 b1 e1 p1 l1 z1))
  have P1 := Lib.hid p1
  have L1 := Lib.hid l1
  have HB := Lib.hid (show w.heap.size ≤ b1 ∧ b1 < w1.heap.size from ⟨by omega, by omega⟩)
  clear e1 p1 l1 z1
  refine (HC.out _).mono ?_
  rintro e w2 ⟨l2, r, rfl, hp⟩
  have P2 := Lib.hid (P1.out.below l2)
  have L2 := Lib.hid (L1.out.trans (l2.mono L1.out.size))
  have HB2 := Lib.hid (show b1 < w2.heap.size from Nat.lt_of_lt_of_le HB.out.2 l2.size)
  clear l2 hp
  go_wp2_with (first
    | (refine alloc_got rfl rfl ?_; intro w3 b3 e3 p3 l3 z3)
    | (refine store_got (r := r) (to := ((to : Nat) : Int)) (e := 0) (bad := 0) rfl (.tmp 5) (.tmp 7) rfl rfl rfl p3 ?_; intro w4 p4 l4 z4; have L24 := Lib.hid (two_new l3 l4 e3); have P4 := Lib.hid (P2.out.below L24.out); have HN3 := Lib.hid (show b1 ≠ b3 by have := HB2.out; omega); have L4 := Lib.hid (L2.out.trans (L24.out.mono L2.out.size)); have q5 := p4.c5; have q6 := p4.c6; have q7 := p4.c7; clear e3 p3 l3 z3 p4 l4 z4))
  have fr : ∀ j, w4.frozen? ⟨b1, j, none⟩ = false := fun j => frozen_of_row w4 b1 j _ _ P4.out
  have d0 : w4.cell? ⟨b1, 0, none⟩ = some (.int .i64 0) := cell_of_row w4 b1 0 _ _ _ P4.out
  have d1 : w4.cell? ⟨b1, 1, none⟩ = some (.string ⟨#[]⟩) := cell_of_row w4 b1 1 _ _ _ P4.out
  have d2 : w4.cell? ⟨b1, 2, none⟩ = some (.slice none 0 0) := cell_of_row w4 b1 2 _ _ _ P4.out
  have d3 : w4.cell? ⟨b1, 3, none⟩ = some (.int .i64 0) := cell_of_row w4 b1 3 _ _ _ P4.out
  have d4 : w4.cell? ⟨b1, 4, none⟩ = some (.int .i64 0) := cell_of_row w4 b1 4 _ _ _ P4.out
  have f0 := fr 0
  have f1 := fr 1
  have f2 := fr 2
  have f3 := fr 3
  have f4 := fr 4
  have hne : ¬ b3 = b1 := HN3.out.symm
  have hne2 : ¬ b1 = b3 := HN3.out
  clear fr
  go_region
  all_goals (try go_wp2)
  refine end_piece3 rfl rfl (put_five P4.out) rfl ?_
  exact ⟨L4.out.trans ((beside_five w4 b1 _ _ _ _ _).below L4.out.size HB.out.1), by decide, rfl⟩
set_option maxHeartbeats 2000000 in
theorem rparse_bad {q : Nat} {er : Int} (hC : ∀ w, Calls Tryz.prog 12 #[.string s, .int .i64 0, .int .i64 0] w (Gots w (.bad q er))) :
    Calls Tryz.prog 6 #[.string s] w (ParsesTo w (.bad q er)) := by
  have HC := Lib.hid hC
  clear hC
  go_enter Tryz.func6, Tryz.ntmps6
  go_wp2_with (first
    | (refine alloc_piece rfl rfl ?_; intro w1 b1 e1 p1 l1 z1))
  have P1 := Lib.hid p1
  have L1 := Lib.hid l1
  have HB := Lib.hid (show w.heap.size ≤ b1 ∧ b1 < w1.heap.size from ⟨by omega, by omega⟩)
  clear e1 p1 l1 z1
  refine (HC.out _).mono ?_
  rintro e w2 ⟨l2, he, tq, rfl⟩
  have P2 := Lib.hid (P1.out.below l2)
  have L2 := Lib.hid (L1.out.trans (l2.mono L1.out.size))
  have HB2 := Lib.hid (show b1 < w2.heap.size from Nat.lt_of_lt_of_le HB.out.2 l2.size)
  have HE := Lib.hid he
  have te : (er != 0) = true := by simpa using he
  have te2 : (er == 0) = false := by simpa using he
  clear l2 he
  go_wp2_with (first
    | (refine alloc_got rfl rfl ?_; intro w3 b3 e3 p3 l3 z3)
    | (refine store_got (r := zeroR) (to := tq) (e := er) (bad := (q : Int)) rfl (.tmp 5) (.tmp 7) rfl rfl rfl p3 ?_; intro w4 p4 l4 z4; have L24 := Lib.hid (two_new l3 l4 e3); have P4 := Lib.hid (P2.out.below L24.out); have HN3 := Lib.hid (show b1 ≠ b3 by have := HB2.out; omega); have L4 := Lib.hid (L2.out.trans (L24.out.mono L2.out.size)); have q5 := p4.c5; have q6 := p4.c6; have q7 := p4.c7; clear e3 p3 l3 z3 p4 l4 z4))
  have fr : ∀ j, w4.frozen? ⟨b1, j, none⟩ = false := fun j => frozen_of_row w4 b1 j _ _ P4.out
  have d0 : w4.cell? ⟨b1, 0, none⟩ = some (.int .i64 0) := cell_of_row w4 b1 0 _ _ _ P4.out
  have d1 : w4.cell? ⟨b1, 1, none⟩ = some (.string ⟨#[]⟩) := cell_of_row w4 b1 1 _ _ _ P4.out
  have d2 : w4.cell? ⟨b1, 2, none⟩ = some (.slice none 0 0) := cell_of_row w4 b1 2 _ _ _ P4.out
  have d3 : w4.cell? ⟨b1, 3, none⟩ = some (.int .i64 0) := cell_of_row w4 b1 3 _ _ _ P4.out
  have d4 : w4.cell? ⟨b1, 4, none⟩ = some (.int .i64 0) := cell_of_row w4 b1 4 _ _ _ P4.out
  have f0 := fr 0
  have f1 := fr 1
  have f2 := fr 2
  have f3 := fr 3
  have f4 := fr 4
  have hne : ¬ b3 = b1 := HN3.out.symm
  have hne2 : ¬ b1 = b3 := HN3.out
  clear fr
  go_region
  all_goals (try go_wp2)
  refine end_piece3 rfl rfl (put_five P4.out) rfl ?_
  exact ⟨L4.out.trans ((beside_five w4 b1 _ _ _ _ _).below L4.out.size HB.out.1), HE.out, rfl⟩
theorem rparse_any (hs : s.size ≤ 900) (hP : P13Ok s) {g : Got} (hg : rows s.data.toList (s.data.toList.length + 1) 0 0 = some g) (hf : Fine s.data.toList 0 g) (w : World) : Calls Tryz.prog 6 #[.string s] w (ParsesTo w (fix s.data.toList 0 g)) := by
  obtain ⟨g', e, -, hC⟩ := rpatOk hs hP (s.data.toList.length + 1) 0 (by omega) 0 0 (Nat.le_refl _) (Nat.zero_le _) (by omega)
  rw [hg] at e
  injection e with e
  subst e
  have hl : s.data.toList.length = s.size := (Lib.size_eq s).symm
  match g, hg, hf, hC with
  | .bad q er, _, _, hC => exact rparse_bad hC
  | .ok p to, hg, hf, hC =>
    have h2 := hf.2.1
    simp only [fix]
    by_cases ht : to = s.size
    · rw [if_neg (by rintro ⟨_, q, _⟩; omega)]
      exact rparse_ok ht hC
    · have h41 : s.data.toList.getD to 0 = 41 := by
        rcases rows_stops hg with q | q
        · omega
        · exact q
      rw [if_pos (by refine ⟨by trivial, by omega, h41⟩)]
      exact rparse_more (by omega) hC
end
end Go.Proofs.YtenlogfiabhfmaaGreatDoor.W14
