/-
  Texts joined, in build order, each with its own comment and its own conditions: W14Pattern, W14Parse, W15Of, W16Is, W16LawR.
-/
import Derived.Test.YtehdnbidgphecaaGreatDoorJ23
import Derived.Deep.Cut
import Derived.Test.YtehdnbidgphecaaGreatDoorJ22
import Derived.Test.YtehdnbidgphecaaGreatDoorJ18
/-
  Layer 14 (pattern), walks of the program's pattern and Parse. The conditions stand in the statements.
-/
namespace Go.Proofs.YtehdnbidgphecaaGreatDoor.W14
set_option maxRecDepth 100000
open Go Go.RowKit Go.Proofs.YtehdnbidgphecaaGreatDoor.Recs Go.Proofs.YtehdnbidgphecaaGreatDoor.M14
open Go.Proofs.YtehdnbidgphecaaGreatDoor.Row256 (Beside)
open Go.Proofs.YtehdnbidgphecaaGreatDoor.Kit (ret_str ret_bool ret_int mk_of mk_bytes ba_ext below_draws on list_full list_ne list_none list_nil)

section
variable {R : Nat → Nat → Option Got} {S : List UInt8} {deep k at_ : Nat} {acc : List Piece} {g : Got}
theorem rowsL_bad {g0 : Got} {q : Nat} {er : Int} (hp : row R S deep (S.length + 1) at_ [] = some g0) (hf : fix S deep g0 = .bad q er) (hr : rowsL R S deep (k + 1) at_ acc = some g) : fix S deep g = .bad q er := by
  unfold rowsL at hr
  rw [hp] at hr
  match g0, hf, hr with
  | .bad b e, hf, hr =>
    simp only at hr
    injection hr with hr
    rw [← hr]; exact hf
  | .ok p to, hf, hr =>
    have hf' : (if deep = 0 ∧ to < S.length ∧ S.getD to 0 = 41 then Got.bad to 3 else Got.ok p to) = .bad q er := hf
    by_cases hc : deep = 0 ∧ to < S.length ∧ S.getD to 0 = 41
    · rw [if_pos hc] at hf'
      simp only at hr
      rw [if_pos (Or.inr (by rw [hc.2.2]; decide))] at hr
      injection hr with hr
      rw [← hr, ← hf']
      exact if_pos hc
    · rw [if_neg hc] at hf'; cases hf'
theorem fix_ok {g0 : Got} {p : Piece} {to : Nat} (hf : fix S deep g0 = .ok p to) : g0 = .ok p to ∧ ¬ (deep = 0 ∧ to < S.length ∧ S.getD to 0 = 41) := by
  match g0, hf with
  | .bad b e, hf => cases hf
  | .ok p' to', hf =>
    have hf' : (if deep = 0 ∧ to' < S.length ∧ S.getD to' 0 = 41 then Got.bad to' 3 else Got.ok p' to') = .ok p to := hf
    by_cases hc : deep = 0 ∧ to' < S.length ∧ S.getD to' 0 = 41
    · rw [if_pos hc] at hf'; cases hf'
    · rw [if_neg hc] at hf'
      injection hf' with h1 h2
      subst h1 h2
      exact ⟨rfl, hc⟩
theorem rowsL_end {p : Piece} {to : Nat} (hp : row R S deep (S.length + 1) at_ [] = some (.ok p to)) (hc : ¬ (deep = 0 ∧ to < S.length ∧ S.getD to 0 = 41)) (ht : to = S.length ∨ S.getD to 0 ≠ 124) (hr : rowsL R S deep (k + 1) at_ acc = some g) : fix S deep g = .ok (together 8 (acc ++ [p])) to := by
  unfold rowsL at hr
  rw [hp] at hr
  simp only at hr
  rw [if_pos ht] at hr
  injection hr with hr
  rw [← hr]
  exact if_neg hc
theorem rowsL_on {p : Piece} {to : Nat} (hp : row R S deep (S.length + 1) at_ [] = some (.ok p to)) (ht : ¬ (to = S.length ∨ S.getD to 0 ≠ 124)) (hr : rowsL R S deep (k + 1) at_ acc = some g) : rowsL R S deep k (to + 1) (acc ++ [p]) = some g := by
  unfold rowsL at hr
  rw [hp] at hr
  simp only at hr
  rw [if_neg ht] at hr
  exact hr
end
theorem bar_yes {s : ByteArray} {to : Nat} (h : to < s.size) (h2 : s[to] = 124) : Lib.hasPrefix (s.extract to s.size).data.toList [124] = true := by
  rw [Kit.drop_bytes, Kit.drop_next s to h, h2]
  simp [Lib.hasPrefix]
theorem bar_no {s : ByteArray} {to : Nat} (h : ¬ ∃ h : to < s.size, s[to] = 124) : Lib.hasPrefix (s.extract to s.size).data.toList [124] = false := by
  rw [Kit.drop_bytes]
  by_cases ht : to < s.size
  · rw [Kit.drop_next s to ht]
    have : ¬ s[to] = 124 := fun e => h ⟨ht, e⟩
    have e : (124 : UInt8) ≠ s[to] := fun e => this e.symm
    show ((124 : UInt8) == s[to] && _) = false
    rw [beq_eq_false_iff_ne.2 e, Bool.false_and]
  · rw [Kit.drop_end s to ht]; rfl
theorem bar_true {s : ByteArray} {to : Nat} (h : Lib.hasPrefix (s.extract to s.size).data.toList [124] = true) : ∃ h : to < s.size, s[to] = 124 := Classical.byContradiction fun q => by rw [bar_no q] at h; cases h
theorem bar_false {s : ByteArray} {to : Nat} (h : Lib.hasPrefix (s.extract to s.size).data.toList [124] = false) : ¬ ∃ h : to < s.size, s[to] = 124 := fun ⟨a, b⟩ => by rw [bar_yes a b] at h; cases h
section
variable {w : World} {b : Nat} {s : ByteArray} {at_ deep : Nat}
set_option maxHeartbeats 1000000 in
theorem pattern_any {R : Nat → Nat → Option Got} (hR : PatOk s R (at_ + 1)) (hat : at_ ≤ s.size) (hs : s.size ≤ 900) (hd : deep ≤ 64) {g : Got} (hg : rowsL R s.data.toList deep (s.data.toList.length + 1) at_ [] = some g) (h : Reader w b s at_ deep) :
    Calls Tryz.prog 42 #[.pointer (some ⟨b, 0, none⟩)] w (Reads b s deep w (fix s.data.toList deep g)) := by
  have hlen : s.data.toList.length = s.size := (Lib.size_eq s).symm
  have hlt := h.lt
  have H := Lib.hid h
  have HG := Lib.hid hg
  have HR := Lib.hid hR
  obtain ⟨G, hG⟩ : ∃ G, fix s.data.toList deep g = G := ⟨_, rfl⟩
  rw [hG]
  have HFX := Lib.hid hG
  have HLEN := Lib.hid hlen
  clear h hg hR hG hlen
  go_enter Tryz.func42, Tryz.ntmps42
  go_wp2_with (first | (refine alloc_piece rfl rfl ?_; intro w1 b1 e1 p1 l1 z1))
  have hne : b1 ≠ b := by omega
  have hb1 : b < w1.heap.size := by omega
  have hb2 : b1 < w1.heap.size := by omega
  have hwb : w.heap.size ≤ b1 := by omega
  go_loopg [4] s.size (fun gk s4 wr => ∃ (a : Nat) (acc : List Piece), at_ ≤ a ∧ a ≤ s.size ∧ acc.length ≤ a ∧ Hid (rowsL R s.data.toList deep (gk + 1) a acc = some g) ∧ Hid (Build 25 w1.heap.size wr s4 acc) ∧ Hid (Reader wr b s a deep) ∧ Hid (PBox wr b1 zeroR) ∧ Hid (Beside b w wr) ∧ w1.heap.size ≤ wr.heap.size)
  case atStart =>
    refine ⟨at_, [], Nat.le_refl _, hat, Nat.zero_le _, ?_, Build.nil _ _ _, H.out.below l1, p1, .of l1, Nat.le_refl _⟩
    show rowsL R _ _ _ _ _ = _
    rw [← HLEN.out]; exact HG.out
  case round =>
    obtain ⟨a, acc, ha0, ha1, hacc, hrow, hbuild, hrd, hbox, hbes, hsz⟩ := hrel
    obtain ⟨A, c, rfl, hA1, hA2⟩ := hbuild.out.len
    unfold maxLen at hA2
    obtain ⟨g0, hg0, hf0⟩ := row_fine (R := R) (S := s.data.toList) (deep := deep) (lo := a) (by rw [HLEN.out]; exact hs) (fun hd2 to h1 h2 => by
      obtain ⟨g, e, hf, -⟩ := HR.out to (deep + 1) (by omega) (by rw [HLEN.out] at h2; exact h2) (by omega)
      exact ⟨g, e, hf⟩) (s.data.toList.length + 1) a [] (Nat.le_refl _) (by rw [HLEN.out]; exact ha1) (by have := HLEN.out; omega) (Nat.zero_le _) (by simp)
    have hC : ∀ w b, Reader w b s a deep → Calls Tryz.prog 56 #[.pointer (some ⟨b, 0, none⟩)] w (Reads b s deep w (fix s.data.toList deep g0)) := fun w b h => row_any (HR.out.more (by omega)) ha1 hs hd hg0 h
    obtain ⟨F0, hF0⟩ : ∃ F, fix s.data.toList deep g0 = F := ⟨_, rfl⟩
    rw [hF0] at hC
    have HC := Lib.hid hC
    clear hC
    rcases F0 with ⟨p, to⟩ | ⟨qb, er⟩
    rotate_left
    · skip
      have HX : Hid (G = .bad qb er) := by
        unfold Hid
        rw [← HFX.out]
        exact rowsL_bad hg0 hF0 hrow.out
      clear hf0 hF0 hg0 hrow
      go_wp2_with fail
      refine (HC.out _ _ hrd.out).mono ?_
      rintro e w4 ⟨b4, he, rfl, d, hr⟩
      have B4 := Lib.hid b4
      have P4 := Lib.hid (hbox.out.beside b4 hne)
      have H4 := Lib.hid hr
      have te : (er != 0) = true := by simpa using he
      have HE := Lib.hid he
      have hz := B4.out.size
      clear b4 hr he
      go_wp2_with (first
        | (refine alloc_piece rfl rfl ?_; intro w5 c2 e5 p5 l5 z5)
        | (refine store_piece (r := zeroR) rfl (.tmp 5) (.tmp 10) rfl rfl rfl p5 ?_; intro w6 p6 l6 z6; have L6 := Lib.hid (two_new l5 l6 e5); have P6 := Lib.hid (P4.out.below L6.out))
        | (refine store_piece (r := zeroR) rfl (.tmp 2) (.tmp 14) rfl rfl rfl P6.out ?_; intro w7 p7 l7 z7))
      refine end_piece2 rfl rfl p7 rfl ?_
      rw [HX.out]
      exact ⟨beside_fresh (hbes.out.trans (beside_onto B4.out L6.out)) l7 hwb, HE.out, rfl, _, (H4.out.below L6.out).beside l7 hne.symm⟩
    · obtain ⟨rfl, hnc⟩ := fix_ok hF0
      have hto1 : a ≤ to := hf0.1
      have hto2 : to ≤ s.size := by have := hf0.2.1; rw [HLEN.out] at this; exact this
      have hto3 : (to : Int) ≤ (s.size : Int) := by omega
      obtain ⟨bo, hbo⟩ : ∃ bo, Lib.hasPrefix (s.extract to s.size).data.toList [124] = bo := ⟨_, rfl⟩
      have HQ : Hid (∀ w, Calls Tryz.prog 57 #[.string (s.extract to s.size), .string ⟨#[124]⟩] w fun e w' => e = .returned (.bool bo) ∧ w' = w) := fun w => by
        have := Tryz.strings_HasPrefix (s.extract to s.size) ⟨#[124]⟩ w
        rw [hbo] at this
        exact this
      have HBO := Lib.hid hbo
      have HG0 := Lib.hid hg0
      have HNC := Lib.hid hnc
      have hal0 : acc.length ≤ 1000000 := by omega
      have r4 : acc.length ≤ to := by omega
      have r5 : at_ ≤ to := by omega
      clear hf0 hF0 hg0 hbo hnc hto1 ha0 ha1 hacc hA1 hA2
      go_wp2_with fail
      refine (HC.out _ _ hrd.out).mono ?_
      rintro e w4 ⟨b4, r, rfl, hr, hp⟩
      have B4 := Lib.hid b4
      have P4 := Lib.hid (hbox.out.beside b4 hne)
      have U4 := Lib.hid (hbuild.out.beside b4 hb1)
      have H4 := Lib.hid hr
      have A4 := Lib.hid hp
      have hz := B4.out.size
      clear b4 hr hp
      go_wp2_with (first
        | (refine alloc_piece rfl rfl ?_; intro w5 c2 e5 p5 l5 z5)
        | (refine store_piece (r := r) rfl (.tmp 5) (.tmp 10) rfl rfl rfl p5 ?_; intro w6 p6 l6 z6; have L6 := Lib.hid (two_new l5 l6 e5))
        | (refine load_piece rfl (.tmp 5) rfl rfl p6 ?_)
        | (refine slice_piece rfl (.tmp 17) rfl (r := r) rfl ?_; intro w7 b3 e7 r7 l7 z7; have L7 := Lib.hid (L6.out.trans (l7.mono L6.out.size)); have U7 := Lib.hid (U4.out.below L7.out); have A7 := Lib.hid (A4.out.by_below L7.out); have hz7 := L7.out.size)
        | (refine append_piece rfl (.tmp 16) (.tmp 18) rfl rfl rfl U7.out hbuild.out.own_lt hsz (Nat.le_trans hsz (Nat.le_trans hz hz7)) r7 A7.out hal0 ?_; intro v' w8 U8 g8; have HR8 := Lib.hid (grown_reader U7.out g8 hb1 (H4.out.below L7.out)); have k0 := HR8.out.c0; have k1 := HR8.out.c1))
      have HU := Lib.hid U8
      have HP8 := Lib.hid (grown_box U7.out g8 hb2 (P4.out.below L7.out))
      have HB8 := Lib.hid (grown_beside U7.out g8 l1.size (hbes.out.trans (beside_onto B4.out L7.out)))
      have hz8 : w7.heap.size ≤ w8.heap.size := by obtain ⟨_, _, _, g, _⟩ := g8; exact g
      clear g8 U8
      go_quiet ((go_at_call 57; exact Calls.quiet_of_same (HQ.out _)))
      have HU2 : Hid (Build 25 w1.heap.size (w8.drewN nq) v' (acc ++ [p])) := HU.out.same (Nat.le_refl _) fun _ _ _ => rfl
      have HR9 : Hid (Reader (w8.drewN nq) b s to deep) := HR8
      have HP9 : Hid (PBox (w8.drewN nq) b1 zeroR) := HP8
      have HB9 : Hid (Beside b w (w8.drewN nq)) := beside_onto HB8.out (below_draws w8 nq)
      have hz9 : w8.heap.size ≤ (w8.drewN nq).heap.size := Nat.le_refl _
      clear HU HR8 HP8 HB8 k0 k1
      have HSZ : Hid (w1.heap.size ≤ (w8.drewN nq).heap.size) := Nat.le_trans hsz (Nat.le_trans hz (Nat.le_trans hz7 hz8))
      clear hz9 hz8 hz7 hz hsz z5 z6 e5 L6 l6 L7 U7 A7 e7 z7 l7 r7 p6 l5 p5 A4 H4 U4 P4 B4
      generalize w8.drewN nq = w9 at *
      cases bo with
      | true =>
        obtain ⟨hto4, hbr⟩ := bar_true HBO.out
        have hno : ¬ (to = s.data.toList.length ∨ s.data.toList.getD to 0 ≠ 124) := by
          rintro (q | q)
          · rw [HLEN.out] at q; exact absurd hto4 (by rw [q]; exact Nat.lt_irrefl _)
          · exact q (by rw [getD_at hto4]; exact hbr)
        have HON := Lib.hid (rowsL_on HG0.out hno hrow.out)
        have r3 : (acc ++ [p]).length ≤ to + 1 := by rw [List.length_append]; exact Nat.succ_le_succ r4
        have hw : wrap64 ((to : Int) + 1) = ((to + 1 : Nat) : Int) := by unfold wrap64; omega
        clear hno hbr
        have k1 := HR9.out.c1
        have g1 := HR9.out.free 1
        have B10 : Hid (Beside b w9 (w9.setCell ⟨b, 1, none⟩ (.int .i64 ((to + 1 : Nat) : Int)))) := beside_put _ _ _ _
        have HR10 := Lib.hid (HR9.out.put1 (to + 1))
        have HP10 := Lib.hid (HP9.out.beside B10.out hne)
        have HU10 := Lib.hid (HU2.out.beside B10.out hb1)
        have HB10 := Lib.hid (HB9.out.trans B10.out)
        have HZ10 := Lib.hid B10.out.size
        have R3 := Lib.hid r3
        have R5 := Lib.hid (Nat.le_succ_of_le r5)
        have R6 := Lib.hid hto4
        clear r3 r4 r5 hal0 hto2 hto3 hto4
        cases gk with
        | zero => exact absurd HON.out (by simp [rowsL])
        | succ gk2 =>
          go_wp2_with fail
          go_roundg gk2
          case measure => exact Nat.lt_succ_self _
          case rel => exact ⟨to + 1, acc ++ [p], R5.out, R6.out, R3.out, HON, HU10, HR10, HP10, HB10, Nat.le_trans HSZ.out HZ10.out⟩
      | false =>
        have HX : Hid (G = .ok (together 8 (acc ++ [p])) to) := by
          unfold Hid
          rw [← HFX.out]
          refine rowsL_end HG0.out HNC.out ?_ hrow.out
          rcases Nat.lt_or_ge to s.size with q | q
          · exact .inr fun e => bar_false HBO.out ⟨q, by rw [getD_at q] at e; exact e⟩
          · exact .inl (by rw [HLEN.out]; exact Nat.le_antisymm hto2 q)
        have hal : (acc ++ [p]).length ≤ 1000000 := by
          rw [List.length_append]
          exact Nat.le_trans (Nat.succ_le_succ r4) (Nat.le_trans (Nat.succ_le_succ (Nat.le_trans hto2 hs)) (by decide))
        go_wp2_with fail
        refine (together_any 8 hal HU2.out).mono ?_
        rintro e w10 ⟨r10, rfl, hp, l10⟩
        have A10 := Lib.hid hp
        have L10 := Lib.hid l10
        have P10 := Lib.hid (HP9.out.below l10)
        clear hp l10
        go_wp2_with (first
          | (refine store_piece (r := r10) rfl (.tmp 2) (.tmp 32) rfl rfl rfl P10.out ?_; intro w11 p11 l11 z11))
        refine end_piece2 rfl rfl p11 rfl ?_
        rw [HX.out]
        exact ⟨beside_fresh (beside_onto HB9.out L10.out) l11 hwb, _, rfl, (HR9.out.below L10.out).beside l11 hne.symm, (A10.out.by_beside l11 hb2).by_less l1.size⟩
theorem patOk (hs : s.size ≤ 900) : ∀ (n lo : Nat), s.data.toList.length < lo + n → PatOk s (rows s.data.toList n) lo
  | 0, lo, h => fun a d h1 h2 _ => by rw [← Lib.size_eq] at h; omega
  | n + 1, lo, h => fun a d h1 h2 h3 => by
    have hl : s.data.toList.length = s.size := (Lib.size_eq s).symm
    obtain ⟨g, e, hf⟩ := rows_fine (S := s.data.toList) (by omega) (n + 1) a d (by omega) (by omega)
    refine ⟨g, e, hf, fun w b hr => ?_⟩
    exact pattern_any (patOk hs n (a + 1) (by omega)) h2 hs h3 (by unfold rows at e; exact e) hr
end
end Go.Proofs.YtehdnbidgphecaaGreatDoor.W14
/-
  Layer 14 (pattern): the contract of the program's Parse. The conditions stand in the statements.
-/
namespace Go.Proofs.YtehdnbidgphecaaGreatDoor.W14
set_option maxRecDepth 100000
open Go Go.RowKit Go.Proofs.YtehdnbidgphecaaGreatDoor.Recs Go.Proofs.YtehdnbidgphecaaGreatDoor.M14
open Go.Proofs.YtehdnbidgphecaaGreatDoor.Row256 (Beside)
open Go.Proofs.YtehdnbidgphecaaGreatDoor.Kit (ret_str ret_bool ret_int mk_of mk_bytes ba_ext below_draws on list_full list_ne list_none list_nil)

theorem reader_info : (Tryz.prog.info? 81).map (fun i => (i.zero, i.size, i.bytes)) = some (some (.agg #[.string ⟨#[]⟩, .int .i64 0, .int .i64 0]), 3, 32) := by kernel_rfl
theorem reader_size (s : ByteArray) (a d : Nat) : (Tryz.prog.info? 81).map (·.size) = some (#[Value.string s, .int .i64 a, .int .i64 d] : Array Value).size := by
  obtain ⟨i, hi, -, h2, -⟩ := info_parts reader_info
  rw [hi]; simp [h2]
theorem zero_reader (w : World) : (zeroValue 81).run Tryz.prog w = .ok (.agg #[.string ⟨#[]⟩, .int .i64 0, .int .i64 0]) w := by
  obtain ⟨i, hi, h1, -, -⟩ := info_parts reader_info
  simp [zeroValue, typeInfo, hi, h1]
section
variable {ops : Array Oper} {rest : List Oper} {o : Oper} {a : Act} {w : World} {Q : Exit → Act → World → Prop}
theorem alloc_reader (hgd : o.guard = none) (ho : o.op = .alloc 81)
    (h : ∀ w' b, w.heap.size = b → Reader w' b ⟨#[]⟩ 0 0 → Below w.heap.size w w' → w'.heap.size = w.heap.size + 1 → wpList Tryz.prog ops Q rest (a.put o.dst (.pointer (some ⟨b, 0, none⟩))) w') : wpList Tryz.prog ops Q (o :: rest) a w :=
  wpList_plain hgd fun _ hK => by
    unfold Oper.wp execOp
    simp only [ho, Instr.alloc, newVar, newRow, zero_reader, Sem.run_bind, Sem.run_pure, Result.andThen_ok]
    exact hK _ _ (h _ _ rfl (heap_alloc_new w _) (below_new w _) (World.size_alloc w _))
theorem store_reader (hgd : o.guard = none) (x y : Operand) (ho : o.op = .store 81 x y) {b : Nat} {s s' : ByteArray} {n m n' m' : Nat} (hx : a.eval x = .pointer (some ⟨b, 0, none⟩)) (hy : a.eval y = .agg #[.string s, .int .i64 n, .int .i64 m]) (hr : Reader w b s' n' m')
    (h : ∀ w', Reader w' b s n m → Beside b w w' → w'.heap.size = w.heap.size → wpList Tryz.prog ops Q rest (a.put o.dst undef) w') : wpList Tryz.prog ops Q (o :: rest) a w :=
  wpList_store_row hgd 81 x y ho b _ hx hy 81 _ hr (reader_size s n m) rfl (by simp [Value.oneCell'])
    (h _ (setRow_heap w b _ _ _ _ hr) ⟨rfl, rfl, rfl, by rw [setRow_size]; exact Nat.le_refl _, fun k _ e => setRow_other w b k _ e⟩ (setRow_size _ _ _))
end
theorem put_same {w : World} {b : Nat} (h : PBox w b zeroR) (j : Nat) (v : Value) (hv : (rawA zeroR).setIfInBounds j v = rawA zeroR) : PBox (w.setCell ⟨b, j, none⟩ v) b zeroR := by
  unfold PBox at *
  rw [heap_setCell_same w b j _ _ v h, hv]
theorem drew_box {w : World} {b : Nat} {r : Raw} (h : PBox w b r) : PBox w.drew b r := h
theorem put_five {w : World} {b : Nat} (h : PBox w b zeroR) : PBox (((((w.setCell ⟨b, 0, none⟩ (.int .i64 0)).setCell ⟨b, 1, none⟩ (.string ⟨#[]⟩)).setCell ⟨b, 2, none⟩ (.slice none 0 0)).setCell ⟨b, 3, none⟩ (.int .i64 0)).setCell ⟨b, 4, none⟩ (.int .i64 0)).drew b zeroR := by
  have h0 := put_same h 0 (.int .i64 0) (by simp [rawA, zeroR])
  have h1 := put_same h0 1 (.string ⟨#[]⟩) (by simp [rawA, zeroR])
  have h2 := put_same h1 2 (.slice none 0 0) (by simp [rawA, zeroR])
  have h3 := put_same h2 3 (.int .i64 0) (by simp [rawA, zeroR])
  have h4 := put_same h3 4 (.int .i64 0) (by simp [rawA, zeroR])
  exact drew_box h4
theorem beside_five (w : World) (b : Nat) (v0 v1 v2 v3 v4 : Value) : Beside b w (((((w.setCell ⟨b, 0, none⟩ v0).setCell ⟨b, 1, none⟩ v1).setCell ⟨b, 2, none⟩ v2).setCell ⟨b, 3, none⟩ v3).setCell ⟨b, 4, none⟩ v4).drew :=
  beside_onto ((((((Beside.refl b w).put 0 v0).put 1 v1).put 2 v2).put 3 v3).put 4 v4) (below_draws _ 1)
/-- what Parse answers -/
def ParsesTo (w : World) (g : Got) (e : Ending) (w' : World) : Prop :=
  Below w.heap.size w w' ∧ match g with
  | .ok p _ => ∃ r, e = .returned (.tuple #[.agg (rawA r), .int .i64 0, .int .i64 0]) ∧ PAt (In w.heap.size w'.heap.size) w' r p
  | .bad b er => er ≠ 0 ∧ e = .returned (.tuple #[.agg (rawA zeroR), .int .i64 b, .int .i64 er])
section
variable {w : World} {s : ByteArray}
set_option maxHeartbeats 1000000 in
theorem parse_ok {p : Piece} {to : Nat} (hC : ∀ w b, Reader w b s 0 0 → Calls Tryz.prog 42 #[.pointer (some ⟨b, 0, none⟩)] w (Reads b s 0 w (.ok p to))) :
    Calls Tryz.prog 29 #[.string s] w (ParsesTo w (.ok p to)) := by
  have HC := Lib.hid hC
  clear hC
  go_enter Tryz.func29, Tryz.ntmps29
  go_wp2_with (first
    | (refine alloc_piece rfl rfl ?_; intro w1 b1 e1 p1 l1 z1)
    | (refine alloc_reader rfl rfl ?_; intro w2 b2 e2 p2 l2 z2; have P2 := p1.below l2)
    | (refine store_reader (s := s) (n := 0) (m := 0) rfl (.tmp 5) (.tmp 9) rfl rfl rfl p2 ?_; intro w3 p3 l3 z3; have P3 := P2.beside l3 (by omega)))
  have R3 := Lib.hid p3
  have P3' := Lib.hid P3
  have h23 : b1 ≠ b2 := by omega
  have L3 : Hid (Below w.heap.size w w3) := (l1.trans (l2.mono l1.size)).trans (l3.below (Nat.le_trans l1.size l2.size) (by omega))
  have hb1 : w.heap.size ≤ b1 := by omega
  have hb2 : w.heap.size ≤ b2 := by omega
  have hb3 : b1 < w3.heap.size := by omega
  have hs3 : Hid (w.heap.size ≤ w3.heap.size) := L3.out.size
  clear e1 p1 l1 z1 e2 p2 l2 z2 P2 p3 l3 z3 P3
  refine (HC.out _ _ R3.out).mono ?_
  rintro e w4 ⟨b4, r, rfl, hr, hp⟩
  have L4 : Hid (Below w.heap.size w w4) := L3.out.trans (b4.below hs3.out hb2)
  have P4 := Lib.hid (P3'.out.beside b4 h23)
  have A4 := Lib.hid hp
  clear b4 hr hp
  go_wp2_with (first
    | (refine alloc_piece rfl rfl ?_; intro w5 b3 e5 p5 l5 z5)
    | (refine store_piece (r := r) rfl (.tmp 6) (.tmp 12) rfl rfl rfl p5 ?_; intro w6 p6 l6 z6; have L6 := two_new l5 l6 e5; have P6 := P4.out.below L6; have A6 := A4.out.by_below L6)
    | (refine load_piece rfl (.tmp 6) rfl rfl p6 ?_)
    | (refine store_piece (r := r) rfl (.tmp 2) (.tmp 20) rfl rfl rfl P6 ?_; intro w7 p7 l7 z7))
  refine end_piece3 rfl rfl p7 rfl ?_
  exact ⟨(L4.out.trans (L6.mono L4.out.size)).trans (l7.below (Nat.le_trans L4.out.size L6.size) hb1), r, rfl, (A6.by_beside l7 hb3).by_less hs3.out⟩
set_option maxHeartbeats 1000000 in
theorem parse_bad {q : Nat} {er : Int} (hC : ∀ w b, Reader w b s 0 0 → Calls Tryz.prog 42 #[.pointer (some ⟨b, 0, none⟩)] w (Reads b s 0 w (.bad q er))) :
    Calls Tryz.prog 29 #[.string s] w (ParsesTo w (.bad q er)) := by
  have HC := Lib.hid hC
  clear hC
  go_enter Tryz.func29, Tryz.ntmps29
  go_wp2_with (first
    | (refine alloc_piece rfl rfl ?_; intro w1 b1 e1 p1 l1 z1)
    | (refine alloc_reader rfl rfl ?_; intro w2 b2 e2 p2 l2 z2; have P2 := p1.below l2)
    | (refine store_reader (s := s) (n := 0) (m := 0) rfl (.tmp 5) (.tmp 9) rfl rfl rfl p2 ?_; intro w3 p3 l3 z3; have P3 := P2.beside l3 (by omega)))
  have R3 := Lib.hid p3
  have P3' := Lib.hid P3
  have h23 : b1 ≠ b2 := by omega
  have L3 : Hid (Below w.heap.size w w3) := (l1.trans (l2.mono l1.size)).trans (l3.below (Nat.le_trans l1.size l2.size) (by omega))
  have hb1 : w.heap.size ≤ b1 := by omega
  have hb2 : w.heap.size ≤ b2 := by omega
  have hs3 : Hid (w.heap.size ≤ w3.heap.size) := L3.out.size
  clear e1 p1 l1 z1 e2 p2 l2 z2 P2 p3 l3 z3 P3
  refine (HC.out _ _ R3.out).mono ?_
  rintro e w4 ⟨b4, he, rfl, d, hr⟩
  have L4 : Hid (Below w.heap.size w w4) := L3.out.trans (b4.below hs3.out hb2)
  have P4 := Lib.hid (P3'.out.beside b4 h23)
  have R4 := Lib.hid hr
  have te : (er != 0) = true := by simpa using he
  have HE := Lib.hid he
  clear b4 hr he
  go_wp2_with (first
    | (refine alloc_piece rfl rfl ?_; intro w5 b3 e5 p5 l5 z5)
    | (refine store_piece (r := zeroR) rfl (.tmp 6) (.tmp 12) rfl rfl rfl p5 ?_; intro w6 p6 l6 z6; have L6 := two_new l5 l6 e5; have P6 := Lib.hid (P4.out.below L6); have R6 := Lib.hid (R4.out.below L6); have L6' := Lib.hid L6; have k1 := R6.out.c1; clear e5 p5 l5 z5 p6 l6 z6 L6))
  have k2 : b2 < w6.heap.size := R6.out.lt
  have fr : ∀ j, w6.frozen? ⟨b1, j, none⟩ = false := fun j => frozen_of_row w6 b1 j _ _ P6.out
  have d0 : w6.cell? ⟨b1, 0, none⟩ = some (.int .i64 0) := cell_of_row w6 b1 0 _ _ _ P6.out
  have d1 : w6.cell? ⟨b1, 1, none⟩ = some (.string ⟨#[]⟩) := cell_of_row w6 b1 1 _ _ _ P6.out
  have d2 : w6.cell? ⟨b1, 2, none⟩ = some (.slice none 0 0) := cell_of_row w6 b1 2 _ _ _ P6.out
  have d3 : w6.cell? ⟨b1, 3, none⟩ = some (.int .i64 0) := cell_of_row w6 b1 3 _ _ _ P6.out
  have d4 : w6.cell? ⟨b1, 4, none⟩ = some (.int .i64 0) := cell_of_row w6 b1 4 _ _ _ P6.out
  have f0 := fr 0
  have f1 := fr 1
  have f2 := fr 2
  have f3 := fr 3
  have f4 := fr 4
  have hne : ¬ b2 = b1 := h23.symm
  have hne2 : ¬ b1 = b2 := h23
  clear fr hs3 k2
  go_region
  all_goals (try go_wp2)
  refine end_piece3 rfl rfl (put_five P6.out) rfl ?_
  have L7 := (L4.out.trans (L6'.out.mono L4.out.size))
  exact ⟨L7.trans ((beside_five w6 b1 _ _ _ _ _).below L7.size hb1), HE.out, rfl⟩
theorem parse_any (hs : s.size ≤ 900) : ∃ g, rows s.data.toList (s.data.toList.length + 1) 0 0 = some g ∧ Fine s.data.toList 0 g ∧ ∀ w, Calls Tryz.prog 29 #[.string s] w (ParsesTo w (fix s.data.toList 0 g)) := by
  obtain ⟨g, e, hf, hc⟩ := patOk hs (s.data.toList.length + 1) 0 (by omega) 0 0 (Nat.le_refl _) (Nat.zero_le _) (by omega)
  refine ⟨g, e, hf, fun w => ?_⟩
  match fix s.data.toList 0 g, hc with
  | .ok p to, hc => exact parse_ok hc
  | .bad q er, hc => exact parse_bad hc
end
end Go.Proofs.YtehdnbidgphecaaGreatDoor.W14
/-
  Layer 15 (prog), walk of Of: a pattern's program, or why there is none. The conditions stand in the statements.
-/
namespace Go.Proofs.YtehdnbidgphecaaGreatDoor.W15
set_option maxRecDepth 100000
open Go Go.RowKit Go.Proofs.YtehdnbidgphecaaGreatDoor.Strs Go.Proofs.YtehdnbidgphecaaGreatDoor.Recs Go.Proofs.YtehdnbidgphecaaGreatDoor.M15
open Go.Proofs.YtehdnbidgphecaaGreatDoor.M14 (Piece size sizes Got Whole)
open Go.Proofs.YtehdnbidgphecaaGreatDoor.W14 (Raw Raws rawA rawC PAt PAll PBox PLow below_new box_arg load_piece own_same alloc_piece store_piece ParsesTo zeroR two_new PSize psize_any)
open Go.Proofs.YtehdnbidgphecaaGreatDoor.Kit (below_draws on)

theorem Gives.on {w w1 w2 : World} {P : List Inst} {e : Ending} (hb : Below w.heap.size w w1) (h : Gives w1 P e w2) : Gives w P e w2 := by
  obtain ⟨v, rfl, h1, h2⟩ := h
  exact ⟨v, rfl, h1.mono hb.size, Kit.on hb h2⟩
theorem Fails.on {w w1 w2 : World} {er : Int} {e : Ending} (hb : Below w.heap.size w w1) (h : Fails w1 er e w2) : Fails w er e w2 := ⟨h.1, Kit.on hb h.2⟩
section
variable {s : ByteArray} {w : World}
set_option maxHeartbeats 4000000 in
theorem of_bad {q : Nat} {er : Int} (hC : ∀ w, Calls Tryz.prog 29 #[.string s] w (ParsesTo w (.bad q er))) : Calls Tryz.prog 19 #[.string s] w (Fails w er) := by
  have HC := Lib.hid hC
  clear hC
  go_enter Tryz.func19, Tryz.ntmps19
  go_wp2_with fail
  refine (HC.out _).mono ?_
  rintro e w1 ⟨l1, he, rfl⟩
  have te : (er != 0) = true := by simpa using he
  have L1 := Lib.hid l1
  clear l1 he
  go_wp2_with (first
    | (refine alloc_piece rfl rfl ?_; intro w3 b3 e3 p3 l3 z3)
    | (refine store_piece (r := zeroR) rfl (.tmp 4) (.tmp 10) rfl rfl rfl p3 ?_; intro w4 p4 l4 z4; have L4 := Lib.hid (on L1.out (two_new l3 l4 e3)); clear e3 p3 l3 z3 p4 l4 z4))
  go_ret2
  exact ⟨rfl, L4.out⟩
set_option maxHeartbeats 4000000 in
theorem of_many {p : Piece} {to : Nat} (hs : ∀ w r, PLow w r p → Calls Tryz.prog 30 #[.agg (rawA r)] w (fun e w' => e = .returned (.int .i64 (size p)) ∧ Below w.heap.size w w')) (hz : 4000 < size p) (hC : ∀ w, Calls Tryz.prog 29 #[.string s] w (ParsesTo w (.ok p to))) : Calls Tryz.prog 19 #[.string s] w (Fails w 21) := by
  have HC := Lib.hid hC
  have HS := Lib.hid hs
  obtain ⟨n, hn⟩ : ∃ n, size p = n := ⟨_, rfl⟩
  rw [hn] at HS
  have tn : (4000 : Int) < (n : Int) := by omega
  clear hC hs hz hn
  go_enter Tryz.func19, Tryz.ntmps19
  go_wp2_with fail
  refine (HC.out _).mono ?_
  rintro e w1 ⟨l1, r, rfl, hp⟩
  have L1 := Lib.hid l1
  have A1 := Lib.hid hp.low
  clear l1 hp
  go_wp2_with (first
    | (refine alloc_piece rfl rfl ?_; intro w3 b3 e3 p3 l3 z3)
    | (refine store_piece (r := r) rfl (.tmp 4) (.tmp 10) rfl rfl rfl p3 ?_; intro w4 p4 l4 z4; have L34 := Lib.hid (two_new l3 l4 e3); have P4 := Lib.hid p4; clear e3 p3 l3 z3 p4 l4 z4)
    | (refine load_piece (r := r) rfl (.tmp 4) rfl rfl P4.out ?_))
  refine (HS.out _ _ (A1.out.below L34.out)).mono ?_
  rintro e w5 ⟨rfl, l5⟩
  have L5 := Lib.hid (on (on L1.out L34.out) l5)
  clear l5
  go_wp2_with fail
  go_ret2
  exact ⟨rfl, L5.out⟩
set_option maxHeartbeats 4000000 in
theorem of_ok {p : Piece} {to : Nat} (hs : ∀ w r, PLow w r p → Calls Tryz.prog 30 #[.agg (rawA r)] w (fun e w' => e = .returned (.int .i64 (size p)) ∧ Below w.heap.size w w')) (hz : size p ≤ 4000) (hC : ∀ w, Calls Tryz.prog 29 #[.string s] w (ParsesTo w (.ok p to)))
    (hP : ∀ w r, PLow w r p → Calls Tryz.prog 31 #[.agg (rawA r)] w (Gives w (prog p))) : Calls Tryz.prog 19 #[.string s] w (Gives w (prog p)) := by
  have HC := Lib.hid hC
  have HS := Lib.hid hs
  have HP := Lib.hid hP
  obtain ⟨n, hn⟩ : ∃ n, size p = n := ⟨_, rfl⟩
  rw [hn] at HS
  have tn : ¬ (4000 : Int) < (n : Int) := by omega
  clear hC hs hz hn hP
  go_enter Tryz.func19, Tryz.ntmps19
  go_wp2_with fail
  refine (HC.out _).mono ?_
  rintro e w1 ⟨l1, r, rfl, hp⟩
  have L1 := Lib.hid l1
  have A1 := Lib.hid hp.low
  clear l1 hp
  go_wp2_with (first
    | (refine alloc_piece rfl rfl ?_; intro w3 b3 e3 p3 l3 z3)
    | (refine store_piece (r := r) rfl (.tmp 4) (.tmp 10) rfl rfl rfl p3 ?_; intro w4 p4 l4 z4; have L34 := Lib.hid (two_new l3 l4 e3); have P4 := Lib.hid p4; clear e3 p3 l3 z3 p4 l4 z4)
    | (refine load_piece (r := r) rfl (.tmp 4) rfl rfl P4.out ?_))
  refine (HS.out _ _ (A1.out.below L34.out)).mono ?_
  rintro e w5 ⟨rfl, l5⟩
  have P5 := Lib.hid (P4.out.below l5)
  have A5 := Lib.hid ((A1.out.below L34.out).below l5)
  have L5 := Lib.hid (on (on L1.out L34.out) l5)
  clear l5
  go_wp2_with (first
    | (refine load_piece (r := r) rfl (.tmp 4) rfl rfl P5.out ?_))
  refine (HP.out _ _ A5.out).mono ?_
  rintro e w6 ⟨v, rfl, o6, l6⟩
  have O6 := Lib.hid (o6.mono L5.out.size)
  have L6 := Lib.hid (on L5.out l6)
  clear o6 l6
  go_wp2_with fail
  go_ret2
  exact ⟨v, rfl, O6.out, L6.out⟩
theorem compile_whole {p : Piece} (h : Whole p) (hz : size p ≤ 4000) {w : World} {r : Raw} (hl : PLow w r p) : Calls Tryz.prog 31 #[.agg (rawA r)] w (Gives w (prog p)) :=
  compile_ok (fun w1 l1 => by
    have := W14.right_any h (hl.below l1)
    rw [decide_eq_true (show (size p : Int) ≤ 4000 by omega)] at this
    exact this) (.of_whole h) hz hl
/-- what Of comes to -/
def OfTo (w : World) (g : Got) (e : Ending) (w' : World) : Prop :=
  match g with
  | .bad _ er => Fails w er e w'
  | .ok p _ => if size p ≤ 4000 then Gives w (prog p) e w' else Fails w 21 e w'
def WholeG : Got → Prop
  | .ok p _ => Whole p
  | .bad _ _ => True
theorem of_got {g : Got} (hw : WholeG g) (hC : ∀ w, Calls Tryz.prog 29 #[.string s] w (ParsesTo w g)) : Calls Tryz.prog 19 #[.string s] w (OfTo w g) := by
  match g, hw, hC with
  | .bad q er, _, hC => exact of_bad hC
  | .ok p to, hw, hC =>
    by_cases hz : size p ≤ 4000
    · refine (of_ok (fun w r => psize_any hw w r) hz hC fun w r hl => compile_whole hw hz hl).mono fun e w' h => ?_
      show ite _ _ _
      rw [if_pos hz]; exact h
    · refine (of_many (fun w r => psize_any hw w r) (by omega) hC).mono fun e w' h => ?_
      show ite _ _ _
      rw [if_neg hz]; exact h
end
end Go.Proofs.YtehdnbidgphecaaGreatDoor.W15
/-
  Layer 16 (match), walks of Is and lives: a pattern in a text. The conditions stand in the statements.
-/
namespace Go.Proofs.YtehdnbidgphecaaGreatDoor.W16
set_option maxRecDepth 100000
open Go Go.RowKit Go.Proofs.YtehdnbidgphecaaGreatDoor.Strs Go.Proofs.YtehdnbidgphecaaGreatDoor.Recs
open Go.Proofs.YtehdnbidgphecaaGreatDoor.M15 (Inst rightP prog steps_len)
open Go.Proofs.YtehdnbidgphecaaGreatDoor.M14 (Piece size sizes Got Whole)
open Go.Proofs.YtehdnbidgphecaaGreatDoor.M16 (Text yields)
open Go.Proofs.YtehdnbidgphecaaGreatDoor.W15 (Prg insC insC_len Gives Fails)
open Go.Proofs.YtehdnbidgphecaaGreatDoor.W14 (Raw rawA zeroR ParsesTo alloc_piece store_piece two_new)
open Go.Proofs.YtehdnbidgphecaaGreatDoor.Kit (below_draws on)

/-- is it found? -/
def found (P : List Inst) (s : ByteArray) : Bool := !(yields P s.data.toList 0 s.size).isEmpty
section
variable {p s : ByteArray} {w : World}
set_option maxHeartbeats 2000000 in
theorem is_ok {P : List Inst} (hO : ∀ w, Calls Tryz.prog 19 #[.string p] w (Gives w P)) (hn : P.length ≤ 900000) (hs : s.size ≤ 900000) : Calls Tryz.prog 7 #[.string p, .string s] w fun e w' => e = .returned (.tuple #[.bool (found P s), .int .i64 0]) ∧ Below w.heap.size w w' := by
  have HO := Lib.hid hO
  have HS : Hid (∀ (w : World) (v : Value), Prg w.heap.size w v P → Calls Tryz.prog 14 #[v, .string s] w fun e w' => e = .returned (.bool (found P s)) ∧ Below w.heap.size w w') := fun w v h => search_any h hn hs
  obtain ⟨R, hR⟩ : ∃ R, found P s = R := ⟨_, rfl⟩
  rw [hR] at HS ⊢
  clear hO hn hs hR
  go_enter Tryz.func7, Tryz.ntmps7
  go_wp2_with fail
  refine (HO.out _).mono ?_
  rintro e w1 ⟨v, rfl, o1, l1⟩
  have R1 := Lib.hid (Recs.of_own insC_len rfl o1)
  have L1 := Lib.hid l1
  clear o1 l1
  go_wp2_with fail
  refine (HS.out _ _ R1.out).mono ?_
  rintro e w2 ⟨rfl, l2⟩
  have L2 := Lib.hid (on L1.out l2)
  clear l2
  go_wp2_with fail
  go_ret2
  exact ⟨rfl, L2.out⟩
/-- what Of comes to, of a parsed pattern -/
theorem of_okW {P : Piece} {to : Nat} (hw : Whole P) (hz : size P ≤ 4000) (hC : ∀ w, Calls Tryz.prog 29 #[.string p] w (ParsesTo w (.ok P to))) (w : World) : Calls Tryz.prog 19 #[.string p] w (Gives w (prog P)) := by
  refine (W15.of_got (w := w) (g := .ok P to) hw hC).mono fun e w' h => ?_
  have h2 : (if size P ≤ 4000 then Gives w (prog P) e w' else Fails w 21 e w') := h
  rwa [if_pos hz] at h2
end
/-! lives -/
def livesA : Piece := .mk 8 ⟨#[]⟩ [M14.leaf 2 (M14.chr 97), .mk 9 ⟨#[]⟩ [M14.leaf 2 (M14.chr 98)] 0 (-1)] 0 0
def livesG : Piece := .mk 7 ⟨#[]⟩ [M14.leaf 5 ⟨#[]⟩, M14.leaf 2 (M14.chr 46), M14.leaf 2 (M14.chr 103), M14.leaf 2 (M14.chr 105), M14.leaf 2 (M14.chr 116), M14.leaf 6 ⟨#[]⟩] 0 0
set_option maxRecDepth 100000 in
theorem livesA_rows : M14.rows [97, 124, 98, 42] 5 0 0 = some (.ok livesA 4) := by rfl
set_option maxRecDepth 100000 in
theorem livesG_rows : M14.rows [94, 92, 46, 103, 105, 116, 36] 8 0 0 = some (.ok livesG 7) := by rfl
theorem livesA_size : size livesA = 6 := by
  simp [livesA, M14.leaf, size, sizes]
theorem livesG_size : size livesG = 6 := by
  simp [livesG, M14.leaf, size, sizes]
def livesLA : List Inst := [⟨6, ⟨#[]⟩, 1, 3⟩, ⟨1, ⟨#[97]⟩, 2, 0⟩, ⟨8, ⟨#[]⟩, 6, 0⟩, ⟨6, ⟨#[]⟩, 4, 6⟩, ⟨1, ⟨#[98]⟩, 5, 0⟩, ⟨8, ⟨#[]⟩, 3, 0⟩, ⟨7, ⟨#[]⟩, 0, 0⟩]
def livesLG : List Inst := [⟨4, ⟨#[]⟩, 1, 0⟩, ⟨1, ⟨#[46]⟩, 2, 0⟩, ⟨1, ⟨#[103]⟩, 3, 0⟩, ⟨1, ⟨#[105]⟩, 4, 0⟩, ⟨1, ⟨#[116]⟩, 5, 0⟩, ⟨5, ⟨#[]⟩, 6, 0⟩, ⟨7, ⟨#[]⟩, 0, 0⟩]
theorem livesA_prog : prog livesA = livesLA := by
  have h := livesA_size
  unfold prog livesA at *
  rw [M15.steps_8]
  simp only [M15.no] at *
  rw [h, M15.alts_2, M15.alts_1, M15.steps_leaf (by omega), M15.steps_9, M15.size_9, M15.size_1 (by omega), M15.size_1 (by omega)]
  unfold M15.reps M15.star
  rw [M15.steps_leaf (by omega)]
  rfl
theorem livesG_prog : prog livesG = livesLG := by
  unfold prog livesG
  rw [M15.steps_7]
  simp only [M15.seqs, M15.no] at *
  simp only [M15.steps_leaf (show (1 : Int) ≤ 5 ∧ (5 : Int) ≤ 6 by omega), M15.steps_leaf (show (1 : Int) ≤ 2 ∧ (2 : Int) ≤ 6 by omega), M15.steps_leaf (show (1 : Int) ≤ 6 ∧ (6 : Int) ≤ 6 by omega), M15.size_1 (show (1 : Int) ≤ 5 ∧ (5 : Int) ≤ 6 by omega), M15.size_1 (show (1 : Int) ≤ 2 ∧ (2 : Int) ≤ 6 by omega)]
  rfl
set_option maxRecDepth 100000 in
theorem livesA_ends : endsL livesLA [98, 98, 97] 0 = [0, 1, 2] := by decide +kernel
set_option maxRecDepth 100000 in
theorem livesG_found : found livesLG ⟨#[46, 103, 105, 116]⟩ = true := by decide +kernel
theorem parse_lives {s : ByteArray} (hs : s.size ≤ 900) {P : Piece} {to : Nat} (hg : M14.rows s.data.toList (s.data.toList.length + 1) 0 0 = some (.ok P to)) (hto : to = s.data.toList.length) : Whole P ∧ ∀ w, Calls Tryz.prog 29 #[.string s] w (ParsesTo w (.ok P to)) := by
  obtain ⟨g', e, hf, hC⟩ := W14.parse_any hs
  rw [hg] at e
  injection e with e
  subst e
  have hx : M14.fix s.data.toList 0 (.ok P to) = .ok P to := by
    simp only [M14.fix]
    rw [if_neg]
    rintro ⟨-, h, -⟩
    omega
  rw [hx] at hC
  exact ⟨hf.2.2, hC⟩
def Yes (w : World) (e : Ending) (w' : World) : Prop := e = .returned (.bool true) ∧ Below w.heap.size w w'
theorem nums_012 (w : World) : Nums (w.alloc (.cells #[.int .i64 0, .int .i64 1, .int .i64 2] 3)).heap.size (w.alloc (.cells #[.int .i64 0, .int .i64 1, .int .i64 2] 3)) (.slice (some ⟨w.heap.size, 0, none⟩) 3 3) [0, 1, 2] :=
  Recs.of_own W15.numC_len rfl (own_ints (base := w.heap.size) w [0, 1, 2] (Nat.le_refl _) (by unfold maxLen; decide))
set_option maxHeartbeats 4000000 in
theorem lives_any (w : World) : Calls Tryz.prog 5 #[] w (Yes w) := by
  unfold Yes
  have hA := parse_lives (s := ⟨#[97, 124, 98, 42]⟩) (by decide) livesA_rows rfl
  have hG := parse_lives (s := ⟨#[94, 92, 46, 103, 105, 116, 36]⟩) (by decide) livesG_rows rfl
  have HA : Hid (∀ w, Calls Tryz.prog 19 #[.string ⟨#[97, 124, 98, 42]⟩] w (Gives w livesLA)) := fun w => by
    have := of_okW hA.1 (by rw [livesA_size]; decide) hA.2 w
    rwa [livesA_prog] at this
  have HG : Hid (∀ w, Calls Tryz.prog 7 #[.string ⟨#[94, 92, 46, 103, 105, 116, 36]⟩, .string ⟨#[46, 103, 105, 116]⟩] w fun e w' => e = .returned (.tuple #[.bool true, .int .i64 0]) ∧ Below w.heap.size w w') := fun w => by
    have := is_ok (w := w) (p := ⟨#[94, 92, 46, 103, 105, 116, 36]⟩) (s := ⟨#[46, 103, 105, 116]⟩) (P := livesLG) (fun w => by
      have := of_okW hG.1 (by rw [livesG_size]; decide) hG.2 w
      rwa [livesG_prog] at this) (by decide) (by decide)
    rwa [livesG_found] at this
  have HE : Hid (∀ (w : World) (v : Value), Prg w.heap.size w v livesLA → Calls Tryz.prog 17 #[v, .string ⟨#[98, 98, 97]⟩, .int .i64 0] w (GivesInts w [0, 1, 2])) := fun w v h => by
    have := ends_at (s := ⟨#[98, 98, 97]⟩) h (by decide) (by decide) 0
    rwa [show endsL livesLA (⟨#[98, 98, 97]⟩ : ByteArray).data.toList 0 = [0, 1, 2] from livesA_ends] at this
  clear hA hG
  go_enter Tryz.func5, Tryz.ntmps5
  go_wp2_with fail
  refine (HA.out _).mono ?_
  rintro e w1 ⟨v, rfl, o1, l1⟩
  have R1 := Lib.hid (Recs.of_own insC_len rfl o1)
  have L1 := Lib.hid l1
  clear o1 l1
  go_wp2_with fail
  refine (HG.out _).mono ?_
  rintro e w2 ⟨rfl, l2⟩
  have R2 := Lib.hid ((R1.out.below l2).more l2.size)
  have L2 := Lib.hid (on L1.out l2)
  clear l2
  go_wp2_with fail
  refine (HE.out _ _ R2.out).mono ?_
  rintro e w3 ⟨u, rfl, o3, l3⟩
  have N3 := Lib.hid (Recs.of_own W15.numC_len rfl o3)
  have L3 := Lib.hid (on L2.out l3)
  clear o3 l3
  have LR := Lib.hid (nums_012 w3)
  go_wp2_with fail
  have N4 := Lib.hid (N3.out.alloc (Nat.le_refl _) (.cells #[.int .i64 0, .int .i64 1, .int .i64 2] 3))
  have L4 := Lib.hid (on L3.out (W14.below_new w3 (.cells #[.int .i64 0, .int .i64 1, .int .i64 2] 3)))
  refine (ints_any N4.out LR.out).mono ?_
  rintro e w5 ⟨rfl, l5⟩
  have L5 := Lib.hid (on L4.out l5)
  clear l5
  go_wp2_with fail
  go_ret
  exact ⟨rfl, L5.out⟩
end Go.Proofs.YtehdnbidgphecaaGreatDoor.W16
/-
  The law MatchRuns of layer 16 (match): it returns true whatever it is given. The conditions stand in the statement.
-/
namespace Go.Proofs.YtehdnbidgphecaaGreatDoor.W16
set_option maxRecDepth 100000
open Go Go.RowKit Go.Proofs.YtehdnbidgphecaaGreatDoor.Strs Go.Proofs.YtehdnbidgphecaaGreatDoor.Recs
open Go.Proofs.YtehdnbidgphecaaGreatDoor.M15 (Inst)
open Go.Proofs.YtehdnbidgphecaaGreatDoor.W15 (Prg numC numC_len)
open Go.Proofs.YtehdnbidgphecaaGreatDoor.Kit (below_draws on)

set_option maxHeartbeats 4000000 in
theorem matchRuns_law {w : World} (v : Value) (L : List Inst) (h : Prg w.heap.size w v L) (s : ByteArray) (hs : s.size ≤ 140737488351232) (x : Int) (_h1 : -9223372036854775808 ≤ x) (_h2 : x ≤ 9223372036854775807) : Calls Tryz.prog 4 #[v, .string s, .int .i64 x] w (Yes w) := by
  unfold Yes
  have HV := Lib.hid lives_any
  unfold Yes at HV
  have HP := Lib.hid h
  by_cases hz : L.length ≤ 40 ∧ s.size ≤ 12
  · have H1 := Lib.hid (ends_at (s := s) h (by omega) (by omega) x)
    have H2 : Hid (∀ w', Below w.heap.size w w' → Calls Tryz.prog 18 #[v, .string s, .int .i64 x] w' (GivesInts w' (endsL L s.data.toList x))) := fun w' hb => run_at ((h.below hb).more hb.size) (by omega) (by omega) x
    obtain ⟨A, c, rfl, -, -⟩ := h.form
    obtain ⟨ys, hys⟩ : ∃ ys, endsL L s.data.toList x = ys := ⟨_, rfl⟩
    rw [hys] at H1 H2
    have tl : ¬ (40 : Int) < (L.length : Int) := by omega
    have ts : ¬ (12 : Int) < (s.size : Int) := by omega
    clear h hs hz hys _h1 _h2
    go_enter Tryz.func4, Tryz.ntmps4
    go_wp2_with fail
    refine H1.out.mono ?_
    rintro e w1 ⟨u1, rfl, o1, l1⟩
    have N1 := Lib.hid (Recs.of_own numC_len rfl o1)
    have L1 := Lib.hid l1
    clear o1 l1
    go_wp2_with fail
    refine (H2.out _ L1.out).mono ?_
    rintro e w2 ⟨u2, rfl, o2, l2⟩
    have N2 := Lib.hid (Recs.of_own numC_len rfl o2)
    have N1 := Lib.hid (N1.out.below l2)
    have L2 := Lib.hid (on L1.out l2)
    clear o2 l2
    go_wp2_with fail
    refine (ints_any N1.out N2.out).mono ?_
    rintro e w3 ⟨rfl, l3⟩
    have L3 := Lib.hid (on L2.out l3)
    clear l3
    have ty : decide (ys = ys) = true := decide_eq_true rfl
    go_wp2_with fail
    refine (HV.out _).mono ?_
    rintro e w4 ⟨rfl, l4⟩
    have L4 := Lib.hid (on L3.out l4)
    clear l4
    go_wp2_with fail
    go_ret
    exact ⟨rfl, L4.out⟩
  · obtain ⟨A, c, rfl, -, -⟩ := h.form
    by_cases hl : L.length ≤ 40
    · have tl : ¬ (40 : Int) < (L.length : Int) := by omega
      have ts : (12 : Int) < (s.size : Int) := by omega
      clear h hz hl _h1 _h2
      go_enter Tryz.func4, Tryz.ntmps4
      go_wp2_with fail
      refine (HV.out _).mono ?_
      rintro e w4 ⟨rfl, l4⟩
      have L4 := Lib.hid l4
      clear l4
      go_wp2_with fail
      go_ret
      exact ⟨rfl, L4.out⟩
    · have tl : (40 : Int) < (L.length : Int) := by omega
      clear h hz hl _h1 _h2 hs
      go_enter Tryz.func4, Tryz.ntmps4
      go_wp2_with fail
      refine (HV.out _).mono ?_
      rintro e w4 ⟨rfl, l4⟩
      have L4 := Lib.hid l4
      clear l4
      go_wp2_with fail
      go_ret
      exact ⟨rfl, L4.out⟩
end Go.Proofs.YtehdnbidgphecaaGreatDoor.W16
