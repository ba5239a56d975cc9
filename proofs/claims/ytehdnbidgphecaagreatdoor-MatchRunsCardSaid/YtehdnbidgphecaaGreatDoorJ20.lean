/-
  Texts joined, in build order, each with its own comment and its own conditions: W15Once, W15Again.
-/
import Derived.Test.YtehdnbidgphecaaGreatDoorJ19
/-
  Layer 15 (prog), walk of the layer's onceMore: steps that lie in the layer are put behind the others once more, moved. The conditions stand in the statements.
-/
namespace Go.Proofs.YtehdnbidgphecaaGreatDoor.W15
set_option maxRecDepth 100000
open Go Go.RowKit Go.Proofs.YtehdnbidgphecaaGreatDoor.Strs Go.Proofs.YtehdnbidgphecaaGreatDoor.Recs Go.Proofs.YtehdnbidgphecaaGreatDoor.M15
open Go.Proofs.YtehdnbidgphecaaGreatDoor.M14 (Piece size sizes)
open Go.Proofs.YtehdnbidgphecaaGreatDoor.W14 (Raw Raws rawA rawC PAt PAll PBox below_new cell_block own_same own_form two_new)
open Go.Proofs.YtehdnbidgphecaaGreatDoor.Row256 (Beside)
open Go.Proofs.YtehdnbidgphecaaGreatDoor.Kit (below_draws on)

theorem IBox.cells {w : World} {b : Nat} {x : Inst} (h : IBox w b x) : ∀ j, j < 4 → w.cell? ⟨b, 0 + j, none⟩ = (insC x)[j]? := by
  intro j hj
  rw [Nat.zero_add, cell_of_row w b j _ _ _ h]
  match j, hj with
  | 0, _ => rfl
  | 1, _ => rfl
  | 2, _ => rfl
  | 3, _ => rfl
theorem ibox_put {w w' : World} {c : Nat} {x : Inst} {v v' : Value} (h : IBox w c x) (hp : Put v v' w w') (hn : v.ownBlock ≠ some c) : IBox w' c x := by
  obtain ⟨-, -, -, -, g5⟩ := hp.grown
  exact (g5 c h.lt (fun q => hn q.symm)).trans h
theorem IBox.other {w : World} {c b : Nat} {x : Inst} {u : Value} (h : IBox w c x) (hn : c ≠ b) : IBox (w.setCell ⟨b, 0, none⟩ u) c x := (heap_setCell_other w _ c _ hn).trans h
theorem wrap_mid (a : Int) (h : -1000000 ≤ a ∧ a ≤ 1000000) : wrap64 a = a := by unfold wrap64; omega
/-- steps that lie in the layer, cell by cell -/
def Src (w : World) (g f : Nat) (S : List Inst) : Prop := ∀ i (hi : i < S.length), ∀ j, j < 4 → w.cell? ⟨g, f * 4 + i * 4 + j, none⟩ = (insC S[i])[j]?
theorem src_lay {w : World} {b g f : Nat} {v : Value} {L S : List Inst} (h : Lay w b v L) (hg : v.ownBlock = some g) (hS : ∀ i (hi : i < S.length), L[f + i]? = some S[i]) : Src w g f S := by
  intro i hi j hj
  have h2 := hS i hi
  have h3 : f + i < L.length := (List.getElem?_eq_some_iff.1 h2).1
  obtain ⟨g', c, rfl, -, -⟩ := h.shape (by omega)
  cases hg
  rw [h.own.cellAt _ (by omega)]
  have h4 := flat_at insC_len L (f + i) h3 j hj
  rw [List.getElem?_eq_getElem h3] at h2
  rw [show f * 4 + i * 4 + j = (f + i) * 4 + j by omega, h4, Option.some.inj h2]
theorem Src.keep {w w' : World} {g f : Nat} {S : List Inst} (h : Src w g f S) (hk : w'.heap[g]? = w.heap[g]?) : Src w' g f S := fun i hi j hj => (cell_block hk).trans (h i hi j hj)
theorem Src.next {w1 w2 : World} {b g f : Nat} {v v' : Value} {L S : List Inst} (h : Src w1 g f S) (hw : g < w1.heap.size) (hb : g ≠ b) (hp : Put v v' w1 w2) (hl : Lay (w2.setCell ⟨b, 0, none⟩ v') b v' L) (hS : ∀ i (hi : i < S.length), L[f + i]? = some S[i]) : Src (w2.setCell ⟨b, 0, none⟩ v') g f S := by
  by_cases q : v'.ownBlock = some g
  · exact src_lay hl q hS
  · exact h.keep ((heap_setCell_other w2 _ g _ hb).trans (hp.kept g hw q))
set_option maxHeartbeats 8000000 in
theorem once_any {w : World} {b : Nat} {v : Value} {P S R : List Inst} (h : Lay w b v (P ++ (S ++ R))) (hS : 0 < S.length) (hl : (P ++ (S ++ R)).length + S.length ≤ 8000) (hx : ∀ x, x ∈ S → (0 ≤ x.x ∧ x.x ≤ 10000) ∧ (0 ≤ x.y ∧ x.y ≤ 10000)) :
    Calls Tryz.prog 100 #[.pointer (some ⟨b, 0, none⟩), .int .i64 P.length, .int .i64 ((P.length + S.length : Nat) : Int)] w (Laid b v w (P ++ (S ++ R) ++ S.map (shift (S.length + R.length)))) := by
  have H := Lib.hid h
  have HX := Lib.hid hx
  have HE := Lib.hid (here_any h)
  obtain ⟨L, hL⟩ : ∃ L, P ++ (S ++ R) = L := ⟨_, rfl⟩
  obtain ⟨f, hf⟩ : ∃ f, P.length = f := ⟨_, rfl⟩
  obtain ⟨n, hn⟩ : ∃ n, S.length = n := ⟨_, rfl⟩
  obtain ⟨d, hd⟩ : ∃ d, S.length + R.length = d := ⟨_, rfl⟩
  obtain ⟨T, hT⟩ : ∃ T, L.length = T := ⟨_, rfl⟩
  have hTs : T = f + d := by rw [← hT, ← hL, ← hf, ← hd]; simp only [List.length_append]
  have hdn : n ≤ d := by omega
  have hSat : ∀ i (hi : i < S.length), L[f + i]? = some S[i] := by
    intro i hi
    rw [← hL, List.getElem?_append_right (by omega), List.getElem?_append_left (by omega), show f + i - P.length = i by omega, List.getElem?_eq_getElem hi]
  rw [hL] at H HE hl
  rw [hT] at HE hl
  obtain ⟨g, c, rfl, hc1, hc2⟩ := H.out.shape (by omega)
  rw [hT] at H hc1 ⊢
  have HLT := Lib.hid (H.out.own_gt g rfl)
  have HSRC := Lib.hid (src_lay H.out rfl hSat)
  rw [hL, hf, hn]
  have HSAT := Lib.hid hSat
  have HB0 := Lib.hid (show T + n ≤ 8000 ∧ S.length = n ∧ 0 < n from ⟨by omega, hn, by omega⟩)
  obtain ⟨e, he⟩ : ∃ e, f + n = e := ⟨_, rfl⟩
  rw [he]
  have hw1 : wrap64 ((T : Int) - (f : Int)) = (d : Int) := wrap64_nat_big (by omega) (by omega)
  have hfc : ¬ c = f := by omega
  have hen : e - f = n := by omega
  have t1 : f ≤ e := by omega
  have t2 : e ≤ c := by omega
  have HTS : Hid (T = f + d) := hTs
  have HD : Hid (n + R.length = d) := by unfold Hid; omega
  have HLT2 : Hid (L.length = T) := hT
  rw [HD.out]
  clear h hx hL hf hn hT hSat hS hl he hd hTs hdn
  go_enter Tryz.func100, Tryz.ntmps100
  go_wp2_with fail
  refine HE.out.mono ?_
  rintro e' w1 ⟨rfl, rfl⟩
  have a0 := H.out.box.c0
  go_wp2_with fail
  clear a0 hw1 hfc hen t1 t2
  go_loopg [21] n (fun gk s21 wr => ∃ (i : Nat) (v1 : Value), s21 = .int .i64 i ∧ Hid (i + gk = n) ∧ Hid (Lay wr b v1 (L ++ (S.take i).map (shift d))) ∧ Hid (Grow b (.slice (some ⟨g, 0, none⟩) T c) v1 w1 wr) ∧ Hid (Src wr g f S))
  case atStart => exact ⟨0, _, rfl, by unfold Hid; omega, by unfold Hid; simp only [List.take_zero, List.map_nil, List.append_nil]; exact H.out, Grow.refl _ _ _, HSRC⟩
  case round =>
    obtain ⟨i, v1, rfl, hig, HL1, GG, SS⟩ := hrel
    by_cases hi : i < n
    · have ti : (i : Int) < (n : Int) := by omega
      have hiS : i < S.length := by rw [HB0.out.2.1]; exact hi
      obtain ⟨⟨kx, tx, x0, y0⟩, hx⟩ : ∃ x, S[i] = x := ⟨_, rfl⟩
      have hb := HX.out S[i] (List.getElem_mem hiS)
      have hmap : L ++ (S.take (i + 1)).map (shift d) = (L ++ (S.take i).map (shift d)) ++ [shift d ⟨kx, tx, x0, y0⟩] := by
        rw [List.take_succ_eq_append_getElem hiS, hx, List.map_append, List.append_assoc]; rfl
      have E1 := Lib.hid (SS.out i hiS)
      rw [hx] at E1 hb
      simp only at hb
      obtain ⟨Lc, hLc⟩ : ∃ Lc, L ++ (S.take i).map (shift d) = Lc := ⟨_, rfl⟩
      have hlen : Lc.length + 1 ≤ 1000000 := by
        rw [← hLc, List.length_append, List.length_map, List.length_take, HLT2.out]
        have := HB0.out.1
        omega
      have hSat2 : ∀ X2 : Inst, ∀ k (hk : k < S.length), (Lc ++ [X2])[f + k]? = some S[k] := by
        intro X2 k hk
        have h1 := HSAT.out k hk
        have h2 : f + k < L.length := (List.getElem?_eq_some_iff.1 h1).1
        rw [← hLc, List.append_assoc, List.getElem?_append_left h2, h1]
      have hsh : shift d ⟨kx, tx, x0, y0⟩ = ⟨kx, tx, x0 + d, if kx = 6 then y0 + d else y0⟩ := rfl
      rw [hsh] at hmap
      rw [hLc] at HL1 hmap
      have HM := Lib.hid hmap
      have HB := Lib.hid hlen
      have HS2 := Lib.hid hSat2
      have hgw := HLT.out
      obtain ⟨xx, hxx⟩ : ∃ xx, x0 + (d : Int) = xx := ⟨_, rfl⟩
      obtain ⟨yy, hyy⟩ : ∃ yy, y0 + (d : Int) = yy := ⟨_, rfl⟩
      have hTf : (T : Int) - (f : Int) = (d : Int) := by have := HTS.out; omega
      have hwx : wrap64 (x0 + ((T : Int) - (f : Int))) = xx := by rw [hTf]; exact (wrap_mid _ (by have := HB0.out.1; have := HD.out; have := HTS.out; omega)).trans hxx
      have hwy : wrap64 (y0 + ((T : Int) - (f : Int))) = yy := by rw [hTf]; exact (wrap_mid _ (by have := HB0.out.1; have := HD.out; have := HTS.out; omega)).trans hyy
      rw [hxx, hyy] at HM
      have hwi : Hid (wrap64 ((i : Int) + 1) = ((i + 1 : Nat) : Int)) := by unfold Hid wrap64; have := HB0.out; omega
      have HI2 := Lib.hid hi
      have HW := Lib.hid GG.out.size
      clear hmap hx hb hlen hSat2 hsh hLc hxx hyy hiS hgw hi hTf
      by_cases hk : kx = 6
      · subst hk
        rw [if_pos rfl] at HM
        go_wp2_with (first
          | (refine load_ins rfl (.tmp 23) rfl rfl (r := ⟨6, tx, x0, y0⟩) E1.out ?_)
          | (refine alloc_ins rfl rfl ?_; intro w3 b3 e3 p3 l3 z3)
          | (refine store_ins (r := ⟨6, tx, x0, y0⟩) rfl (.tmp 8) (.tmp 24) rfl rfl rfl p3 ?_; intro w4 p4 l4 z4; have L4 := Lib.hid (two_new l3 l4 e3); have P4 := Lib.hid p4; have c0 := p4.c0; have c2 := p4.c2; have c3 := p4.c3; have f2 := p4.free 2; have f3 := p4.free 3; have HB4 := Lib.hid e3; clear e3 p3 l3 z3 p4 l4 z4; simp only at c0 c2 c3))
        obtain ⟨X2, hX2⟩ : ∃ X2 : Inst, (⟨6, tx, xx, yy⟩ : Inst) = X2 := ⟨_, rfl⟩
        have i5 : IBox ((w4.setCell ⟨b3, 2, none⟩ (.int .i64 xx)).setCell ⟨b3, 3, none⟩ (.int .i64 yy)) b3 X2 := by rw [← hX2]; exact (P4.out.put2 xx).put3 yy
        have bb : Beside b3 w4 ((w4.setCell ⟨b3, 2, none⟩ (.int .i64 xx)).setCell ⟨b3, 3, none⟩ (.int .i64 yy)) := ((Beside.refl b3 w4).put 2 _).put 3 _
        rw [hX2] at HM
        clear c0 c2 c3 f2 f3 hX2 hwx hwy
        generalize ((w4.setCell ⟨b3, 2, none⟩ (.int .i64 xx)).setCell ⟨b3, 3, none⟩ (.int .i64 yy)) = w5 at i5 bb ⊢
        have D5 := Lib.hid (below_draws w5 1)
        have I5 : Hid (IBox (w5.drewN 1) b3 X2) := i5.below D5.out
        have HB3 : Hid (b3 ≠ b) := by unfold Hid; have := HL1.out.box.lt; have := HB4.out; omega
        have NB : Hid (v1.ownBlock ≠ some b3) := by intro q; have := (HL1.out.own_gt b3 q).2; have := HB4.out; omega
        have H5 := Lib.hid (((HL1.out.below L4.out).other bb HB3.out NB.out).below D5.out)
        have G5 := Lib.hid ((((GG.out.trans (Grow.of L4.out)).beside bb (by have := HB4.out; have := HW.out; omega)).trans (Grow.of D5.out)))
        have HG : Hid (g < wr.heap.size ∧ g ≠ b3 ∧ g ≠ b) := by unfold Hid; have := HB4.out; have := HW.out; have := HLT.out; exact ⟨by omega, by omega, by omega⟩
        have S5 : Hid (Src (w5.drewN 1) g f S) := (SS.out.keep (w' := w5.drewN 1) ((bb.block g (Nat.lt_of_lt_of_le HG.out.1 L4.out.size) HG.out.2.1).trans (L4.out.block g HG.out.1)))
        have Z5 : Hid (g < (w5.drewN 1).heap.size) := Nat.lt_of_lt_of_le HG.out.1 (Nat.le_trans L4.out.size bb.size)
        have a5 : w5.drew.cell? ⟨b, 0, none⟩ = some v1 := H5.out.box.c0
        clear i5 bb
        refine wp_region_held_drew (S := fun w' => IBox w' b3 X2) (by kernel_rfl) I5.out (fun hHeld => ?_)
        refine wpAnyH_take (i := 0) (oi := { dst := some 38, op := Op.move (Operand.tmp 0), type := 85, pos := "prog.go:158", after := #[], guard := none }) (v := ?vao0) rfl (by kernel_rfl) (by kernel_rfl) (by kernel_rfl) (fun _ _ _ h => h) (Or.inl ⟨by rfl, ?hao0⟩) (by assumption) ?rao0
        case hao0 => (intro w hSw; (try dsimp only at hSw); go_simp; try with_reducible rfl)
        try simp only [Act.put, List.setIfInBounds_toArray, List.set_cons_zero, List.set_cons_succ]
        refine wpAnyH_take (i := 1) (oi := { dst := some 39, op := Op.move (Operand.tmp 0), type := 85, pos := "prog.go:158", after := #[], guard := none }) (v := ?vao1) rfl (by kernel_rfl) (by kernel_rfl) (by kernel_rfl) (fun _ _ _ h => h) (Or.inl ⟨by rfl, ?hao1⟩) (by assumption) ?rao1
        case hao1 => (intro w hSw; (try dsimp only at hSw); go_simp; try with_reducible rfl)
        try simp only [Act.put, List.setIfInBounds_toArray, List.set_cons_zero, List.set_cons_succ]
        refine wpAnyH_take (i := 2) (oi := { dst := some 40, op := Op.nilCheck (Operand.tmp 39), type := 0, pos := "prog.go:158", after := #[{ on := 1, ground := Ground.data }], guard := none }) (v := ?vao2) rfl (by kernel_rfl) (by kernel_rfl) (by kernel_rfl) (fun _ _ _ h => h) (Or.inl ⟨by rfl, ?hao2⟩) (by assumption) ?rao2
        case hao2 => (intro w hSw; (try dsimp only at hSw); go_simp; try with_reducible rfl)
        try simp only [Act.put, List.setIfInBounds_toArray, List.set_cons_zero, List.set_cons_succ]
        refine wpAnyH_take (i := 3) (oi := { dst := some 41, op := Op.fieldAddr 90 (Operand.tmp 40) 0, type := 0, pos := "prog.go:158", after := #[{ on := 2, ground := Ground.data }], guard := none }) (v := ?vao3) rfl (by kernel_rfl) (by kernel_rfl) (by kernel_rfl) (fun _ _ _ h => h) (Or.inl ⟨by rfl, ?hao3⟩) (by assumption) ?rao3
        case hao3 => (intro w hSw; (try dsimp only at hSw); go_simp; try with_reducible rfl)
        try simp only [Act.put, List.setIfInBounds_toArray, List.set_cons_zero, List.set_cons_succ]
        refine wpAnyH_take (i := 5) (oi := { dst := some 43, op := Op.load 62 (Operand.tmp 8), type := 62, pos := "prog.go:158", after := #[], guard := none }) (v := ?vao5) rfl (by kernel_rfl) (by kernel_rfl) (by kernel_rfl) (fun _ _ _ h => h) (Or.inl ⟨by rfl, ?hao5⟩) (by assumption) ?rao5
        case hao5 => (intro w hSw; (try dsimp only at hSw); refine run_load_ins (.tmp 8) ?_ ?_ hSw.cells <;> rfl)
        try simp only [Act.put, List.setIfInBounds_toArray, List.set_cons_zero, List.set_cons_succ]
        refine wpAnyH_ready (rs := [4, 6]) (by kernel_rfl) (by simp) ?_
        refine AllReadyH.cons (o := { dst := some 42, op := Op.load 32 (Operand.tmp 41), type := 32, pos := "prog.go:158", after := #[{ on := 3, ground := Ground.data }], guard := none }) rfl (fun K hK => ?_) (AllReadyH.cons (o := { dst := some 44, op := Op.buildSlice 32 1 #[(0, Operand.tmp 43)], type := 32, pos := "prog.go:158", after := #[{ on := 5, ground := Ground.data }], guard := none }) rfl (fun K hK => ?_) AllReadyH.nil)
        · go_simp
          skip
          go_wp2_with fail
          refine hK.out _ _ ?_ (fun hHeld => ?_)
          · exact I5.out
          clear hK K
          try simp only [Act.put, List.setIfInBounds_toArray, List.set_cons_zero, List.set_cons_succ]
          refine wpAnyH_ready (rs := [6]) (by kernel_rfl) (by simp) ?_
          refine AllReadyH.cons (o := { dst := some 44, op := Op.buildSlice 32 1 #[(0, Operand.tmp 43)], type := 32, pos := "prog.go:158", after := #[{ on := 5, ground := Ground.data }], guard := none }) rfl (fun K hK => ?_) AllReadyH.nil
          rw [if_pos (by rfl)]
          (refine wp_slice_ins (r := X2) (.tmp 43) rfl rfl ?_; intro w6 b6 e6 p6 l6 z6 o6; have P6 := Lib.hid p6; have L6 := Lib.hid l6; clear e6 p6 l6 z6 o6; have a6 := (H5.out.below L6.out).box.c0)
          refine hK.out _ _ ?_ (fun hHeld => ?_)
          · exact I5.out.below L6.out
          clear hK K
          try simp only [Act.put, List.setIfInBounds_toArray, List.set_cons_zero, List.set_cons_succ]
          refine wpAnyH_ready (rs := [7]) (by kernel_rfl) (by simp) ?_
          refine AllReadyH.cons (o := { dst := some 45, op := Op.call { callee := Callee.builtin Builtin.append, args := #[Operand.tmp 42, Operand.tmp 44], argTypes := #[32, 32] }, type := 32, pos := "prog.go:158", after := #[{ on := 4, ground := Ground.data }, { on := 6, ground := Ground.data }], guard := none }) rfl (fun K hK => ?_) AllReadyH.nil
          rw [if_pos (by rfl)]
          (refine wp_append_ins (.tmp 42) (.tmp 44) rfl rfl rfl (H5.out.below L6.out).own P6.out (by simp only [List.length_cons, List.length_nil]; have := HB.out; omega) (Nat.le_trans H5.out.box.lt L6.out.size) ?_; intro v7 w7 o7 p7; obtain ⟨g7, c7, rfl, -, -, -, -⟩ := own_form o7 (by simp); have R7 := Lib.hid (H5.out.more L6.out o7 p7); have O7 := Lib.hid p7; obtain ⟨q7, hq7⟩ : ∃ q7, (Lc ++ [X2]).length = q7 := ⟨_, rfl⟩; rw [hq7] at R7 O7 ⊢; clear hq7 o7 p7; have f7 := R7.out.1.free 0; have d7 := R7.out.1.c0)
          refine hK.out _ _ ?_ (fun hHeld => ?_)
          · exact ibox_put (I5.out.below L6.out) O7.out NB.out
          clear hK K
          try simp only [Act.put, List.setIfInBounds_toArray, List.set_cons_zero, List.set_cons_succ]
          refine wpAnyH_take (i := 8) (oi := { dst := some 46, op := Op.nilCheck (Operand.tmp 38), type := 0, pos := "prog.go:158", after := #[{ on := 0, ground := Ground.data }, { on := 0, ground := Ground.phase }, { on := 1, ground := Ground.phase }, { on := 2, ground := Ground.phase }, { on := 3, ground := Ground.phase }, { on := 4, ground := Ground.phase }, { on := 5, ground := Ground.phase }, { on := 6, ground := Ground.phase }, { on := 7, ground := Ground.phase }], guard := none }) (v := ?vap8) rfl (by kernel_rfl) (by kernel_rfl) (by kernel_rfl) (fun _ _ _ h => h) (Or.inl ⟨by rfl, ?hap8⟩) (by assumption) ?rap8
          case hap8 => (intro w hSw; (try dsimp only at hSw); go_simp; try with_reducible rfl)
          try simp only [Act.put, List.setIfInBounds_toArray, List.set_cons_zero, List.set_cons_succ]
          refine wpAnyH_take (i := 9) (oi := { dst := some 47, op := Op.fieldAddr 90 (Operand.tmp 46) 0, type := 0, pos := "prog.go:158", after := #[{ on := 8, ground := Ground.data }, { on := 0, ground := Ground.phase }, { on := 1, ground := Ground.phase }, { on := 2, ground := Ground.phase }, { on := 3, ground := Ground.phase }, { on := 4, ground := Ground.phase }, { on := 5, ground := Ground.phase }, { on := 6, ground := Ground.phase }, { on := 7, ground := Ground.phase }], guard := none }) (v := ?vap9) rfl (by kernel_rfl) (by kernel_rfl) (by kernel_rfl) (fun _ _ _ h => h) (Or.inl ⟨by rfl, ?hap9⟩) (by assumption) ?rap9
          case hap9 => (intro w hSw; (try dsimp only at hSw); go_simp; try with_reducible rfl)
          try simp only [Act.put, List.setIfInBounds_toArray, List.set_cons_zero, List.set_cons_succ]
          refine wpAnyH_ready (rs := [10]) (by kernel_rfl) (by simp) ?_
          refine AllReadyH.cons (o := { dst := none, op := Op.store 32 (Operand.tmp 47) (Operand.tmp 45), type := 0, pos := "prog.go:158", after := #[{ on := 9, ground := Ground.data }, { on := 7, ground := Ground.data }, { on := 7, ground := Ground.chain }, { on := 0, ground := Ground.phase }, { on := 1, ground := Ground.phase }, { on := 2, ground := Ground.phase }, { on := 3, ground := Ground.phase }, { on := 4, ground := Ground.phase }, { on := 5, ground := Ground.phase }, { on := 6, ground := Ground.phase }, { on := 7, ground := Ground.phase }], guard := none }) rfl (fun K hK => ?_) AllReadyH.nil
          go_simp
          skip
          go_wp2_with fail
          refine hK.out _ _ ?_ (fun hHeld => ?_)
          · exact (ibox_put (I5.out.below L6.out) O7.out NB.out).other HB3.out
          clear hK K
          try simp only [Act.put, List.setIfInBounds_toArray, List.set_cons_zero, List.set_cons_succ]
          refine wpAnyH_done (by kernel_rfl) ?_ _
          have H8 : Hid (Lay (w7.setCell ⟨b, 0, none⟩ (.slice (some ⟨g7, 0, none⟩) q7 c7)) b (.slice (some ⟨g7, 0, none⟩) q7 c7) (L ++ (S.take (i + 1)).map (shift d))) := by unfold Hid; rw [HM.out]; exact R7.out.2.1
          have G8 := Lib.hid (G5.out.trans R7.out.2.2)
          have S8 := Lib.hid ((S5.out.keep (w' := w6) (L6.out.block g Z5.out)).next (Nat.lt_of_lt_of_le Z5.out L6.out.size) HG.out.2.2 O7.out R7.out.2.1 (HS2.out X2))
          clear f7 d7 a6
          cases gk with
          | zero => exact absurd hig.out (by have := HI2.out; omega)
          | succ gk =>
            go_wp2_with fail
            go_roundg gk
            case measure => omega
            case rel => exact ⟨i + 1, _, by first | rfl | exact congrArg (Value.int .i64) hwi.out, by have := hig.out; unfold Hid; omega, H8, G8, S8⟩
        · rw [if_pos (by rfl)]
          (refine wp_slice_ins (r := X2) (.tmp 43) rfl rfl ?_; intro w6 b6 e6 p6 l6 z6 o6; have P6 := Lib.hid p6; have L6 := Lib.hid l6; clear e6 p6 l6 z6 o6; have a6 := (H5.out.below L6.out).box.c0)
          refine hK.out _ _ ?_ (fun hHeld => ?_)
          · exact I5.out.below L6.out
          clear hK K
          try simp only [Act.put, List.setIfInBounds_toArray, List.set_cons_zero, List.set_cons_succ]
          refine wpAnyH_ready (rs := [4]) (by kernel_rfl) (by simp) ?_
          refine AllReadyH.cons (o := { dst := some 42, op := Op.load 32 (Operand.tmp 41), type := 32, pos := "prog.go:158", after := #[{ on := 3, ground := Ground.data }], guard := none }) rfl (fun K hK => ?_) AllReadyH.nil
          go_simp
          skip
          go_wp2_with fail
          refine hK.out _ _ ?_ (fun hHeld => ?_)
          · exact I5.out.below L6.out
          clear hK K
          try simp only [Act.put, List.setIfInBounds_toArray, List.set_cons_zero, List.set_cons_succ]
          refine wpAnyH_ready (rs := [7]) (by kernel_rfl) (by simp) ?_
          refine AllReadyH.cons (o := { dst := some 45, op := Op.call { callee := Callee.builtin Builtin.append, args := #[Operand.tmp 42, Operand.tmp 44], argTypes := #[32, 32] }, type := 32, pos := "prog.go:158", after := #[{ on := 4, ground := Ground.data }, { on := 6, ground := Ground.data }], guard := none }) rfl (fun K hK => ?_) AllReadyH.nil
          rw [if_pos (by rfl)]
          (refine wp_append_ins (.tmp 42) (.tmp 44) rfl rfl rfl (H5.out.below L6.out).own P6.out (by simp only [List.length_cons, List.length_nil]; have := HB.out; omega) (Nat.le_trans H5.out.box.lt L6.out.size) ?_; intro v7 w7 o7 p7; obtain ⟨g7, c7, rfl, -, -, -, -⟩ := own_form o7 (by simp); have R7 := Lib.hid (H5.out.more L6.out o7 p7); have O7 := Lib.hid p7; obtain ⟨q7, hq7⟩ : ∃ q7, (Lc ++ [X2]).length = q7 := ⟨_, rfl⟩; rw [hq7] at R7 O7 ⊢; clear hq7 o7 p7; have f7 := R7.out.1.free 0; have d7 := R7.out.1.c0)
          refine hK.out _ _ ?_ (fun hHeld => ?_)
          · exact ibox_put (I5.out.below L6.out) O7.out NB.out
          clear hK K
          try simp only [Act.put, List.setIfInBounds_toArray, List.set_cons_zero, List.set_cons_succ]
          refine wpAnyH_take (i := 8) (oi := { dst := some 46, op := Op.nilCheck (Operand.tmp 38), type := 0, pos := "prog.go:158", after := #[{ on := 0, ground := Ground.data }, { on := 0, ground := Ground.phase }, { on := 1, ground := Ground.phase }, { on := 2, ground := Ground.phase }, { on := 3, ground := Ground.phase }, { on := 4, ground := Ground.phase }, { on := 5, ground := Ground.phase }, { on := 6, ground := Ground.phase }, { on := 7, ground := Ground.phase }], guard := none }) (v := ?vaq8) rfl (by kernel_rfl) (by kernel_rfl) (by kernel_rfl) (fun _ _ _ h => h) (Or.inl ⟨by rfl, ?haq8⟩) (by assumption) ?raq8
          case haq8 => (intro w hSw; (try dsimp only at hSw); go_simp; try with_reducible rfl)
          try simp only [Act.put, List.setIfInBounds_toArray, List.set_cons_zero, List.set_cons_succ]
          refine wpAnyH_take (i := 9) (oi := { dst := some 47, op := Op.fieldAddr 90 (Operand.tmp 46) 0, type := 0, pos := "prog.go:158", after := #[{ on := 8, ground := Ground.data }, { on := 0, ground := Ground.phase }, { on := 1, ground := Ground.phase }, { on := 2, ground := Ground.phase }, { on := 3, ground := Ground.phase }, { on := 4, ground := Ground.phase }, { on := 5, ground := Ground.phase }, { on := 6, ground := Ground.phase }, { on := 7, ground := Ground.phase }], guard := none }) (v := ?vaq9) rfl (by kernel_rfl) (by kernel_rfl) (by kernel_rfl) (fun _ _ _ h => h) (Or.inl ⟨by rfl, ?haq9⟩) (by assumption) ?raq9
          case haq9 => (intro w hSw; (try dsimp only at hSw); go_simp; try with_reducible rfl)
          try simp only [Act.put, List.setIfInBounds_toArray, List.set_cons_zero, List.set_cons_succ]
          refine wpAnyH_ready (rs := [10]) (by kernel_rfl) (by simp) ?_
          refine AllReadyH.cons (o := { dst := none, op := Op.store 32 (Operand.tmp 47) (Operand.tmp 45), type := 0, pos := "prog.go:158", after := #[{ on := 9, ground := Ground.data }, { on := 7, ground := Ground.data }, { on := 7, ground := Ground.chain }, { on := 0, ground := Ground.phase }, { on := 1, ground := Ground.phase }, { on := 2, ground := Ground.phase }, { on := 3, ground := Ground.phase }, { on := 4, ground := Ground.phase }, { on := 5, ground := Ground.phase }, { on := 6, ground := Ground.phase }, { on := 7, ground := Ground.phase }], guard := none }) rfl (fun K hK => ?_) AllReadyH.nil
          go_simp
          skip
          go_wp2_with fail
          refine hK.out _ _ ?_ (fun hHeld => ?_)
          · exact (ibox_put (I5.out.below L6.out) O7.out NB.out).other HB3.out
          clear hK K
          try simp only [Act.put, List.setIfInBounds_toArray, List.set_cons_zero, List.set_cons_succ]
          refine wpAnyH_done (by kernel_rfl) ?_ _
          have H8 : Hid (Lay (w7.setCell ⟨b, 0, none⟩ (.slice (some ⟨g7, 0, none⟩) q7 c7)) b (.slice (some ⟨g7, 0, none⟩) q7 c7) (L ++ (S.take (i + 1)).map (shift d))) := by unfold Hid; rw [HM.out]; exact R7.out.2.1
          have G8 := Lib.hid (G5.out.trans R7.out.2.2)
          have S8 := Lib.hid ((S5.out.keep (w' := w6) (L6.out.block g Z5.out)).next (Nat.lt_of_lt_of_le Z5.out L6.out.size) HG.out.2.2 O7.out R7.out.2.1 (HS2.out X2))
          clear f7 d7 a6
          cases gk with
          | zero => exact absurd hig.out (by have := HI2.out; omega)
          | succ gk =>
            go_wp2_with fail
            go_roundg gk
            case measure => omega
            case rel => exact ⟨i + 1, _, by first | rfl | exact congrArg (Value.int .i64) hwi.out, by have := hig.out; unfold Hid; omega, H8, G8, S8⟩
      · have tk : (kx == 6) = false := by simpa using hk
        rw [if_neg hk] at HM
        go_wp2_with (first
          | (refine load_ins rfl (.tmp 23) rfl rfl (r := ⟨kx, tx, x0, y0⟩) E1.out ?_)
          | (refine alloc_ins rfl rfl ?_; intro w3 b3 e3 p3 l3 z3)
          | (refine store_ins (r := ⟨kx, tx, x0, y0⟩) rfl (.tmp 8) (.tmp 24) rfl rfl rfl p3 ?_; intro w4 p4 l4 z4; have L4 := Lib.hid (two_new l3 l4 e3); have P4 := Lib.hid p4; have c0 := p4.c0; have c2 := p4.c2; have c3 := p4.c3; have f2 := p4.free 2; have f3 := p4.free 3; have HB4 := Lib.hid e3; clear e3 p3 l3 z3 p4 l4 z4; simp only at c0 c2 c3))
        obtain ⟨X2, hX2⟩ : ∃ X2 : Inst, (⟨kx, tx, xx, y0⟩ : Inst) = X2 := ⟨_, rfl⟩
        have i5 : IBox (w4.setCell ⟨b3, 2, none⟩ (.int .i64 xx)) b3 X2 := by rw [← hX2]; exact P4.out.put2 xx
        have bb : Beside b3 w4 (w4.setCell ⟨b3, 2, none⟩ (.int .i64 xx)) := (Beside.refl b3 w4).put 2 _
        rw [hX2] at HM
        clear c0 c2 c3 f2 f3 hX2 hwx hwy
        generalize (w4.setCell ⟨b3, 2, none⟩ (.int .i64 xx)) = w5 at i5 bb ⊢
        have D5 := Lib.hid (below_draws w5 1)
        have I5 : Hid (IBox (w5.drewN 1) b3 X2) := i5.below D5.out
        have HB3 : Hid (b3 ≠ b) := by unfold Hid; have := HL1.out.box.lt; have := HB4.out; omega
        have NB : Hid (v1.ownBlock ≠ some b3) := by intro q; have := (HL1.out.own_gt b3 q).2; have := HB4.out; omega
        have H5 := Lib.hid (((HL1.out.below L4.out).other bb HB3.out NB.out).below D5.out)
        have G5 := Lib.hid ((((GG.out.trans (Grow.of L4.out)).beside bb (by have := HB4.out; have := HW.out; omega)).trans (Grow.of D5.out)))
        have HG : Hid (g < wr.heap.size ∧ g ≠ b3 ∧ g ≠ b) := by unfold Hid; have := HB4.out; have := HW.out; have := HLT.out; exact ⟨by omega, by omega, by omega⟩
        have S5 : Hid (Src (w5.drewN 1) g f S) := (SS.out.keep (w' := w5.drewN 1) ((bb.block g (Nat.lt_of_lt_of_le HG.out.1 L4.out.size) HG.out.2.1).trans (L4.out.block g HG.out.1)))
        have Z5 : Hid (g < (w5.drewN 1).heap.size) := Nat.lt_of_lt_of_le HG.out.1 (Nat.le_trans L4.out.size bb.size)
        have a5 : w5.drew.cell? ⟨b, 0, none⟩ = some v1 := H5.out.box.c0
        clear i5 bb
        refine wp_region_held_drew (S := fun w' => IBox w' b3 X2) (by kernel_rfl) I5.out (fun hHeld => ?_)
        refine wpAnyH_take (i := 0) (oi := { dst := some 38, op := Op.move (Operand.tmp 0), type := 85, pos := "prog.go:158", after := #[], guard := none }) (v := ?vbo0) rfl (by kernel_rfl) (by kernel_rfl) (by kernel_rfl) (fun _ _ _ h => h) (Or.inl ⟨by rfl, ?hbo0⟩) (by assumption) ?rbo0
        case hbo0 => (intro w hSw; (try dsimp only at hSw); go_simp; try with_reducible rfl)
        try simp only [Act.put, List.setIfInBounds_toArray, List.set_cons_zero, List.set_cons_succ]
        refine wpAnyH_take (i := 1) (oi := { dst := some 39, op := Op.move (Operand.tmp 0), type := 85, pos := "prog.go:158", after := #[], guard := none }) (v := ?vbo1) rfl (by kernel_rfl) (by kernel_rfl) (by kernel_rfl) (fun _ _ _ h => h) (Or.inl ⟨by rfl, ?hbo1⟩) (by assumption) ?rbo1
        case hbo1 => (intro w hSw; (try dsimp only at hSw); go_simp; try with_reducible rfl)
        try simp only [Act.put, List.setIfInBounds_toArray, List.set_cons_zero, List.set_cons_succ]
        refine wpAnyH_take (i := 2) (oi := { dst := some 40, op := Op.nilCheck (Operand.tmp 39), type := 0, pos := "prog.go:158", after := #[{ on := 1, ground := Ground.data }], guard := none }) (v := ?vbo2) rfl (by kernel_rfl) (by kernel_rfl) (by kernel_rfl) (fun _ _ _ h => h) (Or.inl ⟨by rfl, ?hbo2⟩) (by assumption) ?rbo2
        case hbo2 => (intro w hSw; (try dsimp only at hSw); go_simp; try with_reducible rfl)
        try simp only [Act.put, List.setIfInBounds_toArray, List.set_cons_zero, List.set_cons_succ]
        refine wpAnyH_take (i := 3) (oi := { dst := some 41, op := Op.fieldAddr 90 (Operand.tmp 40) 0, type := 0, pos := "prog.go:158", after := #[{ on := 2, ground := Ground.data }], guard := none }) (v := ?vbo3) rfl (by kernel_rfl) (by kernel_rfl) (by kernel_rfl) (fun _ _ _ h => h) (Or.inl ⟨by rfl, ?hbo3⟩) (by assumption) ?rbo3
        case hbo3 => (intro w hSw; (try dsimp only at hSw); go_simp; try with_reducible rfl)
        try simp only [Act.put, List.setIfInBounds_toArray, List.set_cons_zero, List.set_cons_succ]
        refine wpAnyH_take (i := 5) (oi := { dst := some 43, op := Op.load 62 (Operand.tmp 8), type := 62, pos := "prog.go:158", after := #[], guard := none }) (v := ?vbo5) rfl (by kernel_rfl) (by kernel_rfl) (by kernel_rfl) (fun _ _ _ h => h) (Or.inl ⟨by rfl, ?hbo5⟩) (by assumption) ?rbo5
        case hbo5 => (intro w hSw; (try dsimp only at hSw); refine run_load_ins (.tmp 8) ?_ ?_ hSw.cells <;> rfl)
        try simp only [Act.put, List.setIfInBounds_toArray, List.set_cons_zero, List.set_cons_succ]
        refine wpAnyH_ready (rs := [4, 6]) (by kernel_rfl) (by simp) ?_
        refine AllReadyH.cons (o := { dst := some 42, op := Op.load 32 (Operand.tmp 41), type := 32, pos := "prog.go:158", after := #[{ on := 3, ground := Ground.data }], guard := none }) rfl (fun K hK => ?_) (AllReadyH.cons (o := { dst := some 44, op := Op.buildSlice 32 1 #[(0, Operand.tmp 43)], type := 32, pos := "prog.go:158", after := #[{ on := 5, ground := Ground.data }], guard := none }) rfl (fun K hK => ?_) AllReadyH.nil)
        · go_simp
          skip
          go_wp2_with fail
          refine hK.out _ _ ?_ (fun hHeld => ?_)
          · exact I5.out
          clear hK K
          try simp only [Act.put, List.setIfInBounds_toArray, List.set_cons_zero, List.set_cons_succ]
          refine wpAnyH_ready (rs := [6]) (by kernel_rfl) (by simp) ?_
          refine AllReadyH.cons (o := { dst := some 44, op := Op.buildSlice 32 1 #[(0, Operand.tmp 43)], type := 32, pos := "prog.go:158", after := #[{ on := 5, ground := Ground.data }], guard := none }) rfl (fun K hK => ?_) AllReadyH.nil
          rw [if_pos (by rfl)]
          (refine wp_slice_ins (r := X2) (.tmp 43) rfl rfl ?_; intro w6 b6 e6 p6 l6 z6 o6; have P6 := Lib.hid p6; have L6 := Lib.hid l6; clear e6 p6 l6 z6 o6; have a6 := (H5.out.below L6.out).box.c0)
          refine hK.out _ _ ?_ (fun hHeld => ?_)
          · exact I5.out.below L6.out
          clear hK K
          try simp only [Act.put, List.setIfInBounds_toArray, List.set_cons_zero, List.set_cons_succ]
          refine wpAnyH_ready (rs := [7]) (by kernel_rfl) (by simp) ?_
          refine AllReadyH.cons (o := { dst := some 45, op := Op.call { callee := Callee.builtin Builtin.append, args := #[Operand.tmp 42, Operand.tmp 44], argTypes := #[32, 32] }, type := 32, pos := "prog.go:158", after := #[{ on := 4, ground := Ground.data }, { on := 6, ground := Ground.data }], guard := none }) rfl (fun K hK => ?_) AllReadyH.nil
          rw [if_pos (by rfl)]
          (refine wp_append_ins (.tmp 42) (.tmp 44) rfl rfl rfl (H5.out.below L6.out).own P6.out (by simp only [List.length_cons, List.length_nil]; have := HB.out; omega) (Nat.le_trans H5.out.box.lt L6.out.size) ?_; intro v7 w7 o7 p7; obtain ⟨g7, c7, rfl, -, -, -, -⟩ := own_form o7 (by simp); have R7 := Lib.hid (H5.out.more L6.out o7 p7); have O7 := Lib.hid p7; obtain ⟨q7, hq7⟩ : ∃ q7, (Lc ++ [X2]).length = q7 := ⟨_, rfl⟩; rw [hq7] at R7 O7 ⊢; clear hq7 o7 p7; have f7 := R7.out.1.free 0; have d7 := R7.out.1.c0)
          refine hK.out _ _ ?_ (fun hHeld => ?_)
          · exact ibox_put (I5.out.below L6.out) O7.out NB.out
          clear hK K
          try simp only [Act.put, List.setIfInBounds_toArray, List.set_cons_zero, List.set_cons_succ]
          refine wpAnyH_take (i := 8) (oi := { dst := some 46, op := Op.nilCheck (Operand.tmp 38), type := 0, pos := "prog.go:158", after := #[{ on := 0, ground := Ground.data }, { on := 0, ground := Ground.phase }, { on := 1, ground := Ground.phase }, { on := 2, ground := Ground.phase }, { on := 3, ground := Ground.phase }, { on := 4, ground := Ground.phase }, { on := 5, ground := Ground.phase }, { on := 6, ground := Ground.phase }, { on := 7, ground := Ground.phase }], guard := none }) (v := ?vbp8) rfl (by kernel_rfl) (by kernel_rfl) (by kernel_rfl) (fun _ _ _ h => h) (Or.inl ⟨by rfl, ?hbp8⟩) (by assumption) ?rbp8
          case hbp8 => (intro w hSw; (try dsimp only at hSw); go_simp; try with_reducible rfl)
          try simp only [Act.put, List.setIfInBounds_toArray, List.set_cons_zero, List.set_cons_succ]
          refine wpAnyH_take (i := 9) (oi := { dst := some 47, op := Op.fieldAddr 90 (Operand.tmp 46) 0, type := 0, pos := "prog.go:158", after := #[{ on := 8, ground := Ground.data }, { on := 0, ground := Ground.phase }, { on := 1, ground := Ground.phase }, { on := 2, ground := Ground.phase }, { on := 3, ground := Ground.phase }, { on := 4, ground := Ground.phase }, { on := 5, ground := Ground.phase }, { on := 6, ground := Ground.phase }, { on := 7, ground := Ground.phase }], guard := none }) (v := ?vbp9) rfl (by kernel_rfl) (by kernel_rfl) (by kernel_rfl) (fun _ _ _ h => h) (Or.inl ⟨by rfl, ?hbp9⟩) (by assumption) ?rbp9
          case hbp9 => (intro w hSw; (try dsimp only at hSw); go_simp; try with_reducible rfl)
          try simp only [Act.put, List.setIfInBounds_toArray, List.set_cons_zero, List.set_cons_succ]
          refine wpAnyH_ready (rs := [10]) (by kernel_rfl) (by simp) ?_
          refine AllReadyH.cons (o := { dst := none, op := Op.store 32 (Operand.tmp 47) (Operand.tmp 45), type := 0, pos := "prog.go:158", after := #[{ on := 9, ground := Ground.data }, { on := 7, ground := Ground.data }, { on := 7, ground := Ground.chain }, { on := 0, ground := Ground.phase }, { on := 1, ground := Ground.phase }, { on := 2, ground := Ground.phase }, { on := 3, ground := Ground.phase }, { on := 4, ground := Ground.phase }, { on := 5, ground := Ground.phase }, { on := 6, ground := Ground.phase }, { on := 7, ground := Ground.phase }], guard := none }) rfl (fun K hK => ?_) AllReadyH.nil
          go_simp
          skip
          go_wp2_with fail
          refine hK.out _ _ ?_ (fun hHeld => ?_)
          · exact (ibox_put (I5.out.below L6.out) O7.out NB.out).other HB3.out
          clear hK K
          try simp only [Act.put, List.setIfInBounds_toArray, List.set_cons_zero, List.set_cons_succ]
          refine wpAnyH_done (by kernel_rfl) ?_ _
          have H8 : Hid (Lay (w7.setCell ⟨b, 0, none⟩ (.slice (some ⟨g7, 0, none⟩) q7 c7)) b (.slice (some ⟨g7, 0, none⟩) q7 c7) (L ++ (S.take (i + 1)).map (shift d))) := by unfold Hid; rw [HM.out]; exact R7.out.2.1
          have G8 := Lib.hid (G5.out.trans R7.out.2.2)
          have S8 := Lib.hid ((S5.out.keep (w' := w6) (L6.out.block g Z5.out)).next (Nat.lt_of_lt_of_le Z5.out L6.out.size) HG.out.2.2 O7.out R7.out.2.1 (HS2.out X2))
          clear f7 d7 a6
          cases gk with
          | zero => exact absurd hig.out (by have := HI2.out; omega)
          | succ gk =>
            go_wp2_with fail
            go_roundg gk
            case measure => omega
            case rel => exact ⟨i + 1, _, by first | rfl | exact congrArg (Value.int .i64) hwi.out, by have := hig.out; unfold Hid; omega, H8, G8, S8⟩
        · rw [if_pos (by rfl)]
          (refine wp_slice_ins (r := X2) (.tmp 43) rfl rfl ?_; intro w6 b6 e6 p6 l6 z6 o6; have P6 := Lib.hid p6; have L6 := Lib.hid l6; clear e6 p6 l6 z6 o6; have a6 := (H5.out.below L6.out).box.c0)
          refine hK.out _ _ ?_ (fun hHeld => ?_)
          · exact I5.out.below L6.out
          clear hK K
          try simp only [Act.put, List.setIfInBounds_toArray, List.set_cons_zero, List.set_cons_succ]
          refine wpAnyH_ready (rs := [4]) (by kernel_rfl) (by simp) ?_
          refine AllReadyH.cons (o := { dst := some 42, op := Op.load 32 (Operand.tmp 41), type := 32, pos := "prog.go:158", after := #[{ on := 3, ground := Ground.data }], guard := none }) rfl (fun K hK => ?_) AllReadyH.nil
          go_simp
          skip
          go_wp2_with fail
          refine hK.out _ _ ?_ (fun hHeld => ?_)
          · exact I5.out.below L6.out
          clear hK K
          try simp only [Act.put, List.setIfInBounds_toArray, List.set_cons_zero, List.set_cons_succ]
          refine wpAnyH_ready (rs := [7]) (by kernel_rfl) (by simp) ?_
          refine AllReadyH.cons (o := { dst := some 45, op := Op.call { callee := Callee.builtin Builtin.append, args := #[Operand.tmp 42, Operand.tmp 44], argTypes := #[32, 32] }, type := 32, pos := "prog.go:158", after := #[{ on := 4, ground := Ground.data }, { on := 6, ground := Ground.data }], guard := none }) rfl (fun K hK => ?_) AllReadyH.nil
          rw [if_pos (by rfl)]
          (refine wp_append_ins (.tmp 42) (.tmp 44) rfl rfl rfl (H5.out.below L6.out).own P6.out (by simp only [List.length_cons, List.length_nil]; have := HB.out; omega) (Nat.le_trans H5.out.box.lt L6.out.size) ?_; intro v7 w7 o7 p7; obtain ⟨g7, c7, rfl, -, -, -, -⟩ := own_form o7 (by simp); have R7 := Lib.hid (H5.out.more L6.out o7 p7); have O7 := Lib.hid p7; obtain ⟨q7, hq7⟩ : ∃ q7, (Lc ++ [X2]).length = q7 := ⟨_, rfl⟩; rw [hq7] at R7 O7 ⊢; clear hq7 o7 p7; have f7 := R7.out.1.free 0; have d7 := R7.out.1.c0)
          refine hK.out _ _ ?_ (fun hHeld => ?_)
          · exact ibox_put (I5.out.below L6.out) O7.out NB.out
          clear hK K
          try simp only [Act.put, List.setIfInBounds_toArray, List.set_cons_zero, List.set_cons_succ]
          refine wpAnyH_take (i := 8) (oi := { dst := some 46, op := Op.nilCheck (Operand.tmp 38), type := 0, pos := "prog.go:158", after := #[{ on := 0, ground := Ground.data }, { on := 0, ground := Ground.phase }, { on := 1, ground := Ground.phase }, { on := 2, ground := Ground.phase }, { on := 3, ground := Ground.phase }, { on := 4, ground := Ground.phase }, { on := 5, ground := Ground.phase }, { on := 6, ground := Ground.phase }, { on := 7, ground := Ground.phase }], guard := none }) (v := ?vbq8) rfl (by kernel_rfl) (by kernel_rfl) (by kernel_rfl) (fun _ _ _ h => h) (Or.inl ⟨by rfl, ?hbq8⟩) (by assumption) ?rbq8
          case hbq8 => (intro w hSw; (try dsimp only at hSw); go_simp; try with_reducible rfl)
          try simp only [Act.put, List.setIfInBounds_toArray, List.set_cons_zero, List.set_cons_succ]
          refine wpAnyH_take (i := 9) (oi := { dst := some 47, op := Op.fieldAddr 90 (Operand.tmp 46) 0, type := 0, pos := "prog.go:158", after := #[{ on := 8, ground := Ground.data }, { on := 0, ground := Ground.phase }, { on := 1, ground := Ground.phase }, { on := 2, ground := Ground.phase }, { on := 3, ground := Ground.phase }, { on := 4, ground := Ground.phase }, { on := 5, ground := Ground.phase }, { on := 6, ground := Ground.phase }, { on := 7, ground := Ground.phase }], guard := none }) (v := ?vbq9) rfl (by kernel_rfl) (by kernel_rfl) (by kernel_rfl) (fun _ _ _ h => h) (Or.inl ⟨by rfl, ?hbq9⟩) (by assumption) ?rbq9
          case hbq9 => (intro w hSw; (try dsimp only at hSw); go_simp; try with_reducible rfl)
          try simp only [Act.put, List.setIfInBounds_toArray, List.set_cons_zero, List.set_cons_succ]
          refine wpAnyH_ready (rs := [10]) (by kernel_rfl) (by simp) ?_
          refine AllReadyH.cons (o := { dst := none, op := Op.store 32 (Operand.tmp 47) (Operand.tmp 45), type := 0, pos := "prog.go:158", after := #[{ on := 9, ground := Ground.data }, { on := 7, ground := Ground.data }, { on := 7, ground := Ground.chain }, { on := 0, ground := Ground.phase }, { on := 1, ground := Ground.phase }, { on := 2, ground := Ground.phase }, { on := 3, ground := Ground.phase }, { on := 4, ground := Ground.phase }, { on := 5, ground := Ground.phase }, { on := 6, ground := Ground.phase }, { on := 7, ground := Ground.phase }], guard := none }) rfl (fun K hK => ?_) AllReadyH.nil
          go_simp
          skip
          go_wp2_with fail
          refine hK.out _ _ ?_ (fun hHeld => ?_)
          · exact (ibox_put (I5.out.below L6.out) O7.out NB.out).other HB3.out
          clear hK K
          try simp only [Act.put, List.setIfInBounds_toArray, List.set_cons_zero, List.set_cons_succ]
          refine wpAnyH_done (by kernel_rfl) ?_ _
          have H8 : Hid (Lay (w7.setCell ⟨b, 0, none⟩ (.slice (some ⟨g7, 0, none⟩) q7 c7)) b (.slice (some ⟨g7, 0, none⟩) q7 c7) (L ++ (S.take (i + 1)).map (shift d))) := by unfold Hid; rw [HM.out]; exact R7.out.2.1
          have G8 := Lib.hid (G5.out.trans R7.out.2.2)
          have S8 := Lib.hid ((S5.out.keep (w' := w6) (L6.out.block g Z5.out)).next (Nat.lt_of_lt_of_le Z5.out L6.out.size) HG.out.2.2 O7.out R7.out.2.1 (HS2.out X2))
          clear f7 d7 a6
          cases gk with
          | zero => exact absurd hig.out (by have := HI2.out; omega)
          | succ gk =>
            go_wp2_with fail
            go_roundg gk
            case measure => omega
            case rel => exact ⟨i + 1, _, by first | rfl | exact congrArg (Value.int .i64) hwi.out, by have := hig.out; unfold Hid; omega, H8, G8, S8⟩
    · have ti : ¬ (i : Int) < (n : Int) := by omega
      have hie : i = n := by have := hig.out; omega
      have HL2 : Hid (Lay wr b v1 (L ++ S.map (shift d))) := by
        have := HL1.out
        rw [hie, ← HB0.out.2.1, List.take_length] at this
        exact this
      clear hie hi
      go_wp2_with fail
      go_end0
      exact ⟨rfl, v1, HL2.out, GG.out⟩
end Go.Proofs.YtehdnbidgphecaaGreatDoor.W15
/-
  Layer 15 (prog), walks of the layer's again and of the function that it answers: the first call lays a piece's steps, each later one lays them once more. The conditions stand in the statements.
-/
namespace Go.Proofs.YtehdnbidgphecaaGreatDoor.W15
set_option maxRecDepth 100000
open Go Go.RowKit Go.Proofs.YtehdnbidgphecaaGreatDoor.Strs Go.Proofs.YtehdnbidgphecaaGreatDoor.Recs Go.Proofs.YtehdnbidgphecaaGreatDoor.M15
open Go.Proofs.YtehdnbidgphecaaGreatDoor.M14 (Piece size sizes)
open Go.Proofs.YtehdnbidgphecaaGreatDoor.W14 (Raw Raws rawA rawC PAt PAll PBox below_new cell_block own_same own_form box_arg load_piece two_new)
open Go.Proofs.YtehdnbidgphecaaGreatDoor.Row256 (Beside)
open Go.Proofs.YtehdnbidgphecaaGreatDoor.Kit (below_draws on)

set_option maxHeartbeats 2000000 in
theorem once_none {w : World} {b f : Nat} {v : Value} {L : List Inst} (h : Lay w b v L) (hf : f ≤ L.length) :
    Calls Tryz.prog 100 #[.pointer (some ⟨b, 0, none⟩), .int .i64 f, .int .i64 f] w (Laid b v w L) := by
  have H := Lib.hid h
  have HE := Lib.hid (here_any h)
  obtain ⟨A, c, rfl, hc1, hc2⟩ := h.form
  have a0 := h.box.c0
  obtain ⟨T, hT⟩ : ∃ T, L.length = T := ⟨_, rfl⟩
  rw [hT] at HE hc1 a0 hf
  unfold maxLen at hc2
  have t1 : f ≤ c := by omega
  clear h hT
  by_cases q : c = f
  · go_enter Tryz.func100, Tryz.ntmps100
    go_wp2_with fail
    refine HE.out.mono ?_
    rintro e' w1 ⟨rfl, rfl⟩
    go_wp2_with fail
    go_loopg [21] 1 (fun gk s21 wr => s21 = .int .i64 0 ∧ wr = w1)
    case atStart => exact ⟨rfl, rfl⟩
    case round =>
      obtain ⟨rfl, rfl⟩ := hrel
      go_wp2_with fail
      go_end0
      exact ⟨rfl, _, H.out, Grow.refl _ _ _⟩
  · go_enter Tryz.func100, Tryz.ntmps100
    go_wp2_with fail
    refine HE.out.mono ?_
    rintro e' w1 ⟨rfl, rfl⟩
    go_wp2_with fail
    go_loopg [21] 1 (fun gk s21 wr => s21 = .int .i64 0 ∧ wr = w1)
    case atStart => exact ⟨rfl, rfl⟩
    case round =>
      obtain ⟨rfl, rfl⟩ := hrel
      go_wp2_with fail
      go_end0
      exact ⟨rfl, _, H.out, Grow.refl _ _ _⟩
/-- what the function that again answers has caught: the layer, the piece, where its steps are, whether they are laid -/
structure Again (w : World) (b c2 c3 c5 c6 c7 : Nat) (r : Raw) (laid : Bool) (f e : Nat) : Prop where
  b2 : w.heap[c2]? = some (.cells #[.pointer (some ⟨b, 0, none⟩)] 85 (0, 0))
  b3 : PBox w c3 r
  b5 : w.heap[c5]? = some (.cells #[.int .i64 f] 3 (0, 0))
  b6 : w.heap[c6]? = some (.cells #[.int .i64 e] 3 (0, 0))
  b7 : w.heap[c7]? = some (.cells #[.bool laid] 4 (0, 0))
abbrev kidV (c2 c3 c5 c6 c7 : Nat) : Value := .func (.func 99) #[] #[.pointer (some ⟨c7, 0, none⟩), .pointer (some ⟨c2, 0, none⟩), .pointer (some ⟨c5, 0, none⟩), .pointer (some ⟨c6, 0, none⟩), .pointer (some ⟨c3, 0, none⟩)]
/-- the blocks lie apart -/
def Five (b c2 c3 c5 c6 c7 : Nat) : Prop := b < c2 ∧ c2 < c3 ∧ c3 < c5 ∧ c5 < c6 ∧ c6 < c7
section
variable {w w' w'' : World} {b c2 c3 c5 c6 c7 f e : Nat} {r : Raw} {laid : Bool} {v v' v'' : Value} {L : List Inst}
/-- but for the layer's box, the row of its steps, the three boxes and what is new, the world is as it was -/
structure Turn (b c5 c6 c7 : Nat) (v v' : Value) (w w' : World) : Prop where
  os : w'.os = w.os
  tape : w'.tape = w.tape
  output : w'.output = w.output
  size : w.heap.size ≤ w'.heap.size
  block : ∀ k, k < w.heap.size → k ≠ b → v.ownBlock ≠ some k → k ≠ c5 → k ≠ c6 → k ≠ c7 → w'.heap[k]? = w.heap[k]?
  own : ∀ k, v'.ownBlock = some k → v.ownBlock = some k ∨ w.heap.size ≤ k
theorem Turn.of (h : Grow b v v' w w') : Turn b c5 c6 c7 v v' w w' := ⟨h.os, h.tape, h.output, h.size, fun k h1 h2 h3 _ _ _ => h.block k h1 h2 h3, h.own⟩
theorem Turn.trans (h : Turn b c5 c6 c7 v v' w w') (k : Turn b c5 c6 c7 v' v'' w' w'') : Turn b c5 c6 c7 v v'' w w'' :=
  ⟨k.os.trans h.os, k.tape.trans h.tape, k.output.trans h.output, Nat.le_trans h.size k.size, fun i hi e1 e2 e3 e4 e5 => (k.block i (Nat.lt_of_lt_of_le hi h.size) e1 (fun q => by
    rcases h.own i q with q2 | q2
    · exact e2 q2
    · omega) e3 e4 e5).trans (h.block i hi e1 e2 e3 e4 e5), fun i hi => by
    rcases k.own i hi with q | q
    · exact h.own i q
    · exact Or.inr (Nat.le_trans h.size q)⟩
theorem Turn.put (w : World) (v : Value) (b : Nat) {c5 c6 c7 c : Nat} (hc : c = c5 ∨ c = c6 ∨ c = c7) (u : Value) : Turn b c5 c6 c7 v v w (w.setCell ⟨c, 0, none⟩ u) :=
  ⟨rfl, rfl, rfl, by rw [World.size_setCell]; exact Nat.le_refl _, fun k _ _ _ e3 e4 e5 => heap_setCell_other w _ k _ (show k ≠ c by omega), fun k hk => Or.inl hk⟩
/-- as one of the caller's steps: the boxes are the caller's own -/
theorem Grow.turn {w0 : World} (h : Grow b v v' w0 w) (k : Turn b c5 c6 c7 v' v'' w w') (h5 : w0.heap.size ≤ c5) (h6 : w0.heap.size ≤ c6) (h7 : w0.heap.size ≤ c7) : Grow b v v'' w0 w' :=
  ⟨k.os.trans h.os, k.tape.trans h.tape, k.output.trans h.output, Nat.le_trans h.size k.size, fun i hi e1 e2 => (k.block i (Nat.lt_of_lt_of_le hi h.size) e1 (fun q => by
    rcases h.own i q with q2 | q2
    · exact e2 q2
    · omega) (by omega) (by omega) (by omega)).trans (h.block i hi e1 e2), fun i hi => by
    rcases k.own i hi with q | q
    · exact h.own i q
    · exact Or.inr (Nat.le_trans h.size q)⟩
theorem other_type {c : Nat} {cs : Array Value} {t : TypeId} {fr : Nat × Nat} (hl : Lay w b v L) (h : w.heap[c]? = some (.cells cs t fr)) (ht : t ≠ 62) : v.ownBlock ≠ some c := by
  intro q
  obtain ⟨cur, h1⟩ := own_type hl.own q
  rw [h] at h1
  injection h1 with h1
  injection h1 with _ h1
  exact ht h1
theorem lt_of_block {c : Nat} {o : Obj} (h : w.heap[c]? = some o) : c < w.heap.size := (Array.getElem?_eq_some_iff.1 h).1
theorem Again.keep (h : Again w b c2 c3 c5 c6 c7 r laid f e) (hk : ∀ c o, w.heap[c]? = some o → (c = c2 ∨ c = c3 ∨ c = c5 ∨ c = c6 ∨ c = c7) → w'.heap[c]? = w.heap[c]?) : Again w' b c2 c3 c5 c6 c7 r laid f e :=
  ⟨(hk c2 _ h.b2 (by simp)).trans h.b2, (hk c3 _ h.b3 (by simp)).trans h.b3, (hk c5 _ h.b5 (by simp)).trans h.b5, (hk c6 _ h.b6 (by simp)).trans h.b6, (hk c7 _ h.b7 (by simp)).trans h.b7⟩
theorem Again.below (h : Again w b c2 c3 c5 c6 c7 r laid f e) (hb : Below w.heap.size w w') : Again w' b c2 c3 c5 c6 c7 r laid f e := h.keep fun c _ ho _ => hb.block c (lt_of_block ho)
theorem Again.not_own (h : Again w b c2 c3 c5 c6 c7 r laid f e) (hl : Lay w b v L) {c : Nat} (hc : c = c2 ∨ c = c3 ∨ c = c5 ∨ c = c6 ∨ c = c7) : v.ownBlock ≠ some c := by
  rcases hc with rfl | rfl | rfl | rfl | rfl
  · exact other_type hl h.b2 (by decide)
  · exact other_type hl h.b3 (by decide)
  · exact other_type hl h.b5 (by decide)
  · exact other_type hl h.b6 (by decide)
  · exact other_type hl h.b7 (by decide)
theorem Again.grow (h : Again w b c2 c3 c5 c6 c7 r laid f e) (h5 : Five b c2 c3 c5 c6 c7) (hl : Lay w b v L) (hg : Grow b v v' w w') : Again w' b c2 c3 c5 c6 c7 r laid f e :=
  h.keep fun c _ ho hc => hg.block c (lt_of_block ho) (by unfold Five at h5; omega) (h.not_own hl hc)
theorem Again.nums {base : Nat} {M : List Nat} {u u' : Value} (h : Again w b c2 c3 c5 c6 c7 r laid f e) (h5 : Five b c2 c3 c5 c6 c7) (hn : Nums base w u M) (hb : c7 < base) (hp : Put u u' w w') : Again w' b c2 c3 c5 c6 c7 r laid f e := by
  obtain ⟨-, -, -, -, g5⟩ := hp.grown
  exact h.keep fun c _ ho hc => g5 c (lt_of_block ho) (fun q => by have := (hn.lt c q.symm).1; unfold Five at h5; omega)
theorem Nums.turn {base : Nat} {M : List Nat} {u : Value} (hn : Nums base w u M) (h5 : Five b c2 c3 c5 c6 c7) (hb : c7 < base) (hl : Lay w b v L) (ht : Turn b c5 c6 c7 v v' w w') : Nums base w' u M :=
  own_block_same hn fun k hk => by
    have h1 := (hn.lt k hk).1
    unfold Five at h5
    exact ht.block k (hn.lt k hk).2 (by omega) (hn.apart hl hk) (by omega) (by omega) (by omega)
theorem Turn.piece (h : Turn b c5 c6 c7 v v' w w') (h5 : Five b c2 c3 c5 c6 c7) (hl : Lay w b v L) {r : Raw} {p : Piece} (hp : PAt (fun k => k < b) w r p) : PAt (fun k => k < b) w' r p :=
  hp.keep (fun _ q => q) fun a (q : a.block < b) => by
    unfold Five at h5
    exact cell_block (h.block _ (Nat.lt_trans q hl.box.lt) (by omega) (fun q2 => by have := (hl.own_gt _ q2).1; omega) (by omega) (by omega) (by omega))
theorem Turn.boxed (h : Turn b c5 c6 c7 v v' w w') (hl : Lay w b v L) {c : Nat} {r : Raw} (hp : PBox w c r) (h1 : c ≠ b) (h2 : c ≠ c5 ∧ c ≠ c6 ∧ c ≠ c7) : PBox w' c r :=
  (h.block c hp.lt h1 (other_type hl hp (by decide)) h2.1 h2.2.1 h2.2.2).trans hp
end
set_option maxHeartbeats 2000000 in
theorem again_any {w : World} {b : Nat} {r : Raw} (hb : b < w.heap.size) : Calls Tryz.prog 83 #[.pointer (some ⟨b, 0, none⟩), .agg (rawA r)] w (fun e w' => ∃ c2 c3 c5 c6 c7, e = .returned (kidV c2 c3 c5 c6 c7) ∧ w.heap.size ≤ c2 ∧ c7 < w'.heap.size ∧ Five b c2 c3 c5 c6 c7 ∧ Again w' b c2 c3 c5 c6 c7 r false 0 0 ∧ Below w.heap.size w w') := by
  have HB := Lib.hid hb
  clear hb
  go_enter Tryz.func83, Tryz.ntmps83
  go_wp2_with (first
    | (refine box_arg (r := r) rfl (.tmp 1) rfl rfl ?_; intro w1 b1 e1 p1 l1 z1; have P1 := Lib.hid p1; have L1 := Lib.hid l1; have E1 := Lib.hid e1; have Z1 := Lib.hid z1; clear e1 p1 l1 z1))
  go_ret
  have e1 := E1.out
  have z1 := Z1.out
  rw [World.size_alloc] at e1 z1
  have q0 := heap_alloc_new w (Obj.cells #[.pointer (some ⟨b, 0, none⟩)] 85)
  refine ⟨w.heap.size, b1, w1.heap.size, w1.heap.size + 1, w1.heap.size + 1 + 1, rfl, Nat.le_refl _, ?_, ⟨HB.out, by omega, by omega, by omega, by omega⟩, ⟨?_, ?_, ?_, ?_, ?_⟩, ?_⟩
  · simp only [World.size_alloc]; omega
  · rw [heap_alloc_old _ _ (by simp only [World.size_alloc]; omega), heap_alloc_old _ _ (by simp only [World.size_alloc]; omega), heap_alloc_old _ _ (by omega), L1.out.block _ (by rw [World.size_alloc]; omega)]
    exact q0
  · unfold PBox
    rw [heap_alloc_old _ _ (by simp only [World.size_alloc]; omega), heap_alloc_old _ _ (by simp only [World.size_alloc]; omega), heap_alloc_old _ _ (by omega)]
    exact P1.out
  · rw [heap_alloc_old _ _ (by simp only [World.size_alloc]; omega), heap_alloc_old _ _ (by simp only [World.size_alloc]; omega)]
    exact heap_alloc_new w1 _
  · rw [heap_alloc_old _ _ (by simp only [World.size_alloc]; omega)]
    have := heap_alloc_new (w1.alloc (Obj.cells #[.int .i64 0] 3)) (Obj.cells #[.int .i64 0] 3)
    rw [World.size_alloc] at this
    exact this
  · have := heap_alloc_new ((w1.alloc (Obj.cells #[.int .i64 0] 3)).alloc (Obj.cells #[.int .i64 0] 3)) (Obj.cells #[.bool false] 4)
    rw [World.size_alloc, World.size_alloc] at this
    exact this
  · have h1 : Below w.heap.size w w1 := (below_new w _).trans (L1.out.mono (by rw [World.size_alloc]; omega))
    exact ((h1.alloc h1.size _).alloc (by rw [World.size_alloc]; omega) _).alloc (by rw [World.size_alloc, World.size_alloc]; omega) _
end Go.Proofs.YtehdnbidgphecaaGreatDoor.W15
