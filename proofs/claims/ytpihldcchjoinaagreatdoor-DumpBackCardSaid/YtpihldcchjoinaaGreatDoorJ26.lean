/-
  Texts joined, in build order, each with its own comment and its own conditions: OpenNodes, W08Over, W12Tells, W12LawT, W07Does, W12None, W12Lays, W12LawL.
-/
import Derived.Test.YtpihldcchjoinaaGreatDoorJ01
import Derived.Test.YtpihldcchjoinaaGreatDoorJ08
import Derived.Test.YtpihldcchjoinaaGreatDoorJ16
import Derived.Test.YtpihldcchjoinaaGreatDoorJ13
import Derived.Test.YtpihldcchjoinaaGreatDoorJ03
import Derived.Test.YtpihldcchjoinaaGreatDoorJ21
import Derived.Test.YtpihldcchjoinaaGreatDoorJ04
import Derived.Deep.RegionHeld3
import Derived.Test.YtpihldcchjoinaaGreatDoorJ25
/-
  Arguments that are slices of layer 8's nodes, opened. For this program's types; no condition but those that each theorem bears.
-/
namespace Go.Proofs.YtpihldcchjoinaaGreatDoor.W08
open Go Go.RowKit Go.ChangeShapes Go.WideShapes Go.Deep Go.Joins
open Go.Proofs.YtpihldcchjoinaaGreatDoor.Strs (strV)
open Go.Proofs.YtpihldcchjoinaaGreatDoor.Recs
open Go.Proofs.YtpihldcchjoinaaGreatDoor.Kit (mk_bytes)

theorem sn_struct : ∃ f0 f1 f2 f3 : Field, Tryz.prog.underlying 61 = some (.struct #[f0, f1, f2, f3]) ∧ f0.type = 3 ∧ f1.type = 9 ∧ f2.type = 3 ∧ f3.type = 9 ∧ oneCellFields Tryz.prog #[f0, f1, f2, f3] = true :=
  ⟨_, _, _, _, Tryz.underlying61, rfl, rfl, rfl, rfl, by kernel_rfl⟩
theorem sn_cells : Tryz.prog.cellsOf 61 = 4 := by kernel_rfl
theorem four {α : Type} : ∀ {l : List α}, l.length = 4 → ∃ a b c d, l = [a, b, c, d]
  | [a, b, c, d], _ => ⟨a, b, c, d, rfl⟩
section
variable {H : Type} {enc : TypeId × Value → H} {W : World} {base : Nat}
theorem sn_read (n : Nat) (cs : List Value) (x : DataW H × List MemPlace) (hl : cs.length = 4) (h : DataW.trod enc Tryz.prog W 0 (fun _ => true) true n 61 cs = some x) : ∃ r : Sn, cs = snC r ∧ r.data.length ≤ maxLen := by
  obtain ⟨f0, f1, f2, f3, hs, e0, e1, e2, e3, hone⟩ := sn_struct
  obtain ⟨o0, k0⟩ := hone_of hone 0 f0 rfl
  obtain ⟨o1, k1⟩ := hone_of hone 1 f1 rfl
  obtain ⟨o2, k2⟩ := hone_of hone 2 f2 rfl
  obtain ⟨o3, k3⟩ := hone_of hone 3 f3 rfl
  obtain ⟨xs, m, _, _, _, hxl, hf⟩ := DataW.trod_struct hs h
  have hxl4 : xs.length = 4 := hxl
  have g0 := hf 0 f0 rfl
  have g1 := hf 1 f1 rfl
  have g2 := hf 2 f2 rfl
  have g3 := hf 3 f3 rfl
  rw [o0, k0, e0, List.getElem?_eq_getElem (by omega)] at g0
  rw [o1, k1, e1, List.getElem?_eq_getElem (by omega)] at g1
  rw [o2, k2, e2, List.getElem?_eq_getElem (by omega)] at g2
  rw [o3, k3, e3, List.getElem?_eq_getElem (by omega)] at g3
  obtain ⟨c0, c1, c2, c3, rfl⟩ := four hl
  obtain ⟨z0, q0, _, _⟩ := DataW.trod_int Tryz.underlying3 g0
  obtain ⟨s1, q1, _, _⟩ := DataW.trod_string Tryz.underlying9 g1
  obtain ⟨z2, q2, _, _⟩ := DataW.trod_int Tryz.underlying3 g2
  obtain ⟨s3, q3, _, hm⟩ := DataW.trod_string Tryz.underlying9 g3
  simp at q0 q1 q2 q3
  subst q0 q1 q2 q3
  refine ⟨⟨z0, s1.data.toList, z2, s3.data.toList⟩, ?_, by rw [← Lib.size_eq]; exact hm⟩
  show _ = [_, strV s1.data.toList, _, strV s3.data.toList]
  unfold strV
  rw [mk_bytes, mk_bytes]
set_option maxRecDepth 100000 in
theorem open_sns {v : Value} {d : DataW H} {p : List MemPlace} (hok : Value.okWide Tryz.prog W .any base 22 v) (h : DataW.Trod enc Tryz.prog W 0 (fun _ => true) true 22 v d p) (hlt : ∀ x ∈ p, x.block < W.heap.size) :
    ∃ L : List Sn, Snodes W.heap.size W v L ∧ ∀ r ∈ L, r.data.length ≤ maxLen :=
  open_recs Tryz.underlying22 sn_cells (by omega) sn_read hok h hlt
end
end Go.Proofs.YtpihldcchjoinaaGreatDoor.W08
/-
  Layer 8 (seek), walks of the laws SeekFinds, SeekReal and SeekNone over the contracts: each returns true; nothing that was there is changed. The conditions stand in the statements.
-/
namespace Go.Proofs.YtpihldcchjoinaaGreatDoor.W08
open Go Go.RowKit Go.Proofs.YtpihldcchjoinaaGreatDoor.Strs Go.Proofs.YtpihldcchjoinaaGreatDoor.Recs Go.Proofs.YtpihldcchjoinaaGreatDoor.Range
open Go.Proofs.YtpihldcchjoinaaGreatDoor.M07 (Tr Nd nodeAt inDir Right put put_right)
open Go.Proofs.YtpihldcchjoinaaGreatDoor.M08
open Go.Proofs.YtpihldcchjoinaaGreatDoor.M04 (text)
open Go.Proofs.YtpihldcchjoinaaGreatDoor.M03 (check)
open Go.Proofs.YtpihldcchjoinaaGreatDoor.W07 (Small Trees Nodes)
open Go.Proofs.YtpihldcchjoinaaGreatDoor.Kit (ret_str ret_bool ret_int mk_of mk_bytes ba_ext below_draws on)

end Go.Proofs.YtpihldcchjoinaaGreatDoor.W08
/-
  Layer 12 (dump), walk of the law DumpTells over the contracts: it returns true; nothing that was there is changed. The conditions stand in the statements.
-/
namespace Go.Proofs.YtpihldcchjoinaaGreatDoor.W12
set_option maxRecDepth 100000
open Go Go.RowKit Go.Shelf Go.Proofs.YtpihldcchjoinaaGreatDoor.Strs Go.Proofs.YtpihldcchjoinaaGreatDoor.Recs Go.Proofs.YtpihldcchjoinaaGreatDoor.Range
open Go.Proofs.YtpihldcchjoinaaGreatDoor.M12
open Go.Proofs.YtpihldcchjoinaaGreatDoor.M07 (Tr Nd nodeAt Right listDir height)
open Go.Proofs.YtpihldcchjoinaaGreatDoor.M08
open Go.Proofs.YtpihldcchjoinaaGreatDoor.W07 (Small Trees Nodes)
open Go.Proofs.YtpihldcchjoinaaGreatDoor.W08 (Sn Snodes snC snC_len isFew few_is few_any made made_good made_over RefBox)
open Go.Proofs.YtpihldcchjoinaaGreatDoor.W09 (Posix Within HandsT)
open Go.Proofs.YtpihldcchjoinaaGreatDoor.W11
open Go.Proofs.YtpihldcchjoinaaGreatDoor.Kit (ret_str ret_bool ret_int mk_of mk_bytes ba_ext below_draws on)

/-- a tree, and the plain one in its box -/
structure Held (Rep : (Nat → Prop) → World → Value → Tr → Prop) (F : Nat → Prop) (w W : World) (pv : Value) (T : Tr) (bx : Nat) (u : Value) : Prop where
  rep : Rep F W pv T
  nodes : Nodes W.heap.size W u T.L
  box : RefBox W bx u T.last
  below : Below w.heap.size w W
section
variable {Rep : (Nat → Prop) → World → Value → Tr → Prop} {F : Nat → Prop} {w W W' : World} {pv u : Value} {T : Tr} {bx : Nat}
theorem Held.on (C : Trees Rep) (h : Held Rep F w W pv T bx u) (hb : Below W.heap.size W W') : Held Rep F w W' pv T bx u :=
  ⟨C.below h.rep hb, (h.nodes.below hb).more hb.size, h.box.below hb, Kit.on h.below hb⟩
theorem Held.lt (h : Held Rep F w W pv T bx u) : bx < W.heap.size := World.block_lt_of_cell? W _ h.box.c0
/-- the plain tree is laid in a box -/
theorem Held.new (C : Trees Rep) (hr : Rep F W pv T) (hn : Nodes W.heap.size W u T.L) (hb : Below w.heap.size w W) (hw : W.alloc (.cells #[u, .int .i64 T.last] 28) = W') : Held Rep F w W' pv T W.heap.size u := by
  have ha : Below W.heap.size W W' := by rw [← hw]; exact (Below.refl _ _).alloc (Nat.le_refl _) _
  exact ⟨C.below hr ha, (hn.below ha).more ha.size, by rw [← hw]; exact RefBox.new _ _ _, Kit.on hb ha⟩
theorem box_hold {a0 a1 : Value} {w'' : World} (hl : bx < W.heap.size) (hS : W'.cell? ⟨bx, 0, none⟩ = some a0 ∧ W'.cell? ⟨bx, 1, none⟩ = some a1 ∧ Below W.heap.size W W') (hb : Below W'.heap.size W' w'') : w''.cell? ⟨bx, 0, none⟩ = some a0 ∧ w''.cell? ⟨bx, 1, none⟩ = some a1 ∧ Below W.heap.size W w'' := by
  have hs := hS.2.2.size
  exact ⟨(hb.cell (p := ⟨bx, 0, none⟩) (by show bx < _; omega)).trans hS.1, (hb.cell (p := ⟨bx, 1, none⟩) (by show bx < _; omega)).trans hS.2.1, Kit.on hS.2.2 hb⟩
theorem rows_same (va vb : Value) (L : List Rw) (B : Nat) (w : World) (ha : RowList B w va L) (hb : RowList B w vb L) : Calls Tryz.prog 13 #[va, vb] w fun e w' => e = .returned (.bool true) ∧ Below w.heap.size w w' :=
  (refSame_any va vb L L B w ha hb).mono fun e w' ⟨h1, n, h2⟩ => ⟨by rw [h1, decide_eq_true rfl], by rw [h2]; exact below_draws _ _⟩
theorem texts_same (va vb : Value) (L : List Bytes) (B : Nat) (w : World) (ha : Texts B w va L) (hb : Texts B w vb L) : Calls Tryz.prog 14 #[va, vb] w fun e w' => e = .returned (.bool true) ∧ Below w.heap.size w w' :=
  (W02.same_any va vb L L B w ha hb).mono fun e w' ⟨h1, n, h2⟩ => ⟨by rw [h1, decide_eq_true rfl], by rw [h2]; exact below_draws _ _⟩
theorem drew_after (w : World) (n : Nat) (w' : World) (h : w' = w.drewN n) : Below w.heap.size w w' := by rw [h]; exact below_draws _ _
set_option maxRecDepth 100000 in
set_option maxHeartbeats 16000000 in
theorem dumpTells_over (C : Trees Rep) (hf : ∀ {F w v t}, Rep F w v t → ∃ a, v = .pointer (some a)) (S : W08.Seeks Rep) (P : Posix Rep) (w : World) (v : Value) (L : List Sn) (h : Snodes w.heap.size w v L) (p : ByteArray) :
    Calls Tryz.prog 3 #[v, .string p] w fun e w' => e = .returned (.bool true) ∧ Below w.heap.size w w' := by
  obtain ⟨i0, hi, hz0, hz1, hz2⟩ := info_parts text_info
  have HFW := Lib.hid (few_any v L w.heap.size w h)
  have HL := Lib.hid (fun w' => lives12_over C hf S P w')
  have HH := Lib.hid h
  obtain ⟨A, c, rfl, -, -⟩ := h.form
  clear h
  generalize hm : L.length = m at *
  have lost : ∀ (_ : isFew L = false ∨ (2000 : Int) < p.size), True := fun _ => trivial
  clear lost
  cases hfw : isFew L with
  | false =>
    rw [hfw] at HFW
    clear hfw hm
    go_enter Tryz.func3, Tryz.ntmps3
    go_wp2_with fail
    refine HFW.out.mono ?_
    rintro e w1 ⟨rfl, hw⟩
    have hw := hw.symm
    subst hw
    go_wp2_with fail
    refine (HL.out _).mono ?_
    rintro e w2 ⟨rfl, hb⟩
    go_wp2_with fail
    go_ret
    exact ⟨rfl, hb⟩
  | true =>
    rw [hfw] at HFW
    obtain ⟨hd, hl⟩ := few_is hfw
    by_cases hp : (2000 : Int) < p.size
    · clear hfw hm hd hl
      go_enter Tryz.func3, Tryz.ntmps3
      go_wp2_with fail
      refine HFW.out.mono ?_
      rintro e w1 ⟨rfl, hw⟩
      have hw := hw.symm
      subst hw
      go_wp2_with fail
      refine (HL.out _).mono ?_
      rintro e w2 ⟨rfl, hb⟩
      go_wp2_with fail
      go_ret
      exact ⟨rfl, hb⟩
    · have hps : p.size ≤ 1048576 := by omega
      have HM := made_over C w (.slice A m c) L HH.out hl hd
      obtain ⟨hG, hR⟩ := made_good hl
      have HG := Lib.hid hG
      have HRT := Lib.hid hR
      generalize (made L).1 = T at *
      have HM := Lib.hid HM
      have hbl : (rowsAt T p.data.toList).1.length ≤ 1048576 := by
        unfold rowsAt
        split
        · exact Nat.zero_le _
        · exact Nat.le_trans (below_len T _) hG.small.1
      have HRW := Lib.hid (fun (F : Nat → Prop) (w' : World) (a : Addr) (h : Rep F w' (.pointer (some a)) T) => rows_any C S hG p hps w' h)
      have HPT := Lib.hid (fun (F : Nat → Prop) (w' : World) (a : Addr) (h : Rep F w' (.pointer (some a)) T) => paths_any (rows_any C S hG p hps w' h) hbl)
      have HAL := Lib.hid (fun (F : Nat → Prop) (w' : World) (a : Addr) (h : Rep F w' (.pointer (some a)) T) => all_any (rows_any C S hG ⟨#[47]⟩ (by decide) w' h))
      have HRR := Lib.hid (fun (u : Value) (w' : World) (hu : Nodes w'.heap.size w' u T.L) => refRows_any T hR hG.named hG.fit hG.small.1 u p w' hu)
      have HRA := Lib.hid (fun (u : Value) (w' : World) (hu : Nodes w'.heap.size w' u T.L) => refAll_any T hR hG.named hG.fit hG.small.1 u w' hu)
      have eAll : (rowsAt T (⟨#[47]⟩ : ByteArray).data.toList).1 = allOf T := rfl
      rw [eAll] at HAL
      generalize allOf T = RA at *
      generalize rowsAt T p.data.toList = R at *
      obtain ⟨M, fe⟩ := R
      simp only at hbl
      clear hfw hm hd hl hG hR eAll
      go_enter Tryz.func3, Tryz.ntmps3
      go_wp2_with fail
      refine HFW.out.mono ?_
      rintro e w1 ⟨rfl, hw⟩
      have hw := hw.symm
      subst hw
      go_wp2_with fail
      refine HM.out.mono ?_
      rintro e w2 ⟨pv, u, F, rfl, hrep, hn, -, hb⟩
      obtain ⟨va, rfl⟩ := hf hrep
      obtain ⟨Au, cu, rfl, -, -⟩ := hn.form
      obtain ⟨w3, hw3⟩ : ∃ w3, w2.alloc (.cells #[.slice Au T.L.length cu, .int .i64 T.last] 28) = w3 := ⟨_, rfl⟩
      have H3 := Held.new C hrep hn hb hw3
      obtain ⟨bx, hbx⟩ : ∃ b, w2.heap.size = b := ⟨_, rfl⟩
      rw [hbx] at H3
      have H3 := Lib.hid H3
      have Q1 := Lib.hid (HRW.out F w3 va H3.out.rep)
      clear hrep hn hb HM HFW HH
      go_wp2_with fail
      clear hw3 hbx
      refine Q1.out.mono ?_
      rintro e w4 ⟨v1, rfl, hv1, hb4⟩
      have H4 := Lib.hid (H3.out.on C hb4)
      have V1 := Lib.hid hv1
      have x0 := H4.out.box.c0
      have x1 := H4.out.box.c1
      have Q2 := Lib.hid (HRR.out _ w4 H4.out.nodes)
      clear hv1 hb4 H3 Q1
      go_wp2_with fail
      refine Q2.out.mono ?_
      rintro e w5 ⟨v2, rfl, hv2, hb5⟩
      have H5 := Lib.hid (H4.out.on C hb5)
      have V15 := Lib.hid ((V1.out.below hb5).more hb5.size)
      have V2 := Lib.hid hv2
      have Q3 := Lib.hid (HPT.out F w5 va H5.out.rep)
      clear hv2 hb5 H4 Q2 x0 x1 V1
      go_wp2_with fail
      refine Q3.out.mono ?_
      rintro e w6 ⟨v3, rfl, hv3, hb6⟩
      have H6 := Lib.hid (H5.out.on C hb6)
      have V16 := Lib.hid ((V15.out.below hb6).more hb6.size)
      have V26 := Lib.hid ((V2.out.below hb6).more hb6.size)
      have V36 := Lib.hid hv3
      obtain ⟨A2, c2, rfl, k1, k2⟩ := V26.out.form
      unfold maxLen at k2
      clear hv3 hb6 H5 Q3 V15 V2
      generalize hn : M.length = n at *
      have HN := Lib.hid hn
      clear hn
      go_wp2_with fail
      go_loopw [13, 14] (fun u i wr => ∃ (k : Nat) (out : List (List UInt8)), k ≤ n ∧ i = .int .i64 k ∧ out.length = k ∧ Hid (out = (M.take k).map Rw.path) ∧ Hid (wr.ownsRow w6.heap.size 9 1 u out.length (out.map strV)) ∧ Below w6.heap.size w6 wr) (fun _ i _ => n - (intOf i).toNat)
      case atStart => exact ⟨0, [], Nat.zero_le _, rfl, rfl, rfl, World.ownsRow_nil _ _ _ _, Below.refl _ _⟩
      case round =>
        obtain ⟨k, out, hk, rfl, hout, hr, hown, hb⟩ := hrel
        by_cases hlt : k < n
        · obtain ⟨b, o, hl1, s, x, rfl, hbl, hs, hx, hc0, hc1, hc2⟩ := RowList.at_ (V26.out.below hb) hlt
          have HX : Hid ((M.take (k + 1)).map Rw.path = out ++ [s.data.toList]) := by
            show _ = _
            rw [pathsOf_at hl1, ← hr.out, hs]
          have hbs := hb.size
          have a1 : out.length + 1 ≤ maxLen := by unfold maxLen; omega
          have a2 : (out.length + 1) * 16 ≤ 140737488355328 := by omega
          clear hs hx hc1 hc2
          go_wp2_with (at_builtin; refine wpList_append_own _ rfl (.tmp 53) (.tmp 59) 37 rfl w6.heap.size 9 i0 (.string ⟨#[]⟩) 1 16 Tryz.underlying37 hi hz0 hz1 hz2 rfl (by decide) _ _ _ rfl (hown.out.alloc _) ⟨_, 0, none⟩ 1 1 [.string s] rfl rfl (cell_one_new _ _ _) (by intro u hu; simp at hu; subst hu; rfl) a1 a2 (by simp; omega) ?_; intro v1 w7 hown1 hgrow1 _)
          have B2 := Lib.hid (below_more hb hown.out hgrow1)
          have O1 := Lib.hid (own_more hown1)
          clear hown1 hgrow1 a1 a2
          go_wp2
          go_roundw
          case rel => exact ⟨k + 1, _, by omega, by go_num, by rw [List.length_append, hout]; rfl, HX.symm, O1, B2.out⟩
          case measure => simp [intOf]; omega
        · have HX : Hid (out = M.map Rw.path) := hr.out.trans (by rw [List.take_of_length_le (by rw [HN.out]; omega)])
          have TW := Lib.hid (Texts.of_own hown.out)
          rw [HX.out] at TW
          have HR := Lib.hid (H6.out.on C hb)
          have V1 := Lib.hid ((V16.out.below hb).more hb.size)
          have V2 := Lib.hid ((V26.out.below hb).more hb.size)
          have V3 := Lib.hid ((V36.out.below hb).more hb.size)
          have r0 := HR.out.box.c0
          have r1 := HR.out.box.c1
          have hlx := HR.out.lt
          have S0 := Lib.hid (show wr.drew.cell? ⟨bx, 0, none⟩ = _ ∧ wr.drew.cell? ⟨bx, 1, none⟩ = _ ∧ Below wr.heap.size wr wr.drew from ⟨r0, r1, below_draws wr 1⟩)
          have HS1 := Lib.hid (fun (w' : World) (hb : Below wr.heap.size wr w') => rows_same v1 _ M wr.heap.size w' (V1.out.below hb) (V2.out.below hb))
          have HS2 := Lib.hid (fun (w' : World) (hb : Below wr.heap.size wr w') => texts_same v3 u13 (M.map Rw.path) wr.heap.size w' (V3.out.below hb) (TW.out.below hb))
          have HA1 := Lib.hid (fun (w' : World) (hb : Below wr.heap.size wr w') => HAL.out F w' va (C.below HR.out.rep hb))
          have HA2 := Lib.hid (fun (w' : World) (hb : Below wr.heap.size wr w') => HRA.out _ w' ((HR.out.nodes.below hb).more hb.size))
          have BR := Lib.hid HR.out.below
          clear HX hr hown hb H6 V16 V26 V36 HR V1 V2 V3 TW HRW HPT HAL HRR HRA hi hz0 hz1 hz2 hout HN
          go_wp2_with fail
          refine wp_region_held_drew (S := fun w' => w'.cell? ⟨bx, 0, none⟩ = some (.slice Au T.L.length cu) ∧ w'.cell? ⟨bx, 1, none⟩ = some (.int .i64 T.last) ∧ Below wr.heap.size wr w') (by kernel_rfl) S0.out (fun hHeld => ?_)
          refine wpAnyH_take (i := 0) (oi := { dst := some 61, op := Op.move (Operand.tmp 7), type := 31, pos := "law.go:36", after := #[], guard := none }) (v := ?va0) rfl (by kernel_rfl) (by kernel_rfl) (by kernel_rfl) (fun _ _ _ h => h) (Or.inl ⟨by rfl, ?ha0⟩) (by assumption) ?ra0
          case ha0 => (intro w hSw; (try dsimp only at hSw); go_simp; try with_reducible rfl)
          try simp only [Act.put, List.setIfInBounds_toArray, List.set_cons_zero, List.set_cons_succ]
          refine wpAnyH_take (i := 1) (oi := { dst := some 62, op := Op.move (Operand.tmp 9), type := 31, pos := "law.go:36", after := #[], guard := none }) (v := ?va1) rfl (by kernel_rfl) (by kernel_rfl) (by kernel_rfl) (fun _ _ _ h => h) (Or.inl ⟨by rfl, ?ha1⟩) (by assumption) ?ra1
          case ha1 => (intro w hSw; (try dsimp only at hSw); go_simp; try with_reducible rfl)
          try simp only [Act.put, List.setIfInBounds_toArray, List.set_cons_zero, List.set_cons_succ]
          refine wpAnyH_ready (rs := [2]) (by kernel_rfl) (by simp) ?_
          refine AllReadyH.cons (o := { dst := some 63, op := Op.call { callee := Callee.value (Operand.func 13), args := #[Operand.tmp 61, Operand.tmp 62], argTypes := #[31, 31] }, type := 4, pos := "law.go:36", after := #[{ on := 0, ground := Ground.data }, { on := 1, ground := Ground.data }], guard := none }) rfl (fun K hK => ?_) AllReadyH.nil
          go_simp
          (go_at_call 13; refine (HS1.out _ S0.out.2.2).mono ?_; rintro e x1 ⟨rfl, hb1⟩; have hS1 := box_hold hlx S0.out hb1; clear hb1)
          go_wp2_with fail
          refine hK.out _ _ ?_ (fun hHeld => ?_)
          · exact hS1
          clear hK K
          try simp only [Act.put, List.setIfInBounds_toArray, List.set_cons_zero, List.set_cons_succ]
          refine wpAnyH_take (i := 3) (oi := { dst := some 64, op := Op.move (Operand.tmp 63), type := 4, pos := "law.go:36", after := #[{ on := 2, ground := Ground.data }, { on := 2, ground := Ground.chain }], guard := none }) (v := ?va3) rfl (by kernel_rfl) (by kernel_rfl) (by kernel_rfl) (fun _ _ _ h => h) (Or.inl ⟨by rfl, ?ha3⟩) (by assumption) ?ra3
          case ha3 => (intro w hSw; (try dsimp only at hSw); go_simp; try with_reducible rfl)
          try simp only [Act.put, List.setIfInBounds_toArray, List.set_cons_zero, List.set_cons_succ]
          refine wpAnyH_take (i := 4) (oi := { dst := some 65, op := Op.move (Operand.tmp 8), type := 32, pos := "law.go:36", after := #[{ on := 3, ground := Ground.guard }], guard := some (3, true) }) (v := ?va4) rfl (by kernel_rfl) (by kernel_rfl) (by kernel_rfl) (fun _ _ _ h => h) (Or.inl ⟨by rfl, ?ha4⟩) (by assumption) ?ra4
          case ha4 => (intro w hSw; (try dsimp only at hSw); go_simp; try with_reducible rfl)
          try simp only [Act.put, List.setIfInBounds_toArray, List.set_cons_zero, List.set_cons_succ]
          refine wpAnyH_take (i := 5) (oi := { dst := some 66, op := Op.move (Operand.tmp 10), type := 3, pos := "law.go:36", after := #[{ on := 3, ground := Ground.guard }], guard := some (3, true) }) (v := ?va5) rfl (by kernel_rfl) (by kernel_rfl) (by kernel_rfl) (fun _ _ _ h => h) (Or.inl ⟨by rfl, ?ha5⟩) (by assumption) ?ra5
          case ha5 => (intro w hSw; (try dsimp only at hSw); go_simp; try with_reducible rfl)
          try simp only [Act.put, List.setIfInBounds_toArray, List.set_cons_zero, List.set_cons_succ]
          refine wpAnyH_take (i := 6) (oi := { dst := some 67, op := Op.binOp BinOp.eql 32 (Operand.tmp 65) (Operand.tmp 66) 32, type := 4, pos := "law.go:36", after := #[{ on := 4, ground := Ground.data }, { on := 5, ground := Ground.data }, { on := 3, ground := Ground.guard }], guard := some (3, true) }) (v := ?va6) rfl (by kernel_rfl) (by kernel_rfl) (by kernel_rfl) (fun _ _ _ h => h) (Or.inl ⟨by rfl, ?ha6⟩) (by assumption) ?ra6
          case ha6 => (intro w hSw; (try dsimp only at hSw); go_simp; try with_reducible rfl)
          try simp only [Act.put, List.setIfInBounds_toArray, List.set_cons_zero, List.set_cons_succ]
          refine wpAnyH_take (i := 7) (oi := { dst := some 68, op := Op.pick (Operand.tmp 64) (Operand.tmp 67) (Operand.const (Value.bool false)), type := 4, pos := "law.go:36", after := #[{ on := 3, ground := Ground.data }, { on := 6, ground := Ground.data }], guard := none }) (v := ?va7) rfl (by kernel_rfl) (by kernel_rfl) (by kernel_rfl) (fun _ _ _ h => h) (Or.inl ⟨by rfl, ?ha7⟩) (by assumption) ?ra7
          case ha7 => (intro w hSw; (try dsimp only at hSw); go_simp; try with_reducible rfl)
          try simp only [Act.put, List.setIfInBounds_toArray, List.set_cons_zero, List.set_cons_succ]
          refine wpAnyH_take (i := 8) (oi := { dst := some 69, op := Op.move (Operand.tmp 68), type := 4, pos := "law.go:36", after := #[{ on := 7, ground := Ground.data }, { on := 3, ground := Ground.chain }], guard := none }) (v := ?va8) rfl (by kernel_rfl) (by kernel_rfl) (by kernel_rfl) (fun _ _ _ h => h) (Or.inl ⟨by rfl, ?ha8⟩) (by assumption) ?ra8
          case ha8 => (intro w hSw; (try dsimp only at hSw); go_simp; try with_reducible rfl)
          try simp only [Act.put, List.setIfInBounds_toArray, List.set_cons_zero, List.set_cons_succ]
          refine wpAnyH_take (i := 9) (oi := { dst := some 70, op := Op.move (Operand.tmp 11), type := 37, pos := "law.go:36", after := #[{ on := 8, ground := Ground.guard }], guard := some (8, true) }) (v := ?va9) rfl (by kernel_rfl) (by kernel_rfl) (by kernel_rfl) (fun _ _ _ h => h) (Or.inl ⟨by rfl, ?ha9⟩) (by assumption) ?ra9
          case ha9 => (intro w hSw; (try dsimp only at hSw); go_simp; try with_reducible rfl)
          try simp only [Act.put, List.setIfInBounds_toArray, List.set_cons_zero, List.set_cons_succ]
          refine wpAnyH_take (i := 10) (oi := { dst := some 71, op := Op.move (Operand.tmp 13), type := 37, pos := "law.go:36", after := #[{ on := 8, ground := Ground.guard }], guard := some (8, true) }) (v := ?va10) rfl (by kernel_rfl) (by kernel_rfl) (by kernel_rfl) (fun _ _ _ h => h) (Or.inl ⟨by rfl, ?ha10⟩) (by assumption) ?ra10
          case ha10 => (intro w hSw; (try dsimp only at hSw); go_simp; try with_reducible rfl)
          try simp only [Act.put, List.setIfInBounds_toArray, List.set_cons_zero, List.set_cons_succ]
          refine wpAnyH_ready (rs := [11]) (by kernel_rfl) (by simp) ?_
          refine AllReadyH.cons (o := { dst := some 72, op := Op.call { callee := Callee.value (Operand.func 14), args := #[Operand.tmp 70, Operand.tmp 71], argTypes := #[37, 37] }, type := 4, pos := "law.go:36", after := #[{ on := 9, ground := Ground.data }, { on := 10, ground := Ground.data }, { on := 8, ground := Ground.chain }, { on := 8, ground := Ground.guard }], guard := some (8, true) }) rfl (fun K hK => ?_) AllReadyH.nil
          go_simp
          (go_at_call 14; refine (HS2.out x1 hS1.2.2).mono ?_; rintro e x2 ⟨rfl, hb2⟩; have hS2 := box_hold hlx hS1 hb2; clear hb2)
          go_wp2_with fail
          refine hK.out _ _ ?_ (fun hHeld => ?_)
          · exact hS2
          clear hK K
          try simp only [Act.put, List.setIfInBounds_toArray, List.set_cons_zero, List.set_cons_succ]
          refine wpAnyH_take (i := 12) (oi := { dst := some 73, op := Op.pick (Operand.tmp 69) (Operand.tmp 72) (Operand.const (Value.bool false)), type := 4, pos := "law.go:36", after := #[{ on := 8, ground := Ground.data }, { on := 11, ground := Ground.data }], guard := none }) (v := ?va12) rfl (by kernel_rfl) (by kernel_rfl) (by kernel_rfl) (fun _ _ _ h => h) (Or.inl ⟨by rfl, ?ha12⟩) (by assumption) ?ra12
          case ha12 => (intro w hSw; (try dsimp only at hSw); go_simp; try with_reducible rfl)
          try simp only [Act.put, List.setIfInBounds_toArray, List.set_cons_zero, List.set_cons_succ]
          refine wpAnyH_take (i := 13) (oi := { dst := some 74, op := Op.move (Operand.tmp 73), type := 4, pos := "law.go:36", after := #[{ on := 12, ground := Ground.data }, { on := 11, ground := Ground.chain }], guard := none }) (v := ?va13) rfl (by kernel_rfl) (by kernel_rfl) (by kernel_rfl) (fun _ _ _ h => h) (Or.inl ⟨by rfl, ?ha13⟩) (by assumption) ?ra13
          case ha13 => (intro w hSw; (try dsimp only at hSw); go_simp; try with_reducible rfl)
          try simp only [Act.put, List.setIfInBounds_toArray, List.set_cons_zero, List.set_cons_succ]
          refine wpAnyH_take (i := 14) (oi := { dst := some 75, op := Op.move (Operand.tmp 12), type := 32, pos := "law.go:36", after := #[{ on := 13, ground := Ground.guard }], guard := some (13, true) }) (v := ?va14) rfl (by kernel_rfl) (by kernel_rfl) (by kernel_rfl) (fun _ _ _ h => h) (Or.inl ⟨by rfl, ?ha14⟩) (by assumption) ?ra14
          case ha14 => (intro w hSw; (try dsimp only at hSw); go_simp; try with_reducible rfl)
          try simp only [Act.put, List.setIfInBounds_toArray, List.set_cons_zero, List.set_cons_succ]
          refine wpAnyH_take (i := 15) (oi := { dst := some 76, op := Op.move (Operand.tmp 8), type := 32, pos := "law.go:36", after := #[{ on := 13, ground := Ground.guard }], guard := some (13, true) }) (v := ?va15) rfl (by kernel_rfl) (by kernel_rfl) (by kernel_rfl) (fun _ _ _ h => h) (Or.inl ⟨by rfl, ?ha15⟩) (by assumption) ?ra15
          case ha15 => (intro w hSw; (try dsimp only at hSw); go_simp; try with_reducible rfl)
          try simp only [Act.put, List.setIfInBounds_toArray, List.set_cons_zero, List.set_cons_succ]
          refine wpAnyH_take (i := 16) (oi := { dst := some 77, op := Op.binOp BinOp.eql 32 (Operand.tmp 75) (Operand.tmp 76) 32, type := 4, pos := "law.go:36", after := #[{ on := 14, ground := Ground.data }, { on := 15, ground := Ground.data }, { on := 13, ground := Ground.guard }], guard := some (13, true) }) (v := ?va16) rfl (by kernel_rfl) (by kernel_rfl) (by kernel_rfl) (fun _ _ _ h => h) (Or.inl ⟨by rfl, ?ha16⟩) (by assumption) ?ra16
          case ha16 => (intro w hSw; (try dsimp only at hSw); go_simp; try with_reducible rfl)
          try simp only [Act.put, List.setIfInBounds_toArray, List.set_cons_zero, List.set_cons_succ]
          refine wpAnyH_take (i := 17) (oi := { dst := some 78, op := Op.pick (Operand.tmp 74) (Operand.tmp 77) (Operand.const (Value.bool false)), type := 4, pos := "law.go:36", after := #[{ on := 13, ground := Ground.data }, { on := 16, ground := Ground.data }], guard := none }) (v := ?va17) rfl (by kernel_rfl) (by kernel_rfl) (by kernel_rfl) (fun _ _ _ h => h) (Or.inl ⟨by rfl, ?ha17⟩) (by assumption) ?ra17
          case ha17 => (intro w hSw; (try dsimp only at hSw); go_simp; try with_reducible rfl)
          try simp only [Act.put, List.setIfInBounds_toArray, List.set_cons_zero, List.set_cons_succ]
          refine wpAnyH_take (i := 18) (oi := { dst := some 79, op := Op.move (Operand.tmp 78), type := 4, pos := "law.go:36", after := #[{ on := 17, ground := Ground.data }, { on := 13, ground := Ground.chain }], guard := none }) (v := ?va18) rfl (by kernel_rfl) (by kernel_rfl) (by kernel_rfl) (fun _ _ _ h => h) (Or.inl ⟨by rfl, ?ha18⟩) (by assumption) ?ra18
          case ha18 => (intro w hSw; (try dsimp only at hSw); go_simp; try with_reducible rfl)
          try simp only [Act.put, List.setIfInBounds_toArray, List.set_cons_zero, List.set_cons_succ]
          refine wpAnyH_take (i := 19) (oi := { dst := some 80, op := Op.move (Operand.tmp 5), type := 25, pos := "law.go:36", after := #[{ on := 18, ground := Ground.guard }], guard := some (18, true) }) (v := ?va19) rfl (by kernel_rfl) (by kernel_rfl) (by kernel_rfl) (fun _ _ _ h => h) (Or.inl ⟨by rfl, ?ha19⟩) (by assumption) ?ra19
          case ha19 => (intro w hSw; (try dsimp only at hSw); go_simp; try with_reducible rfl)
          try simp only [Act.put, List.setIfInBounds_toArray, List.set_cons_zero, List.set_cons_succ]
          refine wpAnyH_take (i := 21) (oi := { dst := some 82, op := Op.load 28 (Operand.tmp 6), type := 28, pos := "law.go:36", after := #[{ on := 18, ground := Ground.guard }], guard := some (18, true) }) (v := ?va21) rfl (by kernel_rfl) (by kernel_rfl) (by kernel_rfl) (fun _ _ _ h => h) (Or.inl ⟨by rfl, ?ha21⟩) (by assumption) ?ra21
          case ha21 => (intro w hSw; (try dsimp only at hSw); go_simp; try with_reducible rfl)
          try simp only [Act.put, List.setIfInBounds_toArray, List.set_cons_zero, List.set_cons_succ]
          refine wpAnyH_ready (rs := [20]) (by kernel_rfl) (by simp) ?_
          refine AllReadyH.cons (o := { dst := some 81, op := Op.call { callee := Callee.value (Operand.func 15), args := #[Operand.tmp 80], argTypes := #[25] }, type := 31, pos := "law.go:36", after := #[{ on := 19, ground := Ground.data }, { on := 18, ground := Ground.chain }, { on := 18, ground := Ground.guard }], guard := some (18, true) }) rfl (fun K hK => ?_) AllReadyH.nil
          go_simp
          (go_at_call 15; refine (HA1.out x2 hS2.2.2).mono ?_; rintro e x3 ⟨va3, rfl, hA3, hb3⟩; have hS3 := box_hold hlx hS2 hb3; have QA := Lib.hid hA3; clear hb3 hA3)
          go_wp2_with fail
          refine hK.out _ _ ?_ (fun hHeld => ?_)
          · exact hS3
          clear hK K
          try simp only [Act.put, List.setIfInBounds_toArray, List.set_cons_zero, List.set_cons_succ]
          refine wpAnyH_ready (rs := [22]) (by kernel_rfl) (by simp) ?_
          refine AllReadyH.cons (o := { dst := some 83, op := Op.call { callee := Callee.value (Operand.func 16), args := #[Operand.tmp 82], argTypes := #[28] }, type := 31, pos := "law.go:36", after := #[{ on := 21, ground := Ground.data }, { on := 20, ground := Ground.chain }, { on := 18, ground := Ground.guard }], guard := some (18, true) }) rfl (fun K hK => ?_) AllReadyH.nil
          go_simp
          (go_at_call 16; refine (HA2.out x3 hS3.2.2).mono ?_; rintro e x4 ⟨va4, rfl, hA4, hb4⟩; have hS4 := box_hold hlx hS3 hb4; have QB := Lib.hid hA4; have QA4 := Lib.hid ((QA.out.below hb4).more hb4.size); have HS3 := Lib.hid (rows_same va3 va4 RA x4.heap.size x4 QA4.out QB.out); clear hb4 hA4)
          go_wp2_with fail
          refine hK.out _ _ ?_ (fun hHeld => ?_)
          · exact hS4
          clear hK K
          try simp only [Act.put, List.setIfInBounds_toArray, List.set_cons_zero, List.set_cons_succ]
          refine wpAnyH_ready (rs := [23]) (by kernel_rfl) (by simp) ?_
          refine AllReadyH.cons (o := { dst := some 84, op := Op.call { callee := Callee.value (Operand.func 13), args := #[Operand.tmp 81, Operand.tmp 83], argTypes := #[31, 31] }, type := 4, pos := "law.go:36", after := #[{ on := 20, ground := Ground.data }, { on := 22, ground := Ground.data }, { on := 22, ground := Ground.chain }, { on := 18, ground := Ground.guard }], guard := some (18, true) }) rfl (fun K hK => ?_) AllReadyH.nil
          go_simp
          (go_at_call 13; refine HS3.out.mono ?_; rintro e x5 ⟨rfl, hb5⟩; have hS5 := box_hold hlx hS4 hb5; clear hb5)
          go_wp2_with fail
          refine hK.out _ _ ?_ (fun hHeld => ?_)
          · exact hS5
          clear hK K
          try simp only [Act.put, List.setIfInBounds_toArray, List.set_cons_zero, List.set_cons_succ]
          refine wpAnyH_take (i := 24) (oi := { dst := some 85, op := Op.pick (Operand.tmp 79) (Operand.tmp 84) (Operand.const (Value.bool false)), type := 4, pos := "law.go:36", after := #[{ on := 18, ground := Ground.data }, { on := 23, ground := Ground.data }], guard := none }) (v := ?va24) rfl (by kernel_rfl) (by kernel_rfl) (by kernel_rfl) (fun _ _ _ h => h) (Or.inl ⟨by rfl, ?ha24⟩) (by assumption) ?ra24
          case ha24 => (intro w hSw; (try dsimp only at hSw); go_simp; try with_reducible rfl)
          try simp only [Act.put, List.setIfInBounds_toArray, List.set_cons_zero, List.set_cons_succ]
          refine wpAnyH_take (i := 25) (oi := { dst := some 86, op := Op.move (Operand.tmp 85), type := 4, pos := "law.go:36", after := #[{ on := 24, ground := Ground.data }, { on := 23, ground := Ground.chain }], guard := none }) (v := ?va25) rfl (by kernel_rfl) (by kernel_rfl) (by kernel_rfl) (fun _ _ _ h => h) (Or.inl ⟨by rfl, ?ha25⟩) (by assumption) ?ra25
          case ha25 => (intro w hSw; (try dsimp only at hSw); go_simp; try with_reducible rfl)
          try simp only [Act.put, List.setIfInBounds_toArray, List.set_cons_zero, List.set_cons_succ]
          refine wpAnyH_ready (rs := [26]) (by kernel_rfl) (by simp) ?_
          refine AllReadyH.cons (o := { dst := some 87, op := Op.call { callee := Callee.value (Operand.func 8), args := #[], argTypes := #[] }, type := 4, pos := "law.go:36", after := #[{ on := 25, ground := Ground.chain }, { on := 25, ground := Ground.guard }], guard := some (25, true) }) rfl (fun K hK => ?_) AllReadyH.nil
          go_simp
          (go_at_call 8; refine (HL.out x5).mono ?_; rintro e x6 ⟨rfl, hb6⟩; have hS6 := box_hold hlx hS5 hb6; clear hb6)
          go_wp2_with fail
          refine hK.out _ _ ?_ (fun hHeld => ?_)
          · exact hS6
          clear hK K
          try simp only [Act.put, List.setIfInBounds_toArray, List.set_cons_zero, List.set_cons_succ]
          refine wpAnyH_take (i := 27) (oi := { dst := some 88, op := Op.pick (Operand.tmp 86) (Operand.tmp 87) (Operand.const (Value.bool false)), type := 4, pos := "law.go:36", after := #[{ on := 25, ground := Ground.data }, { on := 26, ground := Ground.data }], guard := none }) (v := ?va27) rfl (by kernel_rfl) (by kernel_rfl) (by kernel_rfl) (fun _ _ _ h => h) (Or.inl ⟨by rfl, ?ha27⟩) (by assumption) ?ra27
          case ha27 => (intro w hSw; (try dsimp only at hSw); go_simp; try with_reducible rfl)
          try simp only [Act.put, List.setIfInBounds_toArray, List.set_cons_zero, List.set_cons_succ]
          refine wpAnyH_take (i := 28) (oi := { dst := some 4, op := Op.assign (Operand.tmp 88), type := 4, pos := "law.go:36", after := #[{ on := 27, ground := Ground.data }, { on := 26, ground := Ground.chain }, { on := 0, ground := Ground.phase }, { on := 1, ground := Ground.phase }, { on := 2, ground := Ground.phase }, { on := 3, ground := Ground.phase }, { on := 4, ground := Ground.phase }, { on := 5, ground := Ground.phase }, { on := 6, ground := Ground.phase }, { on := 7, ground := Ground.phase }, { on := 8, ground := Ground.phase }, { on := 9, ground := Ground.phase }, { on := 10, ground := Ground.phase }, { on := 11, ground := Ground.phase }, { on := 12, ground := Ground.phase }, { on := 13, ground := Ground.phase }, { on := 14, ground := Ground.phase }, { on := 15, ground := Ground.phase }, { on := 16, ground := Ground.phase }, { on := 17, ground := Ground.phase }, { on := 18, ground := Ground.phase }, { on := 19, ground := Ground.phase }, { on := 20, ground := Ground.phase }, { on := 21, ground := Ground.phase }, { on := 22, ground := Ground.phase }, { on := 23, ground := Ground.phase }, { on := 24, ground := Ground.phase }, { on := 25, ground := Ground.phase }, { on := 26, ground := Ground.phase }, { on := 27, ground := Ground.phase }], guard := none }) (v := ?va28) rfl (by kernel_rfl) (by kernel_rfl) (by kernel_rfl) (fun _ _ _ h => h) (Or.inl ⟨by rfl, ?ha28⟩) (by assumption) ?ra28
          case ha28 => (intro w hSw; (try dsimp only at hSw); go_simp; try with_reducible rfl)
          try simp only [Act.put, List.setIfInBounds_toArray, List.set_cons_zero, List.set_cons_succ]
          refine wpAnyH_done (by kernel_rfl) ?_ _
          have BX := Lib.hid (on BR.out hS6.2.2)
          go_wp2_with fail
          go_ret
          exact ⟨rfl, BX.out⟩
end
end Go.Proofs.YtpihldcchjoinaaGreatDoor.W12
/-
  Layer 12 (dump): the landed code keeps the contracts that the law DumpTells asks; so the law holds. Conditions: none but those that the theorem bears.
-/
namespace Go.Proofs.YtpihldcchjoinaaGreatDoor.W12
open Go Go.RowKit Go.Proofs.YtpihldcchjoinaaGreatDoor.Strs Go.Proofs.YtpihldcchjoinaaGreatDoor.Recs
open Go.Proofs.YtpihldcchjoinaaGreatDoor.M12
open Go.Proofs.YtpihldcchjoinaaGreatDoor.W11
open Go.Proofs.YtpihldcchjoinaaGreatDoor.W08 (Sn Snodes)

theorem dumpTells_law (w : World) (v : Value) (L : List Sn) (h : Snodes w.heap.size w v L) (p : ByteArray) (_ : p.size ≤ 140737488351232) :
    Calls Tryz.prog 3 #[v, .string p] w fun e w' => e = .returned (.bool true) ∧ Below w.heap.size w w' := dumpTells_over W07.trees full_tree W08.seeks W09.posix w v L h p
end Go.Proofs.YtpihldcchjoinaaGreatDoor.W12
/-
  Layer 7 (tree), a walk of the law TreeDoes over the contracts: it returns true, at every list of acts; nothing that was there is changed.
-/
namespace Go.Proofs.YtpihldcchjoinaaGreatDoor.W07
open Go Go.RowKit Go.Proofs.YtpihldcchjoinaaGreatDoor.Strs Go.Proofs.YtpihldcchjoinaaGreatDoor.Recs Go.Proofs.YtpihldcchjoinaaGreatDoor.M07 Go.Proofs.YtpihldcchjoinaaGreatDoor.Range
open Go.Proofs.YtpihldcchjoinaaGreatDoor.Kit (ret_str ret_bool ret_int mk_of mk_bytes ba_ext below_draws on)

end Go.Proofs.YtpihldcchjoinaaGreatDoor.W07
/-
  Layer 12 (dump), a walk: layer 7's empty plain tree; nothing that was there is changed.
-/
namespace Go.Proofs.YtpihldcchjoinaaGreatDoor.W12
set_option maxRecDepth 100000
open Go Go.RowKit Go.Shelf Go.Proofs.YtpihldcchjoinaaGreatDoor.Strs Go.Proofs.YtpihldcchjoinaaGreatDoor.Recs Go.Proofs.YtpihldcchjoinaaGreatDoor.Range
open Go.Proofs.YtpihldcchjoinaaGreatDoor.M07 (Tr Nd nodeAt Right listDir height)
open Go.Proofs.YtpihldcchjoinaaGreatDoor.W07 (Nodes TreeBox heap_top refNew_any nodes_turns turns_box Off results_cell_one)
open Go.Proofs.YtpihldcchjoinaaGreatDoor.W11 (below_box)
open Go.Proofs.YtpihldcchjoinaaGreatDoor.Kit (ret_str ret_bool ret_int mk_of mk_bytes ba_ext below_draws on)

set_option maxHeartbeats 1000000 in
theorem none_any (w : World) : Calls Tryz.prog 21 #[] w fun e w' => ∃ u, e = .returned (.agg #[u, .int .i64 M07.new.last]) ∧ Nodes w'.heap.size w' u M07.new.L ∧ Below w.heap.size w w' := by
  obtain ⟨w1, hw1⟩ : ∃ w1, w.alloc (.cells #[.slice none 0 0, .int .i64 0] 28) = w1 := ⟨_, rfl⟩
  have hb1 : Below w.heap.size w w1 := by rw [← hw1]; exact below_box w _
  have TB : TreeBox w1 w.heap.size (.slice none 0 0) 0 := by rw [← hw1]; exact heap_top _ _
  have HN := Lib.hid (refNew_any w1)
  have hs1 : w.heap.size < w1.heap.size := TB.lt
  go_enter Tryz.func21, Tryz.ntmps21
  go_wp2_with fail
  clear hw1
  refine HN.out.mono ?_
  rintro e w2 ⟨u, rfl, hn, hb2, g, n, c, rfl, hg⟩
  have T2 := TB.below hb2
  have r0 := T2.c0
  have r1 := T2.c1
  have z0 := T2.fr 0
  have z1 := T2.fr 1
  have HND := Lib.hid hn
  have HB := Lib.hid (on hb1 hb2)
  obtain ⟨w3, hw3⟩ : ∃ w3, (w2.setCell ⟨w.heap.size, 0, none⟩ (.slice (some ⟨g, 0, none⟩) n c)).setCell ⟨w.heap.size, 1, none⟩ (.int .i64 M07.new.last) = w3 := ⟨_, rfl⟩
  have t3 : Turns (fun i => i = w.heap.size) w2 w3 := by rw [← hw3]; exact turns_box _ _ _ _
  have N3 := Lib.hid ((nodes_turns hn t3 (fun b o n' c' e => by cases e; show ¬ g = w.heap.size; omega)).more t3.size)
  have B3 := Lib.hid (HB.out.trans (t3.below (fun k hk => by rw [hk]; exact Nat.le_refl _) HB.out.size))
  have T3 : TreeBox w3 w.heap.size (.slice (some ⟨g, 0, none⟩) n c) M07.new.last := by rw [← hw3]; exact W07.set_heap (W07.set_heap T2 0 _) 1 _
  have q0 := T3.c0
  have q1 : w3.cell? ⟨w.heap.size, 1, none⟩ = some (.int .i64 1) := T3.c1
  clear hn hb2 T2 t3 T3
  go_wp2_with fail
  refine bodyPost_ret_by (v := .agg #[.slice (some ⟨g, 0, none⟩) n c, .int .i64 1]) ?_ rfl ⟨_, rfl, ?_, ?_⟩
  · rw [results_cell_one rfl]
    go_simp
  · first | exact N3.out | (rw [hw3]; exact N3.out)
  · first | exact B3.out | (rw [hw3]; exact B3.out)
end Go.Proofs.YtpihldcchjoinaaGreatDoor.W12
/-
  Layer 12 (dump), walk of the law DumpLays over the contracts: it returns true; nothing that was there is changed. The conditions stand in the statements.
-/
namespace Go.Proofs.YtpihldcchjoinaaGreatDoor.W12
set_option maxRecDepth 100000
open Go Go.RowKit Go.Shelf Go.Proofs.YtpihldcchjoinaaGreatDoor.Strs Go.Proofs.YtpihldcchjoinaaGreatDoor.Recs Go.Proofs.YtpihldcchjoinaaGreatDoor.Range
open Go.Proofs.YtpihldcchjoinaaGreatDoor.M12
open Go.Proofs.YtpihldcchjoinaaGreatDoor.M07 (Tr Nd nodeAt Right listDir height)
open Go.Proofs.YtpihldcchjoinaaGreatDoor.M08
open Go.Proofs.YtpihldcchjoinaaGreatDoor.W07 (Small Trees Nodes Wrote Off nodes_turns same_tree)
open Go.Proofs.YtpihldcchjoinaaGreatDoor.W08 (Sn Snodes snC snC_len isFew few_is few_any made made_good made_over made_over3 RefBox)
open Go.Proofs.YtpihldcchjoinaaGreatDoor.W09 (Posix Within HandsT made_within)
open Go.Proofs.YtpihldcchjoinaaGreatDoor.W11
open Go.Proofs.YtpihldcchjoinaaGreatDoor.Kit (ret_str ret_bool ret_int mk_of mk_bytes ba_ext below_draws on)

theorem lay_within : ∀ (l : List Rw) {t : Tr} {n i : Nat}, Within t n → Within (lay t i l).1 (n + l.length)
  | [], t, n, i, h => h
  | x :: l, t, n, i, h => by
    unfold lay
    split
    · exact h.more (by simp)
    · have := lay_within l (i := i + 1) (h.next (kept_makeOn t x))
      exact this.more (by simp only [List.length_cons]; omega)
def shortTo (l : List Rw) (k : Nat) : Prop := ∀ x ∈ l.take k, x.path.length ≤ 6000 ∧ x.data.length ≤ 6000
theorem short_next {l : List Rw} {k : Nat} (hk : k < l.length) (h : shortTo l k) (h1 : (l[k]).path.length ≤ 6000) (h2 : (l[k]).data.length ≤ 6000) : shortTo l (k + 1) := by
  intro x hx
  rw [List.take_succ_eq_append_getElem hk] at hx
  rcases List.mem_append.1 hx with hx | hx
  · exact h x hx
  · rw [List.mem_singleton.1 hx]; exact ⟨h1, h2⟩
section
variable {Rep : (Nat → Prop) → World → Value → Tr → Prop}
set_option maxRecDepth 100000 in
set_option maxHeartbeats 16000000 in
theorem dumpLays_over (C : Trees Rep) (hf : ∀ {F w v t}, Rep F w v t → ∃ a, v = .pointer (some a)) (S : W08.Seeks Rep) (P : Posix Rep) (w : World) (v y : Value) (L : List Sn) (h : Snodes w.heap.size w v L) (X : List Rw) (hX : RowList w.heap.size w y X) :
    Calls Tryz.prog 4 #[v, y] w fun e w' => e = .returned (.bool true) ∧ Below w.heap.size w w' := by
  have HFW := Lib.hid (few_any v L w.heap.size w h)
  have HL := Lib.hid (fun w' => lives12_over C hf S P w')
  have HH := Lib.hid h
  have HX := Lib.hid hX
  have HOF : Hid (∀ F : Nat → Prop, (∀ k, F k → w.heap.size ≤ k) → 0 < X.length → Off F y) := fun F hF h0 => by
    obtain ⟨A, c, rfl, h1, h2⟩ := hX.form
    obtain ⟨b, o, _, _, _, rfl, hb, _⟩ := RowList.at_ hX h0
    intro b' o' n' c' e hk
    cases e
    have := hF _ hk
    omega
  obtain ⟨A, c, rfl, -, -⟩ := h.form
  obtain ⟨A2, c2, rfl, hk1, hk2⟩ := hX.form
  unfold maxLen at hk2
  clear h hX
  generalize hm : L.length = m at *
  have HM0 := Lib.hid hm
  generalize hq : X.length = q at *
  have HQ := Lib.hid hq
  clear hq hm
  go_enter Tryz.func4, Tryz.ntmps4
  go_wp2_with fail
  go_loop [5] (fun i => ∃ k : Nat, k ≤ q ∧ i = .int .i64 k ∧ Hid (shortTo X k)) (fun i => q - (intOf i).toNat)
  case atStart => exact ⟨0, Nat.zero_le _, rfl, fun x hx => by simp at hx⟩
  case round =>
    obtain ⟨k, hk, rfl, hr⟩ := hrel
    by_cases hlt : k < q
    · obtain ⟨b, o, hl1, s, x, rfl, hbl, hs, hx, a0, a1, a2⟩ := RowList.at_ HX.out hlt
      clear a1
      by_cases h1 : (6000 : Int) < s.size
      · clear hs hx
        go_wp2_with fail
        refine (HL.out _).mono ?_
        rintro e w2 ⟨rfl, hb⟩
        go_wp2_with fail
        go_ret
        exact ⟨rfl, hb⟩
      · by_cases h2 : (6000 : Int) < x.size
        · clear hs hx
          go_wp2_with fail
          refine (HL.out _).mono ?_
          rintro e w2 ⟨rfl, hb⟩
          go_wp2_with fail
          go_ret
          exact ⟨rfl, hb⟩
        · have HN := Lib.hid (short_next hl1 hr.out (by rw [← hs, ← Lib.size_eq]; omega) (by rw [← hx, ← Lib.size_eq]; omega))
          clear hs hx
          go_wp2_with fail
          go_round
          case rel => exact ⟨k + 1, by omega, by go_num, HN⟩
          case measure => simp [intOf]; omega
    · have HS : Hid (∀ x ∈ X, x.path.length ≤ 6000 ∧ x.data.length ≤ 6000) := by
        have := hr.out
        unfold shortTo at this
        rw [List.take_of_length_le (by rw [HQ.out]; omega)] at this
        exact this
      clear hr
      cases hfw : isFew L with
      | false =>
        rw [hfw] at HFW
        clear hfw
        go_wp2_with fail
        refine HFW.out.mono ?_
        rintro e w1 ⟨rfl, hw⟩
        have hw := hw.symm
        subst hw
        go_wp2_with fail
        refine (HL.out _).mono ?_
        rintro e w2 ⟨rfl, hb⟩
        go_wp2_with fail
        go_ret
        exact ⟨rfl, hb⟩
      | true =>
        rw [hfw] at HFW
        obtain ⟨hd, hl⟩ := few_is hfw
        by_cases h40 : (40 : Int) < (q : Int)
        · clear hfw hd hl
          go_wp2_with fail
          refine HFW.out.mono ?_
          rintro e w1 ⟨rfl, hw⟩
          have hw := hw.symm
          subst hw
          go_wp2_with fail
          refine (HL.out _).mono ?_
          rintro e w2 ⟨rfl, hb⟩
          go_wp2_with fail
          go_ret
          exact ⟨rfl, hb⟩
        · have hHM := made_over3 C w (.slice A m c) L HH.out hl hd
          have HWI := Lib.hid (made_within hl)
          have hq40 : q ≤ 40 := by omega
          have HS2 : Hid (∀ x ∈ X, x.path.length ≤ 1048576 ∧ x.data.length ≤ 1048576) := fun x hx => by have := HS.out x hx; omega
          generalize (made L).1 = T0 at *
          have HM := Lib.hid hHM
          have HLY := Lib.hid (fun (F : Nat → Prop) (w' : World) (va : Addr) (hr : Rep F w' (.pointer (some va)) T0) (hF : ∀ k, F k → w.heap.size ≤ k) (hb : Below w.heap.size w w') =>
            lay_any C P hr 61 HWI.out ((HX.out.below hb).more hb.size) (HOF.out F hF ∘ fun h => by rw [← HQ.out]; exact h) (by rw [HQ.out]; omega) HS2.out)
          have HRL := Lib.hid (fun (u : Value) (w' : World) (hn : Nodes w'.heap.size w' u T0.L) (hb : Below w.heap.size w w') => refLay_any T0 u 61 HWI.out w' hn _ X ((HX.out.below hb).more hb.size) (by rw [HQ.out]; omega) HS2.out)
          have HW2 : Hid (Within (lay T0 0 X).1 101) := (lay_within X (i := 0) HWI.out).more (by rw [HQ.out]; omega)
          have HMK := Lib.hid (fun (w' : World) (hb : Below w.heap.size w w') => make_any C hf P (w := w') ((HX.out.below hb).more hb.size) (by rw [HQ.out]; omega) HS2.out)
          have HRN := Lib.hid (fun (u : Value) (w' : World) (hn : Nodes w'.heap.size w' u M07.new.L) (hb : Below w.heap.size w w') => refLay_any M07.new u 1 new_within w' hn _ X ((HX.out.below hb).more hb.size) (by rw [HQ.out]; omega) HS2.out)
          clear hfw hd hl hHM HS HWI HS2
          generalize lay T0 0 X = R at *
          obtain ⟨T', i', fe⟩ := R
          generalize lay M07.new 0 X = R2 at *
          obtain ⟨T2, i2, fe2⟩ := R2
          clear HX HH HOF
          go_wp2_with fail
          refine HFW.out.mono ?_
          rintro e w1 ⟨rfl, hw⟩
          have hw := hw.symm
          subst hw
          go_wp2_with fail
          refine HM.out.mono ?_
          rintro e w2 ⟨pv, u, F, rfl, hrep, hn, hF0, hb, hcl⟩
          obtain ⟨va, rfl⟩ := hf hrep
          obtain ⟨Au, cu, rfl, -, -⟩ := hn.form
          obtain ⟨w3, hw3⟩ : ∃ w3, w2.alloc (.cells #[.slice Au T0.L.length cu, .int .i64 T0.last] 28) = w3 := ⟨_, rfl⟩
          have H3 := Held.new C hrep hn hb hw3
          have hFb : ¬ F w2.heap.size := fun h => by have := C.low hrep _ h; omega
          obtain ⟨bx, hbx⟩ : ∃ b, w2.heap.size = b := ⟨_, rfl⟩
          rw [hbx] at H3 hFb
          have H3 := Lib.hid H3
          have Q1 := Lib.hid (HLY.out F w3 va H3.out.rep hF0 H3.out.below)
          clear hrep hn hb HM HFW HLY
          go_wp2_with fail
          clear hw3 hbx
          refine Q1.out.mono ?_
          rintro e w4 ⟨rfl, F', hr4, t4, hF4⟩
          have x0 := t4.cell H3.out.box.c0 hFb
          have x1 := t4.cell H3.out.box.c1 hFb
          have N4 := Lib.hid ((nodes_turns H3.out.nodes t4 hcl).more t4.size)
          have B4 : Hid (Below w.heap.size w w4) := H3.out.below.trans (t4.below hF0 H3.out.below.size)
          have R4 := Lib.hid hr4
          have Q2 := Lib.hid (HRL.out _ w4 N4.out B4.out)
          clear hr4 t4 hF4 H3 Q1 hFb hcl hF0
          go_wp2_with fail
          refine Q2.out.mono ?_
          rintro e w5 ⟨u5, rfl, hn5, hb5⟩
          obtain ⟨A5, c5, rfl, -, -⟩ := hn5.form
          obtain ⟨w6, hw6⟩ : ∃ w6, w5.alloc (.cells #[.slice A5 T'.L.length c5, .int .i64 T'.last] 28) = w6 := ⟨_, rfl⟩
          have H6 := Held.new C (C.below R4.out hb5) hn5 (on B4.out hb5) hw6
          obtain ⟨b6, hb6⟩ : ∃ b, w5.heap.size = b := ⟨_, rfl⟩
          rw [hb6] at H6
          have H6 := Lib.hid H6
          have y0 := H6.out.box.c0
          have y1 := H6.out.box.c1
          have Q3 := Lib.hid (same_tree C w6 H6.out.rep ((HW2.out.good (by omega)).small) _ H6.out.nodes)
          clear hn5 hb5 Q2 N4 R4 x0 x1
          go_wp2_with fail
          clear hw6 hb6
          refine Q3.out.mono ?_
          rintro e w7 ⟨rfl, hb7⟩
          have B7 := Lib.hid (on H6.out.below hb7)
          have Q4 := Lib.hid (HMK.out w7 B7.out)
          clear hb7 Q3 y0 y1 H6
          go_wp2_with fail
          refine Q4.out.mono ?_
          rintro e w8 ⟨v8, rfl, hb8, hn8, ht8⟩
          have B8 := Lib.hid (on B7.out hb8)
          have Q5 := Lib.hid (none_any w8)
          have HN8 := Lib.hid hn8
          have HT8 := Lib.hid ht8
          clear hb8 hn8 ht8 Q4
          go_wp2_with fail
          refine Q5.out.mono ?_
          rintro e w9 ⟨u9, rfl, hn9, hb9⟩
          have B9 := Lib.hid (on B8.out hb9)
          have Q6 := Lib.hid (HRN.out u9 w9 hn9 B9.out)
          clear hn9 hb9 Q5
          go_wp2_with fail
          refine Q6.out.mono ?_
          rintro e w10 ⟨u10, rfl, hn10, hb10⟩
          obtain ⟨A10, c10, rfl, -, -⟩ := hn10.form
          clear hn10
          have B10 := Lib.hid (on B9.out hb10)
          have B11 := Lib.hid (on B10.out (below_box w10 (.cells #[.slice A10 T2.L.length c10, .int .i64 T2.last] 28)))
          clear hb10 Q6
          by_cases hfe : fe2 = 0
          · subst hfe
            obtain ⟨a8, F8, rfl, -, -⟩ := HT8.out rfl
            clear HN8 HT8
            go_wp2_with fail
            refine (HL.out _).mono ?_
            rintro e w12 ⟨rfl, hb12⟩
            have BX := Lib.hid (on B11.out hb12)
            go_wp2_with fail
            go_ret
            exact ⟨rfl, BX.out⟩
          · have tf : (fe2 != 0) = true := by simpa using hfe
            have hv8 := HN8.out hfe
            subst hv8
            clear HN8 HT8
            go_wp2_with fail
            refine (HL.out _).mono ?_
            rintro e w12 ⟨rfl, hb12⟩
            have BX := Lib.hid (on B11.out hb12)
            go_wp2_with fail
            go_ret
            exact ⟨rfl, BX.out⟩
end
end Go.Proofs.YtpihldcchjoinaaGreatDoor.W12
/-
  Layer 12 (dump): the landed code keeps the contracts that the law DumpLays asks; so the law holds. Conditions: none but those that the theorem bears.
-/
namespace Go.Proofs.YtpihldcchjoinaaGreatDoor.W12
open Go Go.RowKit Go.Proofs.YtpihldcchjoinaaGreatDoor.Strs Go.Proofs.YtpihldcchjoinaaGreatDoor.Recs
open Go.Proofs.YtpihldcchjoinaaGreatDoor.M12
open Go.Proofs.YtpihldcchjoinaaGreatDoor.W11
open Go.Proofs.YtpihldcchjoinaaGreatDoor.W08 (Sn Snodes)

theorem dumpLays_law (w : World) (v : Value) (L : List Sn) (h : Snodes w.heap.size w v L) (y : Value) (X : List Rw) (hX : RowList w.heap.size w y X) :
    Calls Tryz.prog 4 #[v, y] w fun e w' => e = .returned (.bool true) ∧ Below w.heap.size w w' := dumpLays_over W07.trees full_tree W08.seeks W09.posix w v y L h X hX
end Go.Proofs.YtpihldcchjoinaaGreatDoor.W12
