/-
  Texts joined, in build order, each with its own comment and its own conditions: W12Back, W12LawB.
-/
import Derived.Test.YtpihldcchjoinaaGreatDoorJ26
import Derived.Test.YtpihldcchjoinaaGreatDoorJ25
/-
  Layer 12 (dump), walk of the law DumpBack over the contracts: it returns true; nothing that was there is changed. The conditions stand in the statements.
-/
namespace Go.Proofs.YtpihldcchjoinaaGreatDoor.W12
set_option maxRecDepth 100000
open Go Go.RowKit Go.Shelf Go.Proofs.YtpihldcchjoinaaGreatDoor.Strs Go.Proofs.YtpihldcchjoinaaGreatDoor.Recs Go.Proofs.YtpihldcchjoinaaGreatDoor.Range
open Go.Proofs.YtpihldcchjoinaaGreatDoor.M12
open Go.Proofs.YtpihldcchjoinaaGreatDoor.M07 (Tr Nd nodeAt Right listDir height)
open Go.Proofs.YtpihldcchjoinaaGreatDoor.M08
open Go.Proofs.YtpihldcchjoinaaGreatDoor.W07 (Small Trees Nodes)
open Go.Proofs.YtpihldcchjoinaaGreatDoor.W08 (Sn Snodes snC snC_len isFew few_is few_any made made_good made_over RefBox)
open Go.Proofs.YtpihldcchjoinaaGreatDoor.W09 (Posix Within HandsT made_within)
open Go.Proofs.YtpihldcchjoinaaGreatDoor.W11
open Go.Proofs.YtpihldcchjoinaaGreatDoor.Kit (ret_str ret_bool ret_int mk_of mk_bytes ba_ext below_draws on)

theorem all_sizes {t : Tr} (hR : Right t) (hN : Named t) (hF : Fit t) (htl : t.L.length ≤ 1048576) : ∀ x ∈ allOf t, x.path.length ≤ 68157441 ∧ x.data.length ≤ 65536 := by
  intro x hx
  obtain ⟨a, ha, -, rfl⟩ := (mem_all hR x).1 hx
  exact ⟨row_path_len hR hN htl ha, (hF a ha).1⟩
/-- rows that are Right are short -/
theorem right_short {x : Rw} (h : rightR x = true) : x.path.length ≤ 1048576 ∧ x.data.length ≤ 1048576 := by
  unfold rightR fitsR at h
  simp only [Bool.and_eq_true, decide_eq_true_eq] at h
  have h1 := h.1.1.2.2
  have h2 := h.1.2.2
  omega
def rightTo (l : List Rw) (k : Nat) : Prop := ∀ x ∈ l.take k, rightR x = true
theorem right_next {l : List Rw} {k : Nat} (hk : k < l.length) (h : rightTo l k) (h1 : rightR l[k] = true) : rightTo l (k + 1) := by
  intro x hx
  rw [List.take_succ_eq_append_getElem hk] at hx
  rcases List.mem_append.1 hx with hx | hx
  · exact h x hx
  · rw [List.mem_singleton.1 hx]; exact h1
/-- the region reads two boxes -/
theorem two_hold {W W' w'' : World} {bx bz : Nat} {a0 a1 d0 d1 : Value} (hl : bx < W.heap.size) (hz : bz < W.heap.size) (hS : W'.cell? ⟨bx, 0, none⟩ = some a0 ∧ W'.cell? ⟨bx, 1, none⟩ = some a1 ∧ W'.cell? ⟨bz, 0, none⟩ = some d0 ∧ W'.cell? ⟨bz, 1, none⟩ = some d1 ∧ Below W.heap.size W W') (hb : Below W'.heap.size W' w'') :
    w''.cell? ⟨bx, 0, none⟩ = some a0 ∧ w''.cell? ⟨bx, 1, none⟩ = some a1 ∧ w''.cell? ⟨bz, 0, none⟩ = some d0 ∧ w''.cell? ⟨bz, 1, none⟩ = some d1 ∧ Below W.heap.size W w'' := by
  have hs := hS.2.2.2.2.size
  exact ⟨(hb.cell (p := ⟨bx, 0, none⟩) (by show bx < _; omega)).trans hS.1, (hb.cell (p := ⟨bx, 1, none⟩) (by show bx < _; omega)).trans hS.2.1, (hb.cell (p := ⟨bz, 0, none⟩) (by show bz < _; omega)).trans hS.2.2.1, (hb.cell (p := ⟨bz, 1, none⟩) (by show bz < _; omega)).trans hS.2.2.2.1, on hS.2.2.2.2 hb⟩
section
variable {Rep : (Nat → Prop) → World → Value → Tr → Prop}
set_option maxRecDepth 100000 in
set_option maxHeartbeats 16000000 in
theorem dumpBack_over (C : Trees Rep) (hf : ∀ {F w v t}, Rep F w v t → ∃ a, v = .pointer (some a)) (S : W08.Seeks Rep) (P : Posix Rep) (w : World) (v y : Value) (L K : List Sn) (h : Snodes w.heap.size w v L) (hK : Snodes w.heap.size w y K) :
    Calls Tryz.prog 5 #[v, y] w fun e w' => e = .returned (.bool true) ∧ Below w.heap.size w w' := by
  have HFW := Lib.hid (few_any v L w.heap.size w h)
  have HFW2 := Lib.hid (few_any y K w.heap.size w hK)
  have HL := Lib.hid (fun w' => lives12_over C hf S P w')
  have HH := Lib.hid h
  have HHK := Lib.hid hK
  obtain ⟨A, c, rfl, -, -⟩ := h.form
  obtain ⟨A2, c2, rfl, -, -⟩ := hK.form
  clear h hK
  generalize hm : L.length = m at *
  generalize hq : K.length = q at *
  cases hfw : isFew L with
  | false =>
    rw [hfw] at HFW
    clear hfw hm hq
    go_enter Tryz.func5, Tryz.ntmps5
    go_wp2_with fail
    refine HFW.out.mono ?_
    rintro e w1 ⟨rfl, hw⟩
    have hw := hw.symm
    subst hw
    go_wp2_with fail
    refine (HL.out _).mono ?_
    rintro e w2 ⟨rfl, hb⟩
    go_wp2_with fail
    go_ret
    exact ⟨rfl, hb⟩
  | true =>
    rw [hfw] at HFW
    obtain ⟨hd, hl⟩ := few_is hfw
    cases hfk : isFew K with
    | false =>
      rw [hfk] at HFW2
      clear hfw hm hq hd hl hfk
      go_enter Tryz.func5, Tryz.ntmps5
      go_wp2_with fail
      refine HFW.out.mono ?_
      rintro e w1 ⟨rfl, hw⟩
      have hw := hw.symm
      subst hw
      go_wp2_with fail
      refine HFW2.out.mono ?_
      rintro e w1 ⟨rfl, hw⟩
      have hw := hw.symm
      subst hw
      go_wp2_with fail
      refine (HL.out _).mono ?_
      rintro e w2 ⟨rfl, hb⟩
      go_wp2_with fail
      go_ret
      exact ⟨rfl, hb⟩
    | true =>
      rw [hfk] at HFW2
      obtain ⟨hd2, hl2⟩ := few_is hfk
      have hHM := made_over C w (.slice A m c) L HH.out hl hd
      have hHM2 : ∀ w' : World, Below w.heap.size w w' → _ := fun w' hb => made_over C w' (.slice A2 q c2) K ((HHK.out.below hb).more hb.size) hl2 hd2
      have HWT := Lib.hid (made_within hl)
      have HWU := Lib.hid (made_within hl2)
      generalize (made L).1 = T at *
      generalize (made K).1 = U at *
      have HM := Lib.hid hHM
      have HM2 := Lib.hid hHM2
      clear hHM hHM2
      have GT := Lib.hid (HWT.out.good (by decide))
      have GU := Lib.hid (HWU.out.good (by decide))
      have HSZ := Lib.hid (all_sizes HWT.out.right HWT.out.named HWT.out.fit GT.out.small.1)
      have HLN := Lib.hid (Nat.le_trans (all_len T) HWT.out.len)
      have HEQ := Lib.hid (fun (F F2 : Nat → Prop) (w' : World) (va vb : Addr) (ha : Rep F w' (.pointer (some va)) T) (hb : Rep F2 w' (.pointer (some vb)) U) => equal_any C GT.out GU.out ha hb)
      have HES := Lib.hid (fun (F : Nat → Prop) (w' : World) (va : Addr) (ha : Rep F w' (.pointer (some va)) T) => equal_any C GT.out GT.out ha ha)
      have HAT := Lib.hid (fun (u : Value) (w' : World) (hu : Nodes w'.heap.size w' u T.L) => refAll_any T HWT.out.right HWT.out.named HWT.out.fit GT.out.small.1 u w' hu)
      have HAU := Lib.hid (fun (u : Value) (w' : World) (hu : Nodes w'.heap.size w' u U.L) => refAll_any U HWU.out.right HWU.out.named HWU.out.fit GU.out.small.1 u w' hu)
      have HDA := Lib.hid (fun (F : Nat → Prop) (w' : World) (va : Addr) (ha : Rep F w' (.pointer (some va)) T) => all_any (rows_any C S GT.out ⟨#[47]⟩ (by decide) w' ha))
      have eAll : (rowsAt T (⟨#[47]⟩ : ByteArray).data.toList).1 = allOf T := rfl
      rw [eAll] at HDA
      have eSelf : decide (allOf T = allOf T) = true := decide_eq_true rfl
      rw [eSelf] at HES
      have HBK := Lib.hid (fun hr => made_back HWT.out.right HWT.out.named HWT.out.fit (Nat.le_trans HWT.out.len (by decide)) hr)
      have HEB := Lib.hid (fun (F F2 : Nat → Prop) (w' : World) (va vb : Addr) (ha : Rep F w' (.pointer (some va)) T) (hr : ∀ x ∈ allOf T, rightR x = true) (hb : Rep F2 w' (.pointer (some vb)) (lay M07.new 0 (allOf T)).1) => equal_any C GT.out (((lay_within (allOf T) (i := 0) new_within).more (m := 1048576) (by have := HLN.out; omega)).good (Nat.le_refl _)) ha hb)
      have HMK := Lib.hid (fun (w' : World) (u : Value) (hu : RowList w'.heap.size w' u (allOf T)) (hr : ∀ x ∈ allOf T, rightR x = true) => make_any C hf P hu (by have := HLN.out; omega) (fun x hx => right_short (hr x hx)))
      generalize allOf T = RA at *
      generalize allOf U = RB at *
      clear hfw hm hq hd hl hfk hd2 hl2 eAll eSelf HH HHK
      go_enter Tryz.func5, Tryz.ntmps5
      go_wp2_with fail
      refine HFW.out.mono ?_
      rintro e w1 ⟨rfl, hw⟩
      have hw := hw.symm
      subst hw
      go_wp2_with fail
      refine HFW2.out.mono ?_
      rintro e w1 ⟨rfl, hw⟩
      have hw := hw.symm
      subst hw
      go_wp2_with fail
      refine HM.out.mono ?_
      rintro e w2 ⟨pv, u, F, rfl, hrep, hn, -, hb⟩
      obtain ⟨va, rfl⟩ := hf hrep
      obtain ⟨Au, cu, rfl, -, -⟩ := hn.form
      obtain ⟨w3, hw3⟩ : ∃ w3, w2.alloc (.cells #[.slice Au T.L.length cu, .int .i64 T.last] 28) = w3 := ⟨_, rfl⟩
      have H3 := Held.new C hrep hn hb hw3
      obtain ⟨bx, hbx⟩ : ∃ b, w2.heap.size = b := ⟨_, rfl⟩
      rw [hbx] at H3
      have H3 := Lib.hid H3
      have Q1 := Lib.hid (HM2.out w3 H3.out.below)
      clear hrep hn hb HM HFW HFW2
      go_wp2_with fail
      clear hw3 hbx
      refine Q1.out.mono ?_
      rintro e w4 ⟨pv2, u2, F2, rfl, hrep2, hn2, -, hb4⟩
      obtain ⟨vb, rfl⟩ := hf hrep2
      obtain ⟨Au2, cu2, rfl, -, -⟩ := hn2.form
      have H4 := Lib.hid (H3.out.on C hb4)
      obtain ⟨w5, hw5⟩ : ∃ w5, w4.alloc (.cells #[.slice Au2 U.L.length cu2, .int .i64 U.last] 28) = w5 := ⟨_, rfl⟩
      have K5 := Held.new C hrep2 hn2 H4.out.below hw5
      have H5 := Lib.hid (H4.out.on C (show Below w4.heap.size w4 w5 by rw [← hw5]; exact below_box _ _))
      obtain ⟨bz, hbz⟩ : ∃ b, w4.heap.size = b := ⟨_, rfl⟩
      rw [hbz] at K5
      have K5 := Lib.hid K5
      have r0 := H5.out.box.c0
      have r1 := H5.out.box.c1
      have s0 := K5.out.box.c0
      have s1 := K5.out.box.c1
      have hlx := H5.out.lt
      have hlz := K5.out.lt
      have S0 := Lib.hid (show w5.drew.cell? ⟨bx, 0, none⟩ = _ ∧ w5.drew.cell? ⟨bx, 1, none⟩ = _ ∧ w5.drew.cell? ⟨bz, 0, none⟩ = _ ∧ w5.drew.cell? ⟨bz, 1, none⟩ = _ ∧ Below w5.heap.size w5 w5.drew from ⟨r0, r1, s0, s1, below_draws w5 1⟩)
      have HE1 := Lib.hid (fun (w' : World) (hb : Below w5.heap.size w5 w') => HEQ.out F F2 w' va vb (C.below H5.out.rep hb) (C.below K5.out.rep hb))
      have HE2 := Lib.hid (fun (w' : World) (hb : Below w5.heap.size w5 w') => HES.out F w' va (C.below H5.out.rep hb))
      have HA1 := Lib.hid (fun (w' : World) (hb : Below w5.heap.size w5 w') => HAT.out _ w' ((H5.out.nodes.below hb).more hb.size))
      have HA2 := Lib.hid (fun (w' : World) (hb : Below w5.heap.size w5 w') => HAU.out _ w' ((K5.out.nodes.below hb).more hb.size))
      have HSM := Lib.hid (fun (u1 u2 : Value) (w' : World) (h1 : RowList w'.heap.size w' u1 RA) (h2 : RowList w'.heap.size w' u2 RB) => refSame_any u1 u2 RA RB w'.heap.size w' h1 h2)
      generalize decide (RA = RB) = bq at *
      have tq : (bq != bq) = false := by cases bq <;> rfl
      clear hrep2 hn2 hb4 Q1 H3 H4 HM2 HEQ HES HAU
      go_wp2_with fail
      clear hw5 hbz
      refine wp_region_held_drew (S := fun w' => w'.cell? ⟨bx, 0, none⟩ = some (.slice Au T.L.length cu) ∧ w'.cell? ⟨bx, 1, none⟩ = some (.int .i64 T.last) ∧ w'.cell? ⟨bz, 0, none⟩ = some (.slice Au2 U.L.length cu2) ∧ w'.cell? ⟨bz, 1, none⟩ = some (.int .i64 U.last) ∧ Below w5.heap.size w5 w') (by kernel_rfl) S0.out (fun hHeld => ?_)
      refine wpAnyH_take (i := 0) (oi := { dst := some 32, op := Op.move (Operand.tmp 5), type := 25, pos := "law.go:67", after := #[], guard := none }) (v := ?va0) rfl (by kernel_rfl) (by kernel_rfl) (by kernel_rfl) (fun _ _ _ h => h) (Or.inl ⟨by rfl, ?ha0⟩) (by assumption) ?ra0
      case ha0 => (intro w hSw; (try dsimp only at hSw); go_simp; try with_reducible rfl)
      try simp only [Act.put, List.setIfInBounds_toArray, List.set_cons_zero, List.set_cons_succ]
      refine wpAnyH_take (i := 1) (oi := { dst := some 33, op := Op.move (Operand.tmp 7), type := 25, pos := "law.go:67", after := #[], guard := none }) (v := ?va1) rfl (by kernel_rfl) (by kernel_rfl) (by kernel_rfl) (fun _ _ _ h => h) (Or.inl ⟨by rfl, ?ha1⟩) (by assumption) ?ra1
      case ha1 => (intro w hSw; (try dsimp only at hSw); go_simp; try with_reducible rfl)
      try simp only [Act.put, List.setIfInBounds_toArray, List.set_cons_zero, List.set_cons_succ]
      refine wpAnyH_take (i := 3) (oi := { dst := some 35, op := Op.load 28 (Operand.tmp 6), type := 28, pos := "law.go:67", after := #[], guard := none }) (v := ?va3) rfl (by kernel_rfl) (by kernel_rfl) (by kernel_rfl) (fun _ _ _ h => h) (Or.inl ⟨by rfl, ?ha3⟩) (by assumption) ?ra3
      case ha3 => (intro w hSw; (try dsimp only at hSw); go_simp; try with_reducible rfl)
      try simp only [Act.put, List.setIfInBounds_toArray, List.set_cons_zero, List.set_cons_succ]
      refine wpAnyH_take (i := 5) (oi := { dst := some 37, op := Op.load 28 (Operand.tmp 8), type := 28, pos := "law.go:67", after := #[], guard := none }) (v := ?va5) rfl (by kernel_rfl) (by kernel_rfl) (by kernel_rfl) (fun _ _ _ h => h) (Or.inl ⟨by rfl, ?ha5⟩) (by assumption) ?ra5
      case ha5 => (intro w hSw; (try dsimp only at hSw); go_simp; try with_reducible rfl)
      try simp only [Act.put, List.setIfInBounds_toArray, List.set_cons_zero, List.set_cons_succ]
      refine wpAnyH_ready (rs := [2]) (by kernel_rfl) (by simp) ?_
      refine AllReadyH.cons (o := { dst := some 34, op := Op.call { callee := Callee.value (Operand.func 22), args := #[Operand.tmp 32, Operand.tmp 33], argTypes := #[25, 25] }, type := 4, pos := "law.go:67", after := #[{ on := 0, ground := Ground.data }, { on := 1, ground := Ground.data }], guard := none }) rfl (fun K hK => ?_) AllReadyH.nil
      go_simp
      (go_at_call 22; refine (HE1.out _ S0.out.2.2.2.2).mono ?_; rintro e x1 ⟨rfl, hb1⟩; have hS1 := two_hold hlx hlz S0.out hb1; clear hb1)
      go_wp2_with fail
      refine hK.out _ _ ?_ (fun hHeld => ?_)
      · exact hS1
      clear hK K
      try simp only [Act.put, List.setIfInBounds_toArray, List.set_cons_zero, List.set_cons_succ]
      refine wpAnyH_ready (rs := [4]) (by kernel_rfl) (by simp) ?_
      refine AllReadyH.cons (o := { dst := some 36, op := Op.call { callee := Callee.value (Operand.func 16), args := #[Operand.tmp 35], argTypes := #[28] }, type := 31, pos := "law.go:67", after := #[{ on := 3, ground := Ground.data }, { on := 2, ground := Ground.chain }], guard := none }) rfl (fun K hK => ?_) AllReadyH.nil
      go_simp
      (go_at_call 16; refine (HA1.out x1 hS1.2.2.2.2).mono ?_; rintro e x2 ⟨ua, rfl, hA, hb2⟩; have hS2 := two_hold hlx hlz hS1 hb2; have QA := Lib.hid hA; clear hA; clear hb2)
      go_wp2_with fail
      refine hK.out _ _ ?_ (fun hHeld => ?_)
      · exact hS2
      clear hK K
      try simp only [Act.put, List.setIfInBounds_toArray, List.set_cons_zero, List.set_cons_succ]
      refine wpAnyH_ready (rs := [6]) (by kernel_rfl) (by simp) ?_
      refine AllReadyH.cons (o := { dst := some 38, op := Op.call { callee := Callee.value (Operand.func 16), args := #[Operand.tmp 37], argTypes := #[28] }, type := 31, pos := "law.go:67", after := #[{ on := 5, ground := Ground.data }, { on := 4, ground := Ground.chain }], guard := none }) rfl (fun K hK => ?_) AllReadyH.nil
      go_simp
      (go_at_call 16; refine (HA2.out x2 hS2.2.2.2.2).mono ?_; rintro e x3 ⟨ub, rfl, hA, hb3⟩; have hS3 := two_hold hlx hlz hS2 hb3; have QB := Lib.hid hA; have QA3 := Lib.hid ((QA.out.below hb3).more hb3.size); have HS3 := Lib.hid (HSM.out ua ub x3 QA3.out QB.out); clear hA; clear hb3)
      go_wp2_with fail
      refine hK.out _ _ ?_ (fun hHeld => ?_)
      · exact hS3
      clear hK K
      try simp only [Act.put, List.setIfInBounds_toArray, List.set_cons_zero, List.set_cons_succ]
      refine wpAnyH_ready (rs := [7]) (by kernel_rfl) (by simp) ?_
      refine AllReadyH.cons (o := { dst := some 39, op := Op.call { callee := Callee.value (Operand.func 13), args := #[Operand.tmp 36, Operand.tmp 38], argTypes := #[31, 31] }, type := 4, pos := "law.go:67", after := #[{ on := 4, ground := Ground.data }, { on := 6, ground := Ground.data }, { on := 6, ground := Ground.chain }], guard := none }) rfl (fun K hK => ?_) AllReadyH.nil
      go_simp
      (go_at_call 13; refine HS3.out.mono ?_; rintro e x4 ⟨rfl, n4, hx4⟩; have hS4 := two_hold hlx hlz hS3 (drew_after x3 n4 x4 hx4); clear hx4)
      go_wp2_with fail
      refine hK.out _ _ ?_ (fun hHeld => ?_)
      · exact hS4
      clear hK K
      try simp only [Act.put, List.setIfInBounds_toArray, List.set_cons_zero, List.set_cons_succ]
      refine wpAnyH_take (i := 8) (oi := { dst := some 40, op := Op.binOp BinOp.neq 4 (Operand.tmp 34) (Operand.tmp 39) 4, type := 4, pos := "law.go:67", after := #[{ on := 2, ground := Ground.data }, { on := 7, ground := Ground.data }], guard := none }) (v := ?va8) rfl (by kernel_rfl) (by kernel_rfl) (by kernel_rfl) (fun _ _ _ h => h) (Or.inl ⟨by rfl, ?ha8⟩) (by assumption) ?ra8
      case ha8 => (intro w hSw; (try dsimp only at hSw); go_simp; try with_reducible rfl)
      try simp only [Act.put, List.setIfInBounds_toArray, List.set_cons_zero, List.set_cons_succ]
      refine wpAnyH_take (i := 9) (oi := { dst := some 41, op := Op.move (Operand.tmp 40), type := 4, pos := "law.go:67", after := #[{ on := 8, ground := Ground.data }, { on := 7, ground := Ground.chain }], guard := none }) (v := ?va9) rfl (by kernel_rfl) (by kernel_rfl) (by kernel_rfl) (fun _ _ _ h => h) (Or.inl ⟨by rfl, ?ha9⟩) (by assumption) ?ra9
      case ha9 => (intro w hSw; (try dsimp only at hSw); go_simp; try with_reducible rfl)
      try simp only [Act.put, List.setIfInBounds_toArray, List.set_cons_zero, List.set_cons_succ]
      refine wpAnyH_take (i := 10) (oi := { dst := some 42, op := Op.move (Operand.tmp 5), type := 25, pos := "law.go:67", after := #[{ on := 9, ground := Ground.guard }], guard := some (9, false) }) (v := ?va10) rfl (by kernel_rfl) (by kernel_rfl) (by kernel_rfl) (fun _ _ _ h => h) (Or.inl ⟨by rfl, ?ha10⟩) (by assumption) ?ra10
      case ha10 => (intro w hSw; (try dsimp only at hSw); go_simp; try with_reducible rfl)
      try simp only [Act.put, List.setIfInBounds_toArray, List.set_cons_zero, List.set_cons_succ]
      refine wpAnyH_take (i := 11) (oi := { dst := some 43, op := Op.move (Operand.tmp 5), type := 25, pos := "law.go:67", after := #[{ on := 9, ground := Ground.guard }], guard := some (9, false) }) (v := ?va11) rfl (by kernel_rfl) (by kernel_rfl) (by kernel_rfl) (fun _ _ _ h => h) (Or.inl ⟨by rfl, ?ha11⟩) (by assumption) ?ra11
      case ha11 => (intro w hSw; (try dsimp only at hSw); go_simp; try with_reducible rfl)
      try simp only [Act.put, List.setIfInBounds_toArray, List.set_cons_zero, List.set_cons_succ]
      refine wpAnyH_ready (rs := [12]) (by kernel_rfl) (by simp) ?_
      refine AllReadyH.cons (o := { dst := some 44, op := Op.call { callee := Callee.value (Operand.func 22), args := #[Operand.tmp 42, Operand.tmp 43], argTypes := #[25, 25] }, type := 4, pos := "law.go:67", after := #[{ on := 10, ground := Ground.data }, { on := 11, ground := Ground.data }, { on := 9, ground := Ground.chain }, { on := 9, ground := Ground.guard }], guard := some (9, false) }) rfl (fun K hK => ?_) AllReadyH.nil
      go_simp
      (go_at_call 22; refine (HE2.out x4 hS4.2.2.2.2).mono ?_; rintro e x5 ⟨rfl, hb5⟩; have hS5 := two_hold hlx hlz hS4 hb5; clear hb5)
      go_wp2_with fail
      refine hK.out _ _ ?_ (fun hHeld => ?_)
      · exact hS5
      clear hK K
      try simp only [Act.put, List.setIfInBounds_toArray, List.set_cons_zero, List.set_cons_succ]
      refine wpAnyH_take (i := 13) (oi := { dst := some 45, op := Op.unOp UnOp.not 4 (Operand.tmp 44), type := 4, pos := "law.go:67", after := #[{ on := 12, ground := Ground.data }, { on := 9, ground := Ground.guard }], guard := some (9, false) }) (v := ?va13) rfl (by kernel_rfl) (by kernel_rfl) (by kernel_rfl) (fun _ _ _ h => h) (Or.inl ⟨by rfl, ?ha13⟩) (by assumption) ?ra13
      case ha13 => (intro w hSw; (try dsimp only at hSw); go_simp; try with_reducible rfl)
      try simp only [Act.put, List.setIfInBounds_toArray, List.set_cons_zero, List.set_cons_succ]
      refine wpAnyH_take (i := 14) (oi := { dst := some 46, op := Op.pick (Operand.tmp 41) (Operand.const (Value.bool true)) (Operand.tmp 45), type := 4, pos := "law.go:67", after := #[{ on := 9, ground := Ground.data }, { on := 13, ground := Ground.data }], guard := none }) (v := ?va14) rfl (by kernel_rfl) (by kernel_rfl) (by kernel_rfl) (fun _ _ _ h => h) (Or.inl ⟨by rfl, ?ha14⟩) (by assumption) ?ra14
      case ha14 => (intro w hSw; (try dsimp only at hSw); go_simp; try with_reducible rfl)
      try simp only [Act.put, List.setIfInBounds_toArray, List.set_cons_zero, List.set_cons_succ]
      refine wpAnyH_take (i := 15) (oi := { dst := some 47, op := Op.move (Operand.tmp 46), type := 4, pos := "law.go:67", after := #[{ on := 14, ground := Ground.data }, { on := 12, ground := Ground.chain }], guard := none }) (v := ?va15) rfl (by kernel_rfl) (by kernel_rfl) (by kernel_rfl) (fun _ _ _ h => h) (Or.inl ⟨by rfl, ?ha15⟩) (by assumption) ?ra15
      case ha15 => (intro w hSw; (try dsimp only at hSw); go_simp; try with_reducible rfl)
      try simp only [Act.put, List.setIfInBounds_toArray, List.set_cons_zero, List.set_cons_succ]
      refine wpAnyH_take (i := 16) (oi := { dst := some 48, op := Op.move (Operand.tmp 5), type := 25, pos := "law.go:67", after := #[{ on := 15, ground := Ground.guard }], guard := some (15, false) }) (v := ?va16) rfl (by kernel_rfl) (by kernel_rfl) (by kernel_rfl) (fun _ _ _ h => h) (Or.inl ⟨by rfl, ?ha16⟩) (by assumption) ?ra16
      case ha16 => (intro w hSw; (try dsimp only at hSw); go_simp; try with_reducible rfl)
      try simp only [Act.put, List.setIfInBounds_toArray, List.set_cons_zero, List.set_cons_succ]
      refine wpAnyH_ready (rs := [17]) (by kernel_rfl) (by simp) ?_
      refine AllReadyH.cons (o := { dst := some 49, op := Op.call { callee := Callee.value (Operand.func 22), args := #[Operand.tmp 48, Operand.const (Value.pointer none)], argTypes := #[25, 25] }, type := 4, pos := "law.go:67", after := #[{ on := 16, ground := Ground.data }, { on := 15, ground := Ground.chain }, { on := 15, ground := Ground.guard }], guard := some (15, false) }) rfl (fun K hK => ?_) AllReadyH.nil
      go_simp
      (go_at_call 22; refine (equal_none va x5).mono ?_; rintro e x6 ⟨rfl, hx6⟩; have hS6 := two_hold hlx hlz hS5 (drew_after x5 0 x6 hx6); clear hx6)
      go_wp2_with fail
      refine hK.out _ _ ?_ (fun hHeld => ?_)
      · exact hS6
      clear hK K
      try simp only [Act.put, List.setIfInBounds_toArray, List.set_cons_zero, List.set_cons_succ]
      refine wpAnyH_take (i := 18) (oi := { dst := some 50, op := Op.pick (Operand.tmp 47) (Operand.const (Value.bool true)) (Operand.tmp 49), type := 4, pos := "law.go:67", after := #[{ on := 15, ground := Ground.data }, { on := 17, ground := Ground.data }], guard := none }) (v := ?va18) rfl (by kernel_rfl) (by kernel_rfl) (by kernel_rfl) (fun _ _ _ h => h) (Or.inl ⟨by rfl, ?ha18⟩) (by assumption) ?ra18
      case ha18 => (intro w hSw; (try dsimp only at hSw); go_simp; try with_reducible rfl)
      try simp only [Act.put, List.setIfInBounds_toArray, List.set_cons_zero, List.set_cons_succ]
      refine wpAnyH_take (i := 19) (oi := { dst := some 51, op := Op.move (Operand.tmp 50), type := 4, pos := "law.go:67", after := #[{ on := 18, ground := Ground.data }, { on := 17, ground := Ground.chain }], guard := none }) (v := ?va19) rfl (by kernel_rfl) (by kernel_rfl) (by kernel_rfl) (fun _ _ _ h => h) (Or.inl ⟨by rfl, ?ha19⟩) (by assumption) ?ra19
      case ha19 => (intro w hSw; (try dsimp only at hSw); go_simp; try with_reducible rfl)
      try simp only [Act.put, List.setIfInBounds_toArray, List.set_cons_zero, List.set_cons_succ]
      refine wpAnyH_ready (rs := [20]) (by kernel_rfl) (by simp) ?_
      refine AllReadyH.cons (o := { dst := some 52, op := Op.call { callee := Callee.value (Operand.func 22), args := #[Operand.const (Value.pointer none), Operand.const (Value.pointer none)], argTypes := #[25, 25] }, type := 4, pos := "law.go:67", after := #[{ on := 19, ground := Ground.chain }, { on := 19, ground := Ground.guard }], guard := some (19, false) }) rfl (fun K hK => ?_) AllReadyH.nil
      go_simp
      (go_at_call 22; refine (equal_both x6).mono ?_; rintro e x7 ⟨rfl, hx7⟩; have hS7 := two_hold hlx hlz hS6 (drew_after x6 0 x7 hx7); clear hx7)
      go_wp2_with fail
      refine hK.out _ _ ?_ (fun hHeld => ?_)
      · exact hS7
      clear hK K
      try simp only [Act.put, List.setIfInBounds_toArray, List.set_cons_zero, List.set_cons_succ]
      refine wpAnyH_take (i := 21) (oi := { dst := some 53, op := Op.unOp UnOp.not 4 (Operand.tmp 52), type := 4, pos := "law.go:67", after := #[{ on := 20, ground := Ground.data }, { on := 19, ground := Ground.guard }], guard := some (19, false) }) (v := ?va21) rfl (by kernel_rfl) (by kernel_rfl) (by kernel_rfl) (fun _ _ _ h => h) (Or.inl ⟨by rfl, ?ha21⟩) (by assumption) ?ra21
      case ha21 => (intro w hSw; (try dsimp only at hSw); go_simp; try with_reducible rfl)
      try simp only [Act.put, List.setIfInBounds_toArray, List.set_cons_zero, List.set_cons_succ]
      refine wpAnyH_take (i := 22) (oi := { dst := some 54, op := Op.pick (Operand.tmp 51) (Operand.const (Value.bool true)) (Operand.tmp 53), type := 4, pos := "law.go:67", after := #[{ on := 19, ground := Ground.data }, { on := 21, ground := Ground.data }], guard := none }) (v := ?va22) rfl (by kernel_rfl) (by kernel_rfl) (by kernel_rfl) (fun _ _ _ h => h) (Or.inl ⟨by rfl, ?ha22⟩) (by assumption) ?ra22
      case ha22 => (intro w hSw; (try dsimp only at hSw); go_simp; try with_reducible rfl)
      try simp only [Act.put, List.setIfInBounds_toArray, List.set_cons_zero, List.set_cons_succ]
      refine wpAnyH_done (by kernel_rfl) ?_ _
      have H6 := Lib.hid (H5.out.on C hS7.2.2.2.2)
      have t0 := H6.out.box.c0
      have t1 := H6.out.box.c1
      have Q2 := Lib.hid (HAT.out _ x7 H6.out.nodes)
      clear hS1 hS2 hS3 hS4 hS5 hS6 hS7 S0 H5 K5 HE1 HE2 HA1 HA2 HSM r0 r1 s0 s1 hlx hlz QA QA3 QB HS3
      go_wp2_with fail
      refine Q2.out.mono ?_
      rintro e w7 ⟨v7, rfl, hv7, hb7⟩
      have H7 := Lib.hid (H6.out.on C hb7)
      have V7 := Lib.hid hv7
      obtain ⟨A7, c7, rfl, k1, k2⟩ := hv7.form
      unfold maxLen at k2
      clear hv7 hb7 H6 Q2 t0 t1
      generalize hn : RA.length = n at *
      have HN := Lib.hid hn
      clear hn
      go_wp2_with fail
      go_loopw [10] (fun i wr => ∃ k : Nat, k ≤ n ∧ i = .int .i64 k ∧ Hid (rightTo RA k) ∧ Hid (Below w7.heap.size w7 wr)) (fun i _ => n - (intOf i).toNat)
      case atStart => exact ⟨0, Nat.zero_le _, rfl, fun x hx => by simp at hx, Below.refl _ _⟩
      case round =>
        obtain ⟨k, hk, rfl, hr, hb⟩ := hrel
        by_cases hlt : k < n
        · obtain ⟨b, o, hl1, s, x, rfl, hbl, hs, hx, a0, a1, a2⟩ := RowList.at_ (V7.out.below hb.out) hlt
          have hsz := HSZ.out _ (List.getElem_mem hl1)
          have hxe : RA[k] = ⟨s.data.toList, (RA[k]).kind, x.data.toList⟩ := row_ext hs.symm rfl hx.symm
          rw [← hs, ← hx, ← Lib.size_eq, ← Lib.size_eq] at hsz
          have HNX := Lib.hid (fun h => right_next hl1 hr.out h)
          generalize (RA[k]).kind = xk at *
          rw [hxe] at HNX
          have HRT := Lib.hid (refRight_any s x xk (by omega) (by omega) wr)
          clear hs hx hxe hr
          cases hrt : rightR ⟨s.data.toList, xk, x.data.toList⟩ with
          | false =>
            rw [hrt] at HRT
            clear hrt HNX
            go_wp2_with fail
            refine HRT.out.mono ?_
            rintro e w8 ⟨rfl, hb8⟩
            have B8 := Lib.hid (on hb.out hb8)
            go_wp2_with fail
            refine (HL.out _).mono ?_
            rintro e w9 ⟨rfl, hb9⟩
            have BX := Lib.hid (on H7.out.below (on B8.out hb9))
            go_wp2_with fail
            go_ret
            exact ⟨rfl, BX.out⟩
          | true =>
            rw [hrt] at HRT
            have HN2 := Lib.hid (HNX.out hrt)
            clear hrt HNX
            go_wp2_with fail
            refine HRT.out.mono ?_
            rintro e w8 ⟨rfl, hb8⟩
            have B8 := Lib.hid (on hb.out hb8)
            clear hb8
            go_wp2_with fail
            go_roundw
            case rel => exact ⟨k + 1, by omega, by go_num, HN2, B8⟩
            case measure => simp [intOf]; omega
        · have HALL : Hid (∀ x ∈ RA, rightR x = true) := by
            have := hr.out
            unfold rightTo at this
            rw [List.take_of_length_le (by rw [HN.out]; omega)] at this
            exact this
          obtain ⟨hbk1, hbk2⟩ := HBK.out HALL.out
          have H8 := Lib.hid (H7.out.on C hb.out)
          have Q3 := Lib.hid (HDA.out F wr va H8.out.rep)
          have HMA := Lib.hid (fun (w' : World) (u : Value) (hu : RowList w'.heap.size w' u RA) => HMK.out w' u hu HALL.out)
          have HEC := Lib.hid (fun (F F2 : Nat → Prop) (w' : World) (va vb : Addr) (ha : Rep F w' (.pointer (some va)) T) (hb : Rep F2 w' (.pointer (some vb)) (lay M07.new 0 RA).1) => HEB.out F F2 w' va vb ha HALL.out hb)
          have eSelf : decide (RA = RA) = true := decide_eq_true rfl
          rw [hbk2, eSelf] at HEC
          generalize lay M07.new 0 RA = R at *
          obtain ⟨T', R2⟩ := R
          simp only at hbk1
          subst hbk1
          clear hr hb H7 V7 hbk2 eSelf HBK HEB HMK HDA
          go_wp2_with fail
          refine Q3.out.mono ?_
          rintro e w9 ⟨v9, rfl, hv9, hb9⟩
          have H9 := Lib.hid (H8.out.on C hb9)
          have Q4 := Lib.hid (HMA.out w9 v9 hv9)
          clear hv9 hb9 H8 Q3 HMA
          go_wp2_with fail
          refine Q4.out.mono ?_
          rintro e w10 ⟨v10, rfl, hb10, -, h10⟩
          obtain ⟨vc, F3, rfl, hr3, -⟩ := h10 rfl
          have H10 := Lib.hid (H9.out.on C hb10)
          have Q5 := Lib.hid (HEC.out F F3 w10 va vc H10.out.rep hr3)
          clear hb10 h10 hr3 H9 Q4 HEC
          go_wp2_with fail
          refine Q5.out.mono ?_
          rintro e w11 ⟨rfl, hb11⟩
          have B11 := Lib.hid (on H10.out.below hb11)
          go_wp2_with fail
          refine (HL.out _).mono ?_
          rintro e w12 ⟨rfl, hb12⟩
          have BX := Lib.hid (on B11.out hb12)
          go_wp2_with fail
          go_ret
          exact ⟨rfl, BX.out⟩
end
end Go.Proofs.YtpihldcchjoinaaGreatDoor.W12
/-
  Layer 12 (dump): the landed code keeps the contracts that the law DumpBack asks; so the law holds. Conditions: none but those that the theorem bears.
-/
namespace Go.Proofs.YtpihldcchjoinaaGreatDoor.W12
open Go Go.RowKit Go.Proofs.YtpihldcchjoinaaGreatDoor.Strs Go.Proofs.YtpihldcchjoinaaGreatDoor.Recs
open Go.Proofs.YtpihldcchjoinaaGreatDoor.M12
open Go.Proofs.YtpihldcchjoinaaGreatDoor.W11
open Go.Proofs.YtpihldcchjoinaaGreatDoor.W08 (Sn Snodes)

theorem dumpBack_law (w : World) (v : Value) (L : List Sn) (h : Snodes w.heap.size w v L) (y : Value) (K : List Sn) (hK : Snodes w.heap.size w y K) :
    Calls Tryz.prog 5 #[v, y] w fun e w' => e = .returned (.bool true) ∧ Below w.heap.size w w' := dumpBack_over W07.trees full_tree W08.seeks W09.posix w v y L K h hK
end Go.Proofs.YtpihldcchjoinaaGreatDoor.W12
