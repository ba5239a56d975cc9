/-
  Layer 7 (tree), a walk of the law TreeDoes over the contracts: it returns true, at every list of acts; nothing that was there is changed.
-/
import Derived.Test.YtelphegeeiocnaaW07Goes
namespace Go.Proofs.Ytelphegeeiocnaa.W07
open Go Go.RowKit Go.Proofs.Ytelphegeeiocnaa.Strs Go.Proofs.Ytelphegeeiocnaa.Recs Go.Proofs.Ytelphegeeiocnaa.M07 Go.Proofs.Ytelphegeeiocnaa.Range
open Go.Proofs.Ytelphegeeiocnaa.Kit (ret_str ret_bool ret_int mk_of mk_bytes ba_ext below_draws on)

set_option maxHeartbeats 8000000 in
set_option maxRecDepth 100000 in
theorem treeDoes_over {Rep : (Nat → Prop) → World → Value → Tr → Prop} (C : Trees Rep) (w : World) (v : Value) (L : List Ac) (h : Acts w.heap.size w v L) : Calls Try.prog 3 #[v] w fun e w' => e = .returned (.bool true) ∧ Below w.heap.size w w' := by
  have HS := Lib.hid (short_any v L w.heap.size w h)
  have HLV := Lib.hid (lives_tree C)
  have HA := Lib.hid h
  obtain ⟨A, c, rfl, hA1, hA2⟩ := h.form
  unfold maxLen at hA2
  clear h
  cases hsh : isShort L with
  | false =>
    rw [hsh] at HS
    go_enter Try.func3, Try.ntmps3
    go_wp2_with fail
    refine HS.out.mono ?_
    rintro e w1 ⟨rfl, rfl⟩
    go_wp2_with fail
    refine (HLV.out _).mono ?_
    rintro e w2 ⟨rfl, hb⟩
    go_wp2_with fail
    go_ret
    exact ⟨rfl, hb⟩
  | true =>
    have hlen := short_len hsh
    have HSH := Lib.hid hsh
    rw [hsh] at HS
    clear hsh
    generalize hm : L.length = m at *
    have HM := Lib.hid hm
    clear hm
    have HSD := Lib.hid (fun k (hk : k < L.length) => short_data HSH.out hk)
    clear HSH
    go_enter Try.func3, Try.ntmps3
    go_wp2_with fail
    refine HS.out.mono ?_
    rintro e w1 ⟨rfl, rfl⟩
    go_wp2_with fail
    refine (C.new _).mono ?_
    rintro e w2 ⟨pv, F, rfl, H2, hF2, hb2⟩
    go_wp2_with fail
    refine (refNew_any _).mono ?_
    rintro e w3 ⟨u, rfl, hn3, hb3, g3, n3, c3', hu3, hg3⟩
    obtain ⟨A1, c1, rfl, hA11, hA12⟩ := hn3.form
    unfold maxLen at hA12
    obtain ⟨w4, hw4⟩ : ∃ w', w3.alloc (.cells #[.slice A1 new.L.length c1, .int .i64 new.last] 29) = w' := ⟨_, rfl⟩
    obtain ⟨p0, hp0⟩ : ∃ p, w3.heap.size = p := ⟨_, rfl⟩
    have hb4 : Below w3.heap.size w3 w4 := by rw [← hw4]; exact below_one _ _
    have G0 : Hid (Goes Rep w1 w4 p0 pv 0 new F (.slice A1 new.L.length c1)) := by
      refine ⟨C.below H2 (on hb3 hb4), by rw [← hp0, ← hw4]; exact heap_top _ _, (hn3.below hb4).more hb4.size, ?_, fun hk => ?_, hF2, Nat.le_refl _, by decide, on hb2 (on hb3 hb4), by have := hb2.size; have := hb3.size; omega⟩
      · intro b o n c' e hk
        cases hu3
        cases e
        have := C.low H2 _ hk
        omega
      · have := C.low H2 _ hk; have := hb3.size; omega

    go_wp2_with fail
    clear hw4 hp0 hb4 hn3 hb3 hb2 hF2 H2 hg3 HS
    go_loopw [3, 5] (fun s3 s5 wr => ∃ (k : Nat) (t : Tr) (F : Nat → Prop) (u : Value), s5 = .int .i64 k ∧ k ≤ m ∧ Hid (Goes Rep w1 wr p0 s3 k t F u)) (fun _ s5 _ => m - (intOf s5).toNat)
    case atStart => exact ⟨0, _, _, _, rfl, Nat.zero_le _, G0⟩
    case round =>
      clear G0
      obtain ⟨k, t, F, u, rfl, hk, hg⟩ := hrel
      by_cases hlt : k < m
      · obtain ⟨b, o, hl1, rfl, hbl, a0, a1, a2, a3, a4, a5, a6⟩ := Acts.at_ (HA.out.below hg.out.below) hlt
        have hdat := HSD.out k hl1
        generalize hx : L[k] = x at *
        clear hx
        have hsm : Small t := ⟨by have := hg.out.len; omega, by have := hg.out.last; omega⟩
        have hbs := hg.out.below.size
        by_cases k1 : x.act < 0
        · skip
          go_wp2_with fail
          refine (C.copy hg.out.rep hsm).mono ?_
          rintro e w5 ⟨pw, F', rfl, H5, hF5, hb5⟩
          have G5 := Lib.hid (goes_copy C hg.out H5 hF5 hb5)
          have O5 := C.below hg.out.rep hb5
          have hlw := C.low hg.out.rep
          go_wp2_with fail
          refine (C.put O5 hsm 1 ⟨#[103, 111, 110, 101]⟩ 1 ⟨#[]⟩ (by decide)).mono ?_
          rintro e w6 ⟨rfl, F6, O6, ht6, hF6⟩
          have G6 := Lib.hid (goes_other C G5.out ht6 (fun i hi hj => by have := hF5 i hi; have := hlw i hj; omega) hg.out.offp hg.out.off hg.out.new)
          have hm6 := put_more t 1 (⟨#[103, 111, 110, 101]⟩ : ByteArray).data.toList 1 (⟨#[]⟩ : ByteArray).data.toList
          have hsm6 : Small (put t 1 (⟨#[103, 111, 110, 101]⟩ : ByteArray).data.toList 1 (⟨#[]⟩ : ByteArray).data.toList).1 := ⟨by have := hg.out.len; omega, by have := hg.out.last; omega⟩
          have hp5 := G5.out.box.lt
          have hpr := hg.out.box.lt
          have hz5 := hb5.size
          go_wp2_with fail
          refine (C.cut O6 hsm6 1 ⟨#[97]⟩).mono ?_
          rintro e w7 ⟨rfl, F7, O7, ht7, hF7⟩
          have G7 := Lib.hid (goes_other C G6.out ht7 (fun i hi hj => by have h1 := hF5 i hi; have h2 := C.low H5 i hi; rcases hF6 i hj with h3 | h3; have := hlw i h3; omega; omega) (fun hj => by rcases hF6 _ hj with h3 | h3; exact hg.out.offp h3; omega) (off_same G5.out.nodes (right_full (C.right H5)) hg.out.off hF6) (fun i hi => by rcases hF6 i hi with h3 | h3; exact hg.out.new i h3; omega))
          clear O5 O6 O7 ht6 ht7 hF6 hF7 hsm6 hm6 hF5 hlw H5 G5 G6 hp5 hpr hz5 hb5
          obtain ⟨Au, cu, hue, hu1, hu2⟩ := G7.out.nodes.form
          subst hue
          unfold maxLen at hu2
          obtain ⟨wA, hwA⟩ : ∃ w', w7.alloc (.cells #[.slice none 0 0, .int .i64 0] 29) = w' := ⟨_, rfl⟩
          obtain ⟨pB, hpB⟩ : ∃ q, w7.heap.size = q := ⟨_, rfl⟩
          have hbA : Below w7.heap.size w7 wA := by rw [← hwA]; exact below_one _ _
          have TB : TreeBox wA pB (.slice none 0 0) 0 := by rw [← hpB, ← hwA]; exact heap_top _ _
          have hnB : ¬ _ := fun hk => absurd (C.low G7.out.rep pB hk) (by omega)
          have hpp := G7.out.box.lt
          have hWw := G7.out.below.size
          have hltB := TB.lt
          have GA := Lib.hid (goes_other C G7.out (Turns.new (T := fun _ => False) hbA) (fun _ _ h => h) id (fun _ _ _ _ _ h => h) (fun _ h => h.elim))
          have aa0 := (GA.out.below.cell (p := ⟨b, o + k * 7, none⟩) hbl).trans ((hg.out.below.cell (p := ⟨b, o + k * 7, none⟩) hbl).symm.trans a0)
          have wa0 := (G7.out.below.cell (p := ⟨b, o + k * 7, none⟩) hbl).trans ((hg.out.below.cell (p := ⟨b, o + k * 7, none⟩) hbl).symm.trans a0)
          have aa1 := (GA.out.below.cell (p := ⟨b, o + k * 7 + 1, none⟩) hbl).trans ((hg.out.below.cell (p := ⟨b, o + k * 7 + 1, none⟩) hbl).symm.trans a1)
          have wa1 := (G7.out.below.cell (p := ⟨b, o + k * 7 + 1, none⟩) hbl).trans ((hg.out.below.cell (p := ⟨b, o + k * 7 + 1, none⟩) hbl).symm.trans a1)
          have aa2 := (GA.out.below.cell (p := ⟨b, o + k * 7 + 2, none⟩) hbl).trans ((hg.out.below.cell (p := ⟨b, o + k * 7 + 2, none⟩) hbl).symm.trans a2)
          have wa2 := (G7.out.below.cell (p := ⟨b, o + k * 7 + 2, none⟩) hbl).trans ((hg.out.below.cell (p := ⟨b, o + k * 7 + 2, none⟩) hbl).symm.trans a2)
          have aa3 := (GA.out.below.cell (p := ⟨b, o + k * 7 + 3, none⟩) hbl).trans ((hg.out.below.cell (p := ⟨b, o + k * 7 + 3, none⟩) hbl).symm.trans a3)
          have wa3 := (G7.out.below.cell (p := ⟨b, o + k * 7 + 3, none⟩) hbl).trans ((hg.out.below.cell (p := ⟨b, o + k * 7 + 3, none⟩) hbl).symm.trans a3)
          have aa4 := (GA.out.below.cell (p := ⟨b, o + k * 7 + 4, none⟩) hbl).trans ((hg.out.below.cell (p := ⟨b, o + k * 7 + 4, none⟩) hbl).symm.trans a4)
          have wa4 := (G7.out.below.cell (p := ⟨b, o + k * 7 + 4, none⟩) hbl).trans ((hg.out.below.cell (p := ⟨b, o + k * 7 + 4, none⟩) hbl).symm.trans a4)
          have aa5 := (GA.out.below.cell (p := ⟨b, o + k * 7 + 5, none⟩) hbl).trans ((hg.out.below.cell (p := ⟨b, o + k * 7 + 5, none⟩) hbl).symm.trans a5)
          have wa5 := (G7.out.below.cell (p := ⟨b, o + k * 7 + 5, none⟩) hbl).trans ((hg.out.below.cell (p := ⟨b, o + k * 7 + 5, none⟩) hbl).symm.trans a5)
          have aa6 := (GA.out.below.cell (p := ⟨b, o + k * 7 + 6, none⟩) hbl).trans ((hg.out.below.cell (p := ⟨b, o + k * 7 + 6, none⟩) hbl).symm.trans a6)
          have wa6 := (G7.out.below.cell (p := ⟨b, o + k * 7 + 6, none⟩) hbl).trans ((hg.out.below.cell (p := ⟨b, o + k * 7 + 6, none⟩) hbl).symm.trans a6)
          have wc0 := G7.out.box.c0
          have wc1 := G7.out.box.c1
          have hgl := GA.out.len
          have hgm := GA.out.last
          have HDO := Lib.hid (do_tree C (wA.drewN 1) (C.keep GA.out.rep (fun _ _ => rfl) (Nat.le_refl _)) ⟨by omega, by omega⟩ (.slice Au t.L.length cu) GA.out.nodes GA.out.off x.act x.dir x.to ⟨x.name.toArray⟩ ⟨x.alias.toArray⟩ x.kind ⟨x.data.toArray⟩ (by rw [Lib.size_eq]; show x.data.length ≤ _; unfold maxLen; omega))
          have HDW := Lib.hid (do_tree C (w7.drewN 1) (C.keep G7.out.rep (fun _ _ => rfl) (Nat.le_refl _)) ⟨by omega, by omega⟩ (.slice Au t.L.length cu) G7.out.nodes G7.out.off x.act x.dir x.to ⟨x.name.toArray⟩ ⟨x.alias.toArray⟩ x.kind ⟨x.data.toArray⟩ (by rw [Lib.size_eq]; show x.data.length ≤ _; unfold maxLen; omega))
          have hmore := doAct_more t x.act x.dir x.to (⟨x.name.toArray⟩ : ByteArray).data.toList (⟨x.alias.toArray⟩ : ByteArray).data.toList x.kind (⟨x.data.toArray⟩ : ByteArray).data.toList
          obtain ⟨t', hte⟩ : ∃ t', doAct t x.act x.dir x.to (⟨x.name.toArray⟩ : ByteArray).data.toList (⟨x.alias.toArray⟩ : ByteArray).data.toList x.kind (⟨x.data.toArray⟩ : ByteArray).data.toList = t' := ⟨_, rfl⟩
          rw [hte] at HDO HDW hmore
          clear hte
          have c0 := GA.out.box.c0
          have c1 := GA.out.box.c1
          have hoffb : ¬ _ := fun hk => absurd (GA.out.new b hk) (by omega)
          have hne : ¬ p0 = pB := by omega
          have hne2 : ¬ b = pB := by omega
          go_wp2_with fail
          go_region_held3 (fun w' => w'.cell? ⟨p0, 0, none⟩ = some (.slice Au t.L.length cu) ∧ w'.cell? ⟨p0, 1, none⟩ = some (.int .i64 t.last) ∧ w'.cell? ⟨b, o + k * 7, none⟩ = some (.int .i64 x.act) ∧ w'.cell? ⟨b, o + k * 7 + 1, none⟩ = some (.int .i64 x.dir) ∧ w'.cell? ⟨b, o + k * 7 + 2, none⟩ = some (.int .i64 x.to) ∧ w'.cell? ⟨b, o + k * 7 + 3, none⟩ = some (.string ⟨x.name.toArray⟩) ∧ w'.cell? ⟨b, o + k * 7 + 4, none⟩ = some (.string ⟨x.alias.toArray⟩) ∧ w'.cell? ⟨b, o + k * 7 + 5, none⟩ = some (.int .i64 x.kind) ∧ w'.cell? ⟨b, o + k * 7 + 6, none⟩ = some (.string ⟨x.data.toArray⟩))
            (first | exact ⟨f0, f1, g0, g1, g2, g3, g4, g5, g6⟩ | exact ⟨s0, s1, ss0, ss1, ss2, ss3, ss4, ss5, ss6⟩ | exact ⟨d0, d1, e0, e1, e2, e3, e4, e5, e6⟩ | exact ⟨c0, c1, aa0, aa1, aa2, aa3, aa4, aa5, aa6⟩ | exact ⟨wc0, wc1, wa0, wa1, wa2, wa3, wa4, wa5, wa6⟩ | go_keep)
            (first
              | (go_at_call 13; refine HDO.out.mono ?_; rintro e w8 ⟨u', F8, rfl, hn8, H8, ho8, ht8, hF8⟩; obtain ⟨A8, c8, hue8, hu81, hu82⟩ := hn8.form; subst hue8; unfold maxLen at hu82; have ht8' : Turns _ wA w8 := ⟨ht8.os, ht8.tape, ht8.output, ht8.size, ht8.block⟩; have hF8' : ∀ i, F8 i → _ ∨ wA.heap.size ≤ i := hF8; have d0 := ht8'.cell c0 GA.out.offp; have d1 := ht8'.cell c1 GA.out.offp; have e0 := ht8'.cell aa0 hoffb; have e1 := ht8'.cell aa1 hoffb; have e2 := ht8'.cell aa2 hoffb; have e3 := ht8'.cell aa3 hoffb; have e4 := ht8'.cell aa4 hoffb; have e5 := ht8'.cell aa5 hoffb; have e6 := ht8'.cell aa6 hoffb; have hz8 := ht8'.size; obtain ⟨pQ, hpQ⟩ : ∃ q, pB = q := ⟨_, rfl⟩; have TBN : TreeBox w8 pQ (.slice none 0 0) 0 := (by rw [← hpQ]; exact TB.turns ht8' hnB); have hnQ : ¬ F8 pQ := fun hk => (by rcases hF8' _ hk with h1 | h1; exact hnB (by rw [hpQ]; exact h1); omega); have hqn : ¬ p0 = pQ := (by omega); have hqb : ¬ b = pQ := (by omega); have hqw : ∀ i, i = pQ → w1.heap.size ≤ i := fun i hi => (by omega); have hoQ := off_box TBN hn8 (right_full (C.right H8)); have t0N : Turns (fun i => i = pQ) w8 w8 := Turns.refl _ _; have m0 := TBN.c0; have m1 := TBN.c1; have v0 := TBN.fr 0; have v1 := TBN.fr 1; obtain ⟨w9, hw9⟩ : ∃ w', (w8.setCell ⟨pQ, 0, none⟩ (.slice A8 t'.L.length c8)).setCell ⟨pQ, 1, none⟩ (.int .i64 t'.last) = w' := ⟨_, rfl⟩; have U9 : TreeBox w9 pQ (.slice A8 t'.L.length c8) t'.last := (by rw [← hw9]; exact box_stored2 TBN); have tqN : Turns (fun i => i = pQ) w8 w9 := (by rw [← hw9]; exact turns_box _ _ _ _); have tq9 := t0N.trans tqN; have f0 := tqN.cell d0 hqn; have f1 := tqN.cell d1 hqn; have g0 := tqN.cell e0 hqb; have g1 := tqN.cell e1 hqb; have g2 := tqN.cell e2 hqb; have g3 := tqN.cell e3 hqb; have g4 := tqN.cell e4 hqb; have g5 := tqN.cell e5 hqb; have g6 := tqN.cell e6 hqb; have G10 := Lib.hid (goes_next C GA.out hn8 H8 ho8 ht8' hF8' tq9 (fun i hi e => hnQ (by rw [← e]; exact hi)) hqn hoQ hqw hmore.1 hmore.2); obtain ⟨w10, hw10⟩ : ∃ w', (w9.setCell ⟨p0, 0, none⟩ (.slice A8 t'.L.length c8)).setCell ⟨p0, 1, none⟩ (.int .i64 t'.last) = w' := ⟨_, rfl⟩; rw [hw10] at G10; have b9 := (GA.out.box.turns ht8' GA.out.offp).turns tq9 hqn)
              | (go_at_call 13; refine HDW.out.mono ?_; rintro e w8 ⟨u', F8, rfl, hn8, H8, ho8, ht8, hF8⟩; obtain ⟨A8, c8, hue8, hu81, hu82⟩ := hn8.form; subst hue8; unfold maxLen at hu82; have ht8' : Turns _ w7 w8 := ⟨ht8.os, ht8.tape, ht8.output, ht8.size, ht8.block⟩; have hF8' : ∀ i, F8 i → _ ∨ w7.heap.size ≤ i := hF8; have d0 := ht8'.cell wc0 G7.out.offp; have d1 := ht8'.cell wc1 G7.out.offp; have e0 := ht8'.cell wa0 hoffb; have e1 := ht8'.cell wa1 hoffb; have e2 := ht8'.cell wa2 hoffb; have e3 := ht8'.cell wa3 hoffb; have e4 := ht8'.cell wa4 hoffb; have e5 := ht8'.cell wa5 hoffb; have e6 := ht8'.cell wa6 hoffb; have hz8 := ht8'.size; obtain ⟨pQ, hpQ⟩ : ∃ q, w8.heap.size = q := ⟨_, rfl⟩; obtain ⟨wN, hwN⟩ : ∃ w', w8.alloc (.cells #[.slice none 0 0, .int .i64 0] 29) = w' := ⟨_, rfl⟩; have TBN : TreeBox wN pQ (.slice none 0 0) 0 := (by rw [← hpQ, ← hwN]; exact heap_top _ _); have hbN : Below w8.heap.size w8 wN := (by rw [← hwN]; exact below_one _ _); have hpl : p0 < w8.heap.size := (by have := G7.out.box.lt; omega); have hbl8 : b < w8.heap.size := (by omega); have s0 := (hbN.cell (p := ⟨p0, 0, none⟩) hpl).trans d0; have s1 := (hbN.cell (p := ⟨p0, 1, none⟩) hpl).trans d1; have ss0 := (hbN.cell (p := ⟨b, o + k * 7, none⟩) hbl8).trans e0; have ss1 := (hbN.cell (p := ⟨b, o + k * 7 + 1, none⟩) hbl8).trans e1; have ss2 := (hbN.cell (p := ⟨b, o + k * 7 + 2, none⟩) hbl8).trans e2; have ss3 := (hbN.cell (p := ⟨b, o + k * 7 + 3, none⟩) hbl8).trans e3; have ss4 := (hbN.cell (p := ⟨b, o + k * 7 + 4, none⟩) hbl8).trans e4; have ss5 := (hbN.cell (p := ⟨b, o + k * 7 + 5, none⟩) hbl8).trans e5; have ss6 := (hbN.cell (p := ⟨b, o + k * 7 + 6, none⟩) hbl8).trans e6; have hnQ : ¬ F8 pQ := fun hk => absurd (C.low H8 pQ hk) (by omega); have hqn : ¬ p0 = pQ := (by omega); have hqb : ¬ b = pQ := (by omega); have hqw : ∀ i, i = pQ → _ ≤ i := fun i hi => (by rw [hi, ← hpQ]; exact Nat.le_trans G7.out.below.size hz8); have hoQ : Off (fun i => i = pQ) (.slice A8 t'.L.length c8) := off_same (F := fun _ => False) hn8 (right_full (C.right H8)) (fun _ _ _ _ _ h => h) (fun i hi => Or.inr (by omega)); have t0N : Turns (fun i => i = pQ) w8 wN := Turns.new hbN; have m0 := TBN.c0; have m1 := TBN.c1; have v0 := TBN.fr 0; have v1 := TBN.fr 1; obtain ⟨w9, hw9⟩ : ∃ w', (wN.setCell ⟨pQ, 0, none⟩ (.slice A8 t'.L.length c8)).setCell ⟨pQ, 1, none⟩ (.int .i64 t'.last) = w' := ⟨_, rfl⟩; have U9 : TreeBox w9 pQ (.slice A8 t'.L.length c8) t'.last := (by rw [← hw9]; exact box_stored2 TBN); have tqN : Turns (fun i => i = pQ) wN w9 := (by rw [← hw9]; exact turns_box _ _ _ _); have tq9 := t0N.trans tqN; have f0 := tqN.cell s0 hqn; have f1 := tqN.cell s1 hqn; have g0 := tqN.cell ss0 hqb; have g1 := tqN.cell ss1 hqb; have g2 := tqN.cell ss2 hqb; have g3 := tqN.cell ss3 hqb; have g4 := tqN.cell ss4 hqb; have g5 := tqN.cell ss5 hqb; have g6 := tqN.cell ss6 hqb; have G10 := Lib.hid (goes_next C G7.out hn8 H8 ho8 ht8' hF8' tq9 (fun i hi e => hnQ (by rw [← e]; exact hi)) hqn hoQ hqw hmore.1 hmore.2); obtain ⟨w10, hw10⟩ : ∃ w', (w9.setCell ⟨p0, 0, none⟩ (.slice A8 t'.L.length c8)).setCell ⟨p0, 1, none⟩ (.int .i64 t'.last) = w' := ⟨_, rfl⟩; rw [hw10] at G10; have b9 := (G7.out.box.turns ht8' G7.out.offp).turns tq9 hqn))
          all_goals (
            have z0 := b9.fr 0
            have z1 := b9.fr 1
            have n0 := U9.c0
            have n1 := U9.c1
            have r0 := G10.out.box.c0
            have r1 := G10.out.box.c1
            have HSM := Lib.hid (same_tree C w10 G10.out.rep ⟨by have := G10.out.len; omega, by have := G10.out.last; omega⟩ _ G10.out.nodes)
            clear HDO HDW d0 d1 e0 e1 e2 e3 e4 e5 e6 g0 g1 g2 g3 g4 g5 g6 f0 f1 c0 c1 aa0 aa1 aa2 aa3 aa4 aa5 aa6 wa0 wa1 wa2 wa3 wa4 wa5 wa6 wc0 wc1 a0 a1 a2 a3 a4 a5 a6 m0 m1 v0 v1
            go_wp2_with fail
            refine HSM.out.mono ?_
            rintro e w11 ⟨rfl, hb11⟩
            have G11 := Lib.hid (goes_other C G10.out (Turns.new (T := fun _ => False) hb11) (fun _ _ h => h) id (fun _ _ _ _ _ h => h) (fun _ h => h.elim))
            clear hb11 r0 r1 z0 z1 n0 n1 HSM
            go_wp2_with fail
            go_roundw
            case rel => exact ⟨k + 1, _, _, _, by go_num, by omega, G11⟩
            case measure => simp [intOf]; omega)
        · by_cases k2 : 3 < x.act
          · skip
            go_wp2_with fail
            refine (C.copy hg.out.rep hsm).mono ?_
            rintro e w5 ⟨pw, F', rfl, H5, hF5, hb5⟩
            have G5 := Lib.hid (goes_copy C hg.out H5 hF5 hb5)
            have O5 := C.below hg.out.rep hb5
            have hlw := C.low hg.out.rep
            go_wp2_with fail
            refine (C.put O5 hsm 1 ⟨#[103, 111, 110, 101]⟩ 1 ⟨#[]⟩ (by decide)).mono ?_
            rintro e w6 ⟨rfl, F6, O6, ht6, hF6⟩
            have G6 := Lib.hid (goes_other C G5.out ht6 (fun i hi hj => by have := hF5 i hi; have := hlw i hj; omega) hg.out.offp hg.out.off hg.out.new)
            have hm6 := put_more t 1 (⟨#[103, 111, 110, 101]⟩ : ByteArray).data.toList 1 (⟨#[]⟩ : ByteArray).data.toList
            have hsm6 : Small (put t 1 (⟨#[103, 111, 110, 101]⟩ : ByteArray).data.toList 1 (⟨#[]⟩ : ByteArray).data.toList).1 := ⟨by have := hg.out.len; omega, by have := hg.out.last; omega⟩
            have hp5 := G5.out.box.lt
            have hpr := hg.out.box.lt
            have hz5 := hb5.size
            go_wp2_with fail
            refine (C.cut O6 hsm6 1 ⟨#[97]⟩).mono ?_
            rintro e w7 ⟨rfl, F7, O7, ht7, hF7⟩
            have G7 := Lib.hid (goes_other C G6.out ht7 (fun i hi hj => by have h1 := hF5 i hi; have h2 := C.low H5 i hi; rcases hF6 i hj with h3 | h3; have := hlw i h3; omega; omega) (fun hj => by rcases hF6 _ hj with h3 | h3; exact hg.out.offp h3; omega) (off_same G5.out.nodes (right_full (C.right H5)) hg.out.off hF6) (fun i hi => by rcases hF6 i hi with h3 | h3; exact hg.out.new i h3; omega))
            clear O5 O6 O7 ht6 ht7 hF6 hF7 hsm6 hm6 hF5 hlw H5 G5 G6 hp5 hpr hz5 hb5
            obtain ⟨Au, cu, hue, hu1, hu2⟩ := G7.out.nodes.form
            subst hue
            unfold maxLen at hu2
            obtain ⟨wA, hwA⟩ : ∃ w', w7.alloc (.cells #[.slice none 0 0, .int .i64 0] 29) = w' := ⟨_, rfl⟩
            obtain ⟨pB, hpB⟩ : ∃ q, w7.heap.size = q := ⟨_, rfl⟩
            have hbA : Below w7.heap.size w7 wA := by rw [← hwA]; exact below_one _ _
            have TB : TreeBox wA pB (.slice none 0 0) 0 := by rw [← hpB, ← hwA]; exact heap_top _ _
            have hnB : ¬ _ := fun hk => absurd (C.low G7.out.rep pB hk) (by omega)
            have hpp := G7.out.box.lt
            have hWw := G7.out.below.size
            have hltB := TB.lt
            have GA := Lib.hid (goes_other C G7.out (Turns.new (T := fun _ => False) hbA) (fun _ _ h => h) id (fun _ _ _ _ _ h => h) (fun _ h => h.elim))
            have aa0 := (GA.out.below.cell (p := ⟨b, o + k * 7, none⟩) hbl).trans ((hg.out.below.cell (p := ⟨b, o + k * 7, none⟩) hbl).symm.trans a0)
            have wa0 := (G7.out.below.cell (p := ⟨b, o + k * 7, none⟩) hbl).trans ((hg.out.below.cell (p := ⟨b, o + k * 7, none⟩) hbl).symm.trans a0)
            have aa1 := (GA.out.below.cell (p := ⟨b, o + k * 7 + 1, none⟩) hbl).trans ((hg.out.below.cell (p := ⟨b, o + k * 7 + 1, none⟩) hbl).symm.trans a1)
            have wa1 := (G7.out.below.cell (p := ⟨b, o + k * 7 + 1, none⟩) hbl).trans ((hg.out.below.cell (p := ⟨b, o + k * 7 + 1, none⟩) hbl).symm.trans a1)
            have aa2 := (GA.out.below.cell (p := ⟨b, o + k * 7 + 2, none⟩) hbl).trans ((hg.out.below.cell (p := ⟨b, o + k * 7 + 2, none⟩) hbl).symm.trans a2)
            have wa2 := (G7.out.below.cell (p := ⟨b, o + k * 7 + 2, none⟩) hbl).trans ((hg.out.below.cell (p := ⟨b, o + k * 7 + 2, none⟩) hbl).symm.trans a2)
            have aa3 := (GA.out.below.cell (p := ⟨b, o + k * 7 + 3, none⟩) hbl).trans ((hg.out.below.cell (p := ⟨b, o + k * 7 + 3, none⟩) hbl).symm.trans a3)
            have wa3 := (G7.out.below.cell (p := ⟨b, o + k * 7 + 3, none⟩) hbl).trans ((hg.out.below.cell (p := ⟨b, o + k * 7 + 3, none⟩) hbl).symm.trans a3)
            have aa4 := (GA.out.below.cell (p := ⟨b, o + k * 7 + 4, none⟩) hbl).trans ((hg.out.below.cell (p := ⟨b, o + k * 7 + 4, none⟩) hbl).symm.trans a4)
            have wa4 := (G7.out.below.cell (p := ⟨b, o + k * 7 + 4, none⟩) hbl).trans ((hg.out.below.cell (p := ⟨b, o + k * 7 + 4, none⟩) hbl).symm.trans a4)
            have aa5 := (GA.out.below.cell (p := ⟨b, o + k * 7 + 5, none⟩) hbl).trans ((hg.out.below.cell (p := ⟨b, o + k * 7 + 5, none⟩) hbl).symm.trans a5)
            have wa5 := (G7.out.below.cell (p := ⟨b, o + k * 7 + 5, none⟩) hbl).trans ((hg.out.below.cell (p := ⟨b, o + k * 7 + 5, none⟩) hbl).symm.trans a5)
            have aa6 := (GA.out.below.cell (p := ⟨b, o + k * 7 + 6, none⟩) hbl).trans ((hg.out.below.cell (p := ⟨b, o + k * 7 + 6, none⟩) hbl).symm.trans a6)
            have wa6 := (G7.out.below.cell (p := ⟨b, o + k * 7 + 6, none⟩) hbl).trans ((hg.out.below.cell (p := ⟨b, o + k * 7 + 6, none⟩) hbl).symm.trans a6)
            have wc0 := G7.out.box.c0
            have wc1 := G7.out.box.c1
            have hgl := GA.out.len
            have hgm := GA.out.last
            have HDO := Lib.hid (do_tree C (wA.drewN 1) (C.keep GA.out.rep (fun _ _ => rfl) (Nat.le_refl _)) ⟨by omega, by omega⟩ (.slice Au t.L.length cu) GA.out.nodes GA.out.off x.act x.dir x.to ⟨x.name.toArray⟩ ⟨x.alias.toArray⟩ x.kind ⟨x.data.toArray⟩ (by rw [Lib.size_eq]; show x.data.length ≤ _; unfold maxLen; omega))
            have HDW := Lib.hid (do_tree C (w7.drewN 1) (C.keep G7.out.rep (fun _ _ => rfl) (Nat.le_refl _)) ⟨by omega, by omega⟩ (.slice Au t.L.length cu) G7.out.nodes G7.out.off x.act x.dir x.to ⟨x.name.toArray⟩ ⟨x.alias.toArray⟩ x.kind ⟨x.data.toArray⟩ (by rw [Lib.size_eq]; show x.data.length ≤ _; unfold maxLen; omega))
            have hmore := doAct_more t x.act x.dir x.to (⟨x.name.toArray⟩ : ByteArray).data.toList (⟨x.alias.toArray⟩ : ByteArray).data.toList x.kind (⟨x.data.toArray⟩ : ByteArray).data.toList
            obtain ⟨t', hte⟩ : ∃ t', doAct t x.act x.dir x.to (⟨x.name.toArray⟩ : ByteArray).data.toList (⟨x.alias.toArray⟩ : ByteArray).data.toList x.kind (⟨x.data.toArray⟩ : ByteArray).data.toList = t' := ⟨_, rfl⟩
            rw [hte] at HDO HDW hmore
            clear hte
            have c0 := GA.out.box.c0
            have c1 := GA.out.box.c1
            have hoffb : ¬ _ := fun hk => absurd (GA.out.new b hk) (by omega)
            have hne : ¬ p0 = pB := by omega
            have hne2 : ¬ b = pB := by omega
            go_wp2_with fail
            go_region_held3 (fun w' => w'.cell? ⟨p0, 0, none⟩ = some (.slice Au t.L.length cu) ∧ w'.cell? ⟨p0, 1, none⟩ = some (.int .i64 t.last) ∧ w'.cell? ⟨b, o + k * 7, none⟩ = some (.int .i64 x.act) ∧ w'.cell? ⟨b, o + k * 7 + 1, none⟩ = some (.int .i64 x.dir) ∧ w'.cell? ⟨b, o + k * 7 + 2, none⟩ = some (.int .i64 x.to) ∧ w'.cell? ⟨b, o + k * 7 + 3, none⟩ = some (.string ⟨x.name.toArray⟩) ∧ w'.cell? ⟨b, o + k * 7 + 4, none⟩ = some (.string ⟨x.alias.toArray⟩) ∧ w'.cell? ⟨b, o + k * 7 + 5, none⟩ = some (.int .i64 x.kind) ∧ w'.cell? ⟨b, o + k * 7 + 6, none⟩ = some (.string ⟨x.data.toArray⟩))
              (first | exact ⟨f0, f1, g0, g1, g2, g3, g4, g5, g6⟩ | exact ⟨s0, s1, ss0, ss1, ss2, ss3, ss4, ss5, ss6⟩ | exact ⟨d0, d1, e0, e1, e2, e3, e4, e5, e6⟩ | exact ⟨c0, c1, aa0, aa1, aa2, aa3, aa4, aa5, aa6⟩ | exact ⟨wc0, wc1, wa0, wa1, wa2, wa3, wa4, wa5, wa6⟩ | go_keep)
              (first
                | (go_at_call 13; refine HDO.out.mono ?_; rintro e w8 ⟨u', F8, rfl, hn8, H8, ho8, ht8, hF8⟩; obtain ⟨A8, c8, hue8, hu81, hu82⟩ := hn8.form; subst hue8; unfold maxLen at hu82; have ht8' : Turns _ wA w8 := ⟨ht8.os, ht8.tape, ht8.output, ht8.size, ht8.block⟩; have hF8' : ∀ i, F8 i → _ ∨ wA.heap.size ≤ i := hF8; have d0 := ht8'.cell c0 GA.out.offp; have d1 := ht8'.cell c1 GA.out.offp; have e0 := ht8'.cell aa0 hoffb; have e1 := ht8'.cell aa1 hoffb; have e2 := ht8'.cell aa2 hoffb; have e3 := ht8'.cell aa3 hoffb; have e4 := ht8'.cell aa4 hoffb; have e5 := ht8'.cell aa5 hoffb; have e6 := ht8'.cell aa6 hoffb; have hz8 := ht8'.size; obtain ⟨pQ, hpQ⟩ : ∃ q, pB = q := ⟨_, rfl⟩; have TBN : TreeBox w8 pQ (.slice none 0 0) 0 := (by rw [← hpQ]; exact TB.turns ht8' hnB); have hnQ : ¬ F8 pQ := fun hk => (by rcases hF8' _ hk with h1 | h1; exact hnB (by rw [hpQ]; exact h1); omega); have hqn : ¬ p0 = pQ := (by omega); have hqb : ¬ b = pQ := (by omega); have hqw : ∀ i, i = pQ → w1.heap.size ≤ i := fun i hi => (by omega); have hoQ := off_box TBN hn8 (right_full (C.right H8)); have t0N : Turns (fun i => i = pQ) w8 w8 := Turns.refl _ _; have m0 := TBN.c0; have m1 := TBN.c1; have v0 := TBN.fr 0; have v1 := TBN.fr 1; obtain ⟨w9, hw9⟩ : ∃ w', (w8.setCell ⟨pQ, 0, none⟩ (.slice A8 t'.L.length c8)).setCell ⟨pQ, 1, none⟩ (.int .i64 t'.last) = w' := ⟨_, rfl⟩; have U9 : TreeBox w9 pQ (.slice A8 t'.L.length c8) t'.last := (by rw [← hw9]; exact box_stored2 TBN); have tqN : Turns (fun i => i = pQ) w8 w9 := (by rw [← hw9]; exact turns_box _ _ _ _); have tq9 := t0N.trans tqN; have f0 := tqN.cell d0 hqn; have f1 := tqN.cell d1 hqn; have g0 := tqN.cell e0 hqb; have g1 := tqN.cell e1 hqb; have g2 := tqN.cell e2 hqb; have g3 := tqN.cell e3 hqb; have g4 := tqN.cell e4 hqb; have g5 := tqN.cell e5 hqb; have g6 := tqN.cell e6 hqb; have G10 := Lib.hid (goes_next C GA.out hn8 H8 ho8 ht8' hF8' tq9 (fun i hi e => hnQ (by rw [← e]; exact hi)) hqn hoQ hqw hmore.1 hmore.2); obtain ⟨w10, hw10⟩ : ∃ w', (w9.setCell ⟨p0, 0, none⟩ (.slice A8 t'.L.length c8)).setCell ⟨p0, 1, none⟩ (.int .i64 t'.last) = w' := ⟨_, rfl⟩; rw [hw10] at G10; have b9 := (GA.out.box.turns ht8' GA.out.offp).turns tq9 hqn)
                | (go_at_call 13; refine HDW.out.mono ?_; rintro e w8 ⟨u', F8, rfl, hn8, H8, ho8, ht8, hF8⟩; obtain ⟨A8, c8, hue8, hu81, hu82⟩ := hn8.form; subst hue8; unfold maxLen at hu82; have ht8' : Turns _ w7 w8 := ⟨ht8.os, ht8.tape, ht8.output, ht8.size, ht8.block⟩; have hF8' : ∀ i, F8 i → _ ∨ w7.heap.size ≤ i := hF8; have d0 := ht8'.cell wc0 G7.out.offp; have d1 := ht8'.cell wc1 G7.out.offp; have e0 := ht8'.cell wa0 hoffb; have e1 := ht8'.cell wa1 hoffb; have e2 := ht8'.cell wa2 hoffb; have e3 := ht8'.cell wa3 hoffb; have e4 := ht8'.cell wa4 hoffb; have e5 := ht8'.cell wa5 hoffb; have e6 := ht8'.cell wa6 hoffb; have hz8 := ht8'.size; obtain ⟨pQ, hpQ⟩ : ∃ q, w8.heap.size = q := ⟨_, rfl⟩; obtain ⟨wN, hwN⟩ : ∃ w', w8.alloc (.cells #[.slice none 0 0, .int .i64 0] 29) = w' := ⟨_, rfl⟩; have TBN : TreeBox wN pQ (.slice none 0 0) 0 := (by rw [← hpQ, ← hwN]; exact heap_top _ _); have hbN : Below w8.heap.size w8 wN := (by rw [← hwN]; exact below_one _ _); have hpl : p0 < w8.heap.size := (by have := G7.out.box.lt; omega); have hbl8 : b < w8.heap.size := (by omega); have s0 := (hbN.cell (p := ⟨p0, 0, none⟩) hpl).trans d0; have s1 := (hbN.cell (p := ⟨p0, 1, none⟩) hpl).trans d1; have ss0 := (hbN.cell (p := ⟨b, o + k * 7, none⟩) hbl8).trans e0; have ss1 := (hbN.cell (p := ⟨b, o + k * 7 + 1, none⟩) hbl8).trans e1; have ss2 := (hbN.cell (p := ⟨b, o + k * 7 + 2, none⟩) hbl8).trans e2; have ss3 := (hbN.cell (p := ⟨b, o + k * 7 + 3, none⟩) hbl8).trans e3; have ss4 := (hbN.cell (p := ⟨b, o + k * 7 + 4, none⟩) hbl8).trans e4; have ss5 := (hbN.cell (p := ⟨b, o + k * 7 + 5, none⟩) hbl8).trans e5; have ss6 := (hbN.cell (p := ⟨b, o + k * 7 + 6, none⟩) hbl8).trans e6; have hnQ : ¬ F8 pQ := fun hk => absurd (C.low H8 pQ hk) (by omega); have hqn : ¬ p0 = pQ := (by omega); have hqb : ¬ b = pQ := (by omega); have hqw : ∀ i, i = pQ → _ ≤ i := fun i hi => (by rw [hi, ← hpQ]; exact Nat.le_trans G7.out.below.size hz8); have hoQ : Off (fun i => i = pQ) (.slice A8 t'.L.length c8) := off_same (F := fun _ => False) hn8 (right_full (C.right H8)) (fun _ _ _ _ _ h => h) (fun i hi => Or.inr (by omega)); have t0N : Turns (fun i => i = pQ) w8 wN := Turns.new hbN; have m0 := TBN.c0; have m1 := TBN.c1; have v0 := TBN.fr 0; have v1 := TBN.fr 1; obtain ⟨w9, hw9⟩ : ∃ w', (wN.setCell ⟨pQ, 0, none⟩ (.slice A8 t'.L.length c8)).setCell ⟨pQ, 1, none⟩ (.int .i64 t'.last) = w' := ⟨_, rfl⟩; have U9 : TreeBox w9 pQ (.slice A8 t'.L.length c8) t'.last := (by rw [← hw9]; exact box_stored2 TBN); have tqN : Turns (fun i => i = pQ) wN w9 := (by rw [← hw9]; exact turns_box _ _ _ _); have tq9 := t0N.trans tqN; have f0 := tqN.cell s0 hqn; have f1 := tqN.cell s1 hqn; have g0 := tqN.cell ss0 hqb; have g1 := tqN.cell ss1 hqb; have g2 := tqN.cell ss2 hqb; have g3 := tqN.cell ss3 hqb; have g4 := tqN.cell ss4 hqb; have g5 := tqN.cell ss5 hqb; have g6 := tqN.cell ss6 hqb; have G10 := Lib.hid (goes_next C G7.out hn8 H8 ho8 ht8' hF8' tq9 (fun i hi e => hnQ (by rw [← e]; exact hi)) hqn hoQ hqw hmore.1 hmore.2); obtain ⟨w10, hw10⟩ : ∃ w', (w9.setCell ⟨p0, 0, none⟩ (.slice A8 t'.L.length c8)).setCell ⟨p0, 1, none⟩ (.int .i64 t'.last) = w' := ⟨_, rfl⟩; rw [hw10] at G10; have b9 := (G7.out.box.turns ht8' G7.out.offp).turns tq9 hqn))
            all_goals (
              have z0 := b9.fr 0
              have z1 := b9.fr 1
              have n0 := U9.c0
              have n1 := U9.c1
              have r0 := G10.out.box.c0
              have r1 := G10.out.box.c1
              have HSM := Lib.hid (same_tree C w10 G10.out.rep ⟨by have := G10.out.len; omega, by have := G10.out.last; omega⟩ _ G10.out.nodes)
              clear HDO HDW d0 d1 e0 e1 e2 e3 e4 e5 e6 g0 g1 g2 g3 g4 g5 g6 f0 f1 c0 c1 aa0 aa1 aa2 aa3 aa4 aa5 aa6 wa0 wa1 wa2 wa3 wa4 wa5 wa6 wc0 wc1 a0 a1 a2 a3 a4 a5 a6 m0 m1 v0 v1
              go_wp2_with fail
              refine HSM.out.mono ?_
              rintro e w11 ⟨rfl, hb11⟩
              have G11 := Lib.hid (goes_other C G10.out (Turns.new (T := fun _ => False) hb11) (fun _ _ h => h) id (fun _ _ _ _ _ h => h) (fun _ h => h.elim))
              clear hb11 r0 r1 z0 z1 n0 n1 HSM
              go_wp2_with fail
              go_roundw
              case rel => exact ⟨k + 1, _, _, _, by go_num, by omega, G11⟩
              case measure => simp [intOf]; omega)
          · skip
            obtain ⟨Au, cu, hue, hu1, hu2⟩ := hg.out.nodes.form
            subst hue
            unfold maxLen at hu2
            obtain ⟨wA, hwA⟩ : ∃ w', wr.alloc (.cells #[.slice none 0 0, .int .i64 0] 29) = w' := ⟨_, rfl⟩
            obtain ⟨pB, hpB⟩ : ∃ q, wr.heap.size = q := ⟨_, rfl⟩
            have hbA : Below wr.heap.size wr wA := by rw [← hwA]; exact below_one _ _
            have TB : TreeBox wA pB (.slice none 0 0) 0 := by rw [← hpB, ← hwA]; exact heap_top _ _
            have hnB : ¬ _ := fun hk => absurd (C.low hg.out.rep pB hk) (by omega)
            have hpp := hg.out.box.lt
            have hWw := hg.out.below.size
            have hltB := TB.lt
            have GA := Lib.hid (goes_other C hg.out (Turns.new (T := fun _ => False) hbA) (fun _ _ h => h) id (fun _ _ _ _ _ h => h) (fun _ h => h.elim))
            have aa0 := (GA.out.below.cell (p := ⟨b, o + k * 7, none⟩) hbl).trans ((hg.out.below.cell (p := ⟨b, o + k * 7, none⟩) hbl).symm.trans a0)
            have wa0 := (hg.out.below.cell (p := ⟨b, o + k * 7, none⟩) hbl).trans ((hg.out.below.cell (p := ⟨b, o + k * 7, none⟩) hbl).symm.trans a0)
            have aa1 := (GA.out.below.cell (p := ⟨b, o + k * 7 + 1, none⟩) hbl).trans ((hg.out.below.cell (p := ⟨b, o + k * 7 + 1, none⟩) hbl).symm.trans a1)
            have wa1 := (hg.out.below.cell (p := ⟨b, o + k * 7 + 1, none⟩) hbl).trans ((hg.out.below.cell (p := ⟨b, o + k * 7 + 1, none⟩) hbl).symm.trans a1)
            have aa2 := (GA.out.below.cell (p := ⟨b, o + k * 7 + 2, none⟩) hbl).trans ((hg.out.below.cell (p := ⟨b, o + k * 7 + 2, none⟩) hbl).symm.trans a2)
            have wa2 := (hg.out.below.cell (p := ⟨b, o + k * 7 + 2, none⟩) hbl).trans ((hg.out.below.cell (p := ⟨b, o + k * 7 + 2, none⟩) hbl).symm.trans a2)
            have aa3 := (GA.out.below.cell (p := ⟨b, o + k * 7 + 3, none⟩) hbl).trans ((hg.out.below.cell (p := ⟨b, o + k * 7 + 3, none⟩) hbl).symm.trans a3)
            have wa3 := (hg.out.below.cell (p := ⟨b, o + k * 7 + 3, none⟩) hbl).trans ((hg.out.below.cell (p := ⟨b, o + k * 7 + 3, none⟩) hbl).symm.trans a3)
            have aa4 := (GA.out.below.cell (p := ⟨b, o + k * 7 + 4, none⟩) hbl).trans ((hg.out.below.cell (p := ⟨b, o + k * 7 + 4, none⟩) hbl).symm.trans a4)
            have wa4 := (hg.out.below.cell (p := ⟨b, o + k * 7 + 4, none⟩) hbl).trans ((hg.out.below.cell (p := ⟨b, o + k * 7 + 4, none⟩) hbl).symm.trans a4)
            have aa5 := (GA.out.below.cell (p := ⟨b, o + k * 7 + 5, none⟩) hbl).trans ((hg.out.below.cell (p := ⟨b, o + k * 7 + 5, none⟩) hbl).symm.trans a5)
            have wa5 := (hg.out.below.cell (p := ⟨b, o + k * 7 + 5, none⟩) hbl).trans ((hg.out.below.cell (p := ⟨b, o + k * 7 + 5, none⟩) hbl).symm.trans a5)
            have aa6 := (GA.out.below.cell (p := ⟨b, o + k * 7 + 6, none⟩) hbl).trans ((hg.out.below.cell (p := ⟨b, o + k * 7 + 6, none⟩) hbl).symm.trans a6)
            have wa6 := (hg.out.below.cell (p := ⟨b, o + k * 7 + 6, none⟩) hbl).trans ((hg.out.below.cell (p := ⟨b, o + k * 7 + 6, none⟩) hbl).symm.trans a6)
            have wc0 := hg.out.box.c0
            have wc1 := hg.out.box.c1
            have hgl := GA.out.len
            have hgm := GA.out.last
            have HDO := Lib.hid (do_tree C (wA.drewN 1) (C.keep GA.out.rep (fun _ _ => rfl) (Nat.le_refl _)) ⟨by omega, by omega⟩ (.slice Au t.L.length cu) GA.out.nodes GA.out.off x.act x.dir x.to ⟨x.name.toArray⟩ ⟨x.alias.toArray⟩ x.kind ⟨x.data.toArray⟩ (by rw [Lib.size_eq]; show x.data.length ≤ _; unfold maxLen; omega))
            have HDW := Lib.hid (do_tree C (wr.drewN 1) (C.keep hg.out.rep (fun _ _ => rfl) (Nat.le_refl _)) ⟨by omega, by omega⟩ (.slice Au t.L.length cu) hg.out.nodes hg.out.off x.act x.dir x.to ⟨x.name.toArray⟩ ⟨x.alias.toArray⟩ x.kind ⟨x.data.toArray⟩ (by rw [Lib.size_eq]; show x.data.length ≤ _; unfold maxLen; omega))
            have hmore := doAct_more t x.act x.dir x.to (⟨x.name.toArray⟩ : ByteArray).data.toList (⟨x.alias.toArray⟩ : ByteArray).data.toList x.kind (⟨x.data.toArray⟩ : ByteArray).data.toList
            obtain ⟨t', hte⟩ : ∃ t', doAct t x.act x.dir x.to (⟨x.name.toArray⟩ : ByteArray).data.toList (⟨x.alias.toArray⟩ : ByteArray).data.toList x.kind (⟨x.data.toArray⟩ : ByteArray).data.toList = t' := ⟨_, rfl⟩
            rw [hte] at HDO HDW hmore
            clear hte
            have c0 := GA.out.box.c0
            have c1 := GA.out.box.c1
            have hoffb : ¬ _ := fun hk => absurd (GA.out.new b hk) (by omega)
            have hne : ¬ p0 = pB := by omega
            have hne2 : ¬ b = pB := by omega
            go_wp2_with fail
            go_region_held3 (fun w' => w'.cell? ⟨p0, 0, none⟩ = some (.slice Au t.L.length cu) ∧ w'.cell? ⟨p0, 1, none⟩ = some (.int .i64 t.last) ∧ w'.cell? ⟨b, o + k * 7, none⟩ = some (.int .i64 x.act) ∧ w'.cell? ⟨b, o + k * 7 + 1, none⟩ = some (.int .i64 x.dir) ∧ w'.cell? ⟨b, o + k * 7 + 2, none⟩ = some (.int .i64 x.to) ∧ w'.cell? ⟨b, o + k * 7 + 3, none⟩ = some (.string ⟨x.name.toArray⟩) ∧ w'.cell? ⟨b, o + k * 7 + 4, none⟩ = some (.string ⟨x.alias.toArray⟩) ∧ w'.cell? ⟨b, o + k * 7 + 5, none⟩ = some (.int .i64 x.kind) ∧ w'.cell? ⟨b, o + k * 7 + 6, none⟩ = some (.string ⟨x.data.toArray⟩))
              (first | exact ⟨f0, f1, g0, g1, g2, g3, g4, g5, g6⟩ | exact ⟨s0, s1, ss0, ss1, ss2, ss3, ss4, ss5, ss6⟩ | exact ⟨d0, d1, e0, e1, e2, e3, e4, e5, e6⟩ | exact ⟨c0, c1, aa0, aa1, aa2, aa3, aa4, aa5, aa6⟩ | exact ⟨wc0, wc1, wa0, wa1, wa2, wa3, wa4, wa5, wa6⟩ | go_keep)
              (first
                | (go_at_call 13; refine HDO.out.mono ?_; rintro e w8 ⟨u', F8, rfl, hn8, H8, ho8, ht8, hF8⟩; obtain ⟨A8, c8, hue8, hu81, hu82⟩ := hn8.form; subst hue8; unfold maxLen at hu82; have ht8' : Turns _ wA w8 := ⟨ht8.os, ht8.tape, ht8.output, ht8.size, ht8.block⟩; have hF8' : ∀ i, F8 i → _ ∨ wA.heap.size ≤ i := hF8; have d0 := ht8'.cell c0 GA.out.offp; have d1 := ht8'.cell c1 GA.out.offp; have e0 := ht8'.cell aa0 hoffb; have e1 := ht8'.cell aa1 hoffb; have e2 := ht8'.cell aa2 hoffb; have e3 := ht8'.cell aa3 hoffb; have e4 := ht8'.cell aa4 hoffb; have e5 := ht8'.cell aa5 hoffb; have e6 := ht8'.cell aa6 hoffb; have hz8 := ht8'.size; obtain ⟨pQ, hpQ⟩ : ∃ q, pB = q := ⟨_, rfl⟩; have TBN : TreeBox w8 pQ (.slice none 0 0) 0 := (by rw [← hpQ]; exact TB.turns ht8' hnB); have hnQ : ¬ F8 pQ := fun hk => (by rcases hF8' _ hk with h1 | h1; exact hnB (by rw [hpQ]; exact h1); omega); have hqn : ¬ p0 = pQ := (by omega); have hqb : ¬ b = pQ := (by omega); have hqw : ∀ i, i = pQ → w1.heap.size ≤ i := fun i hi => (by omega); have hoQ := off_box TBN hn8 (right_full (C.right H8)); have t0N : Turns (fun i => i = pQ) w8 w8 := Turns.refl _ _; have m0 := TBN.c0; have m1 := TBN.c1; have v0 := TBN.fr 0; have v1 := TBN.fr 1; obtain ⟨w9, hw9⟩ : ∃ w', (w8.setCell ⟨pQ, 0, none⟩ (.slice A8 t'.L.length c8)).setCell ⟨pQ, 1, none⟩ (.int .i64 t'.last) = w' := ⟨_, rfl⟩; have U9 : TreeBox w9 pQ (.slice A8 t'.L.length c8) t'.last := (by rw [← hw9]; exact box_stored2 TBN); have tqN : Turns (fun i => i = pQ) w8 w9 := (by rw [← hw9]; exact turns_box _ _ _ _); have tq9 := t0N.trans tqN; have f0 := tqN.cell d0 hqn; have f1 := tqN.cell d1 hqn; have g0 := tqN.cell e0 hqb; have g1 := tqN.cell e1 hqb; have g2 := tqN.cell e2 hqb; have g3 := tqN.cell e3 hqb; have g4 := tqN.cell e4 hqb; have g5 := tqN.cell e5 hqb; have g6 := tqN.cell e6 hqb; have G10 := Lib.hid (goes_next C GA.out hn8 H8 ho8 ht8' hF8' tq9 (fun i hi e => hnQ (by rw [← e]; exact hi)) hqn hoQ hqw hmore.1 hmore.2); obtain ⟨w10, hw10⟩ : ∃ w', (w9.setCell ⟨p0, 0, none⟩ (.slice A8 t'.L.length c8)).setCell ⟨p0, 1, none⟩ (.int .i64 t'.last) = w' := ⟨_, rfl⟩; rw [hw10] at G10; have b9 := (GA.out.box.turns ht8' GA.out.offp).turns tq9 hqn)
                | (go_at_call 13; refine HDW.out.mono ?_; rintro e w8 ⟨u', F8, rfl, hn8, H8, ho8, ht8, hF8⟩; obtain ⟨A8, c8, hue8, hu81, hu82⟩ := hn8.form; subst hue8; unfold maxLen at hu82; have ht8' : Turns _ wr w8 := ⟨ht8.os, ht8.tape, ht8.output, ht8.size, ht8.block⟩; have hF8' : ∀ i, F8 i → _ ∨ wr.heap.size ≤ i := hF8; have d0 := ht8'.cell wc0 hg.out.offp; have d1 := ht8'.cell wc1 hg.out.offp; have e0 := ht8'.cell wa0 hoffb; have e1 := ht8'.cell wa1 hoffb; have e2 := ht8'.cell wa2 hoffb; have e3 := ht8'.cell wa3 hoffb; have e4 := ht8'.cell wa4 hoffb; have e5 := ht8'.cell wa5 hoffb; have e6 := ht8'.cell wa6 hoffb; have hz8 := ht8'.size; obtain ⟨pQ, hpQ⟩ : ∃ q, w8.heap.size = q := ⟨_, rfl⟩; obtain ⟨wN, hwN⟩ : ∃ w', w8.alloc (.cells #[.slice none 0 0, .int .i64 0] 29) = w' := ⟨_, rfl⟩; have TBN : TreeBox wN pQ (.slice none 0 0) 0 := (by rw [← hpQ, ← hwN]; exact heap_top _ _); have hbN : Below w8.heap.size w8 wN := (by rw [← hwN]; exact below_one _ _); have hpl : p0 < w8.heap.size := (by have := hg.out.box.lt; omega); have hbl8 : b < w8.heap.size := (by omega); have s0 := (hbN.cell (p := ⟨p0, 0, none⟩) hpl).trans d0; have s1 := (hbN.cell (p := ⟨p0, 1, none⟩) hpl).trans d1; have ss0 := (hbN.cell (p := ⟨b, o + k * 7, none⟩) hbl8).trans e0; have ss1 := (hbN.cell (p := ⟨b, o + k * 7 + 1, none⟩) hbl8).trans e1; have ss2 := (hbN.cell (p := ⟨b, o + k * 7 + 2, none⟩) hbl8).trans e2; have ss3 := (hbN.cell (p := ⟨b, o + k * 7 + 3, none⟩) hbl8).trans e3; have ss4 := (hbN.cell (p := ⟨b, o + k * 7 + 4, none⟩) hbl8).trans e4; have ss5 := (hbN.cell (p := ⟨b, o + k * 7 + 5, none⟩) hbl8).trans e5; have ss6 := (hbN.cell (p := ⟨b, o + k * 7 + 6, none⟩) hbl8).trans e6; have hnQ : ¬ F8 pQ := fun hk => absurd (C.low H8 pQ hk) (by omega); have hqn : ¬ p0 = pQ := (by omega); have hqb : ¬ b = pQ := (by omega); have hqw : ∀ i, i = pQ → _ ≤ i := fun i hi => (by rw [hi, ← hpQ]; exact Nat.le_trans hg.out.below.size hz8); have hoQ : Off (fun i => i = pQ) (.slice A8 t'.L.length c8) := off_same (F := fun _ => False) hn8 (right_full (C.right H8)) (fun _ _ _ _ _ h => h) (fun i hi => Or.inr (by omega)); have t0N : Turns (fun i => i = pQ) w8 wN := Turns.new hbN; have m0 := TBN.c0; have m1 := TBN.c1; have v0 := TBN.fr 0; have v1 := TBN.fr 1; obtain ⟨w9, hw9⟩ : ∃ w', (wN.setCell ⟨pQ, 0, none⟩ (.slice A8 t'.L.length c8)).setCell ⟨pQ, 1, none⟩ (.int .i64 t'.last) = w' := ⟨_, rfl⟩; have U9 : TreeBox w9 pQ (.slice A8 t'.L.length c8) t'.last := (by rw [← hw9]; exact box_stored2 TBN); have tqN : Turns (fun i => i = pQ) wN w9 := (by rw [← hw9]; exact turns_box _ _ _ _); have tq9 := t0N.trans tqN; have f0 := tqN.cell s0 hqn; have f1 := tqN.cell s1 hqn; have g0 := tqN.cell ss0 hqb; have g1 := tqN.cell ss1 hqb; have g2 := tqN.cell ss2 hqb; have g3 := tqN.cell ss3 hqb; have g4 := tqN.cell ss4 hqb; have g5 := tqN.cell ss5 hqb; have g6 := tqN.cell ss6 hqb; have G10 := Lib.hid (goes_next C hg.out hn8 H8 ho8 ht8' hF8' tq9 (fun i hi e => hnQ (by rw [← e]; exact hi)) hqn hoQ hqw hmore.1 hmore.2); obtain ⟨w10, hw10⟩ : ∃ w', (w9.setCell ⟨p0, 0, none⟩ (.slice A8 t'.L.length c8)).setCell ⟨p0, 1, none⟩ (.int .i64 t'.last) = w' := ⟨_, rfl⟩; rw [hw10] at G10; have b9 := (hg.out.box.turns ht8' hg.out.offp).turns tq9 hqn))
            all_goals (
              have z0 := b9.fr 0
              have z1 := b9.fr 1
              have n0 := U9.c0
              have n1 := U9.c1
              have r0 := G10.out.box.c0
              have r1 := G10.out.box.c1
              have HSM := Lib.hid (same_tree C w10 G10.out.rep ⟨by have := G10.out.len; omega, by have := G10.out.last; omega⟩ _ G10.out.nodes)
              clear HDO HDW d0 d1 e0 e1 e2 e3 e4 e5 e6 g0 g1 g2 g3 g4 g5 g6 f0 f1 c0 c1 aa0 aa1 aa2 aa3 aa4 aa5 aa6 wa0 wa1 wa2 wa3 wa4 wa5 wa6 wc0 wc1 a0 a1 a2 a3 a4 a5 a6 m0 m1 v0 v1
              go_wp2_with fail
              refine HSM.out.mono ?_
              rintro e w11 ⟨rfl, hb11⟩
              have G11 := Lib.hid (goes_other C G10.out (Turns.new (T := fun _ => False) hb11) (fun _ _ h => h) id (fun _ _ _ _ _ h => h) (fun _ h => h.elim))
              clear hb11 r0 r1 z0 z1 n0 n1 HSM
              go_wp2_with fail
              go_roundw
              case rel => exact ⟨k + 1, _, _, _, by go_num, by omega, G11⟩
              case measure => simp [intOf]; omega)
      · go_wp2_with fail
        refine (HLV.out _).mono ?_
        rintro e wz ⟨rfl, hbz⟩
        go_wp2_with fail
        go_ret
        exact ⟨rfl, on hg.out.below hbz⟩
end Go.Proofs.Ytelphegeeiocnaa.W07
