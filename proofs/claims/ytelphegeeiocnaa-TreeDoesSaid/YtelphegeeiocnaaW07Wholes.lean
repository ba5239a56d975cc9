/-
  Layer 7 (tree), a walk of the law TreeWhole over the contracts: it returns true, at every list of acts; nothing that was there is changed.
-/
import Derived.Test.YtelphegeeiocnaaW07Goes
import Derived.Test.YtelphegeeiocnaaW07Whole
import Derived.Test.YtelphegeeiocnaaRecAppend
namespace Go.Proofs.Ytelphegeeiocnaa.W07
open Go Go.RowKit Go.Proofs.Ytelphegeeiocnaa.Strs Go.Proofs.Ytelphegeeiocnaa.Recs Go.Proofs.Ytelphegeeiocnaa.M07 Go.Proofs.Ytelphegeeiocnaa.Range
open Go.Proofs.Ytelphegeeiocnaa.Kit (ret_str ret_bool ret_int mk_of mk_bytes ba_ext below_draws on)

theorem listed_eq {t : Tr} (h : Right t) (n : Int) : listed t n = listDir t.L n := by
  unfold listed
  split
  · rfl
  · rename_i hk
    symm
    rw [List.eq_nil_iff_forall_not_mem]
    intro e he
    obtain ⟨a, ha, e1, _, _⟩ := (mem_list h).1 he
    have := h.up a ha
    rw [e1] at this
    exact hk this
/-- an entry of a directory, and its node -/
theorem entry_at {t : Tr} (h : Right t) {n : Int} {k : Nat} (hk : k < (listDir t.L n).length) : (nodeAt t.L ((listDir t.L n)[k]).2).up = n ∧ (nodeAt t.L ((listDir t.L n)[k]).2).kind ≠ 0 := by
  obtain ⟨a, ha, e1, _, e3⟩ := (mem_list h).1 (List.getElem_mem hk)
  rw [← e3]
  show (nodeAt t.L a.num).up = n ∧ (nodeAt t.L a.num).kind ≠ 0
  rw [h.at_ ha]
  exact ⟨e1, h.kind a ha⟩
theorem take_num (met : List Int) {E : List M06.Ent} {k : Nat} (h : k < E.length) : met ++ (E.map (·.2)).take (k + 1) = (met ++ (E.map (·.2)).take k) ++ [(E[k]).2] := by
  rw [List.take_succ_eq_append_getElem (by rw [List.length_map]; exact h), List.append_assoc, List.getElem_map]
def numC (z : Int) : List Value := [.int .i64 z]
theorem numC_len (z : Int) : (numC z).length = 1 := rfl
theorem numC_one (z : Int) : ∀ c ∈ numC z, c.oneCell' = true := by intro c hc; simp [numC] at hc; subst hc; rfl
theorem num_info : (Try.prog.info? 3).map (fun i => (i.zero, i.size, i.bytes)) = some (some (.int .i64 0), 1, 8) := by kernel_rfl
theorem one_num (w : World) (z : Int) (t : TypeId) : Recs numC 1 (w.heap.size + 1) (w.alloc (.cells #[.int .i64 z] t)) (.slice (some ⟨w.heap.size, 0, none⟩) 1 1) [z] := by
  refine ⟨_, 1, rfl, Nat.le_refl _, by decide, fun _ => ⟨_, rfl, Nat.lt_succ_self _, fun k hk j hj => ?_⟩⟩
  obtain rfl : k = 0 := by simpa using hk
  obtain rfl : j = 0 := by omega
  exact cells_new w [.int .i64 z] t 0 _ rfl
/-- what is held while one goes through the directories: the tree, and the row of those that are met -/
structure Going (Rep : (Nat → Prop) → World → Value → Tr → Prop) (W0 wr : World) (pv : Value) (t : Tr) (F : Nat → Prop) (s : Value) (met : List Int) : Prop where
  rep : Rep F wr pv t
  row : wr.ownsRow W0.heap.size 3 1 s met.length (met.flatMap numC)
  below : Below W0.heap.size W0 wr
section
variable {Rep : (Nat → Prop) → World → Value → Tr → Prop} {W0 wr w1 : World} {pv s s' : Value} {t : Tr} {F : Nat → Prop} {met add : List Int}
theorem Going.call (C : Trees Rep) (h : Going Rep W0 wr pv t F s met) (hb : Below wr.heap.size wr w1) : Going Rep W0 w1 pv t F s met where
  rep := C.below h.rep hb
  row := by
    refine ⟨h.row.1, ?_⟩
    rcases h.row.2 with hn | ⟨g, cap, cur, hv, hg, hh, rest⟩
    · exact Or.inl hn
    · refine Or.inr ⟨g, cap, cur, hv, hg, ?_, rest⟩
      rw [hb.block g ?_]; exact hh
      rcases Nat.lt_or_ge g wr.heap.size with hlt | hge
      · exact hlt
      · rw [Array.getElem?_eq_none hge] at hh; cases hh
  below := on h.below hb
theorem Going.append (C : Trees Rep) (h : Going Rep W0 wr pv t F s met) (hF : ∀ k, F k → k < W0.heap.size) (hg : wr.grownBy w1 s.ownBlock) (hr : w1.ownsRow W0.heap.size 3 1 s' (met.length + add.length) (met.flatMap numC ++ add.flatMap numC)) : Going Rep W0 w1 pv t F s' (met ++ add) where
  rep := C.keep h.rep (fun k hk => hg.block k (C.low h.rep k hk) (fun e => by have := (h.row.lt k e.symm).1; have := hF k hk; omega)) hg.size
  row := by rw [List.length_append, List.flatMap_append]; exact hr
  below := h.below.grown hg h.below.size (fun k hk => (h.row.lt k hk).1)
theorem Going.form (h : Going Rep W0 wr pv t F s met) (h0 : 0 < met.length) : ∃ g cap, s = .slice (some ⟨g, 0, none⟩) met.length cap ∧ met.length ≤ cap ∧ cap ≤ maxLen ∧ g < wr.heap.size ∧ ∀ i (hi : i < met.length), wr.cell? ⟨g, i, none⟩ = some (.int .i64 met[i]) := by
  rcases h.row.2 with ⟨_, hn⟩ | ⟨g, cap, cur, rfl, hg, hh, hn, hcap, hsz, htk⟩
  · omega
  · refine ⟨g, cap, rfl, hn, hcap, ?_, fun i hi => ?_⟩
    · exact (h.row.lt g rfl).2
    · have hf := flat_at numC_len met i hi 0 (by omega)
      have hc := h.row.cells (g := g) rfl (i * 1 + 0) (.int .i64 met[i]) (by rw [hf]; rfl)
      rw [Addr.add_lit, Nat.mul_one, Nat.add_zero, Nat.zero_add] at hc
      exact hc
end
theorem going_start {Rep : (Nat → Prop) → World → Value → Tr → Prop} (C : Trees Rep) {W0 : World} {pv : Value} {t : Tr} {F : Nat → Prop} (h : Rep F W0 pv t) : Going Rep W0 (W0.alloc (.cells #[.int .i64 1] 3)) pv t F (.slice (some ⟨W0.heap.size, 0, none⟩) 1 1) [1] where
  rep := C.below h ((Below.refl _ _).alloc (Nat.le_refl _) _)
  row := ⟨rfl, Or.inr ⟨W0.heap.size, 1, #[.int .i64 1], rfl, Nat.le_refl _, by show (W0.heap.push _)[W0.heap.size]? = _; simp, Nat.le_refl _, by decide, rfl, rfl⟩⟩
  below := (Below.refl _ _).alloc (Nat.le_refl _) _

section
variable {w6 w' w'' : World} {p q i j : Nat} {x y : Value}
theorem two_on (hp : p < w6.heap.size) (hq : q < w6.heap.size) (h : w'.cell? ⟨p, i, none⟩ = some x ∧ w'.cell? ⟨q, j, none⟩ = some y ∧ Below w6.heap.size w6 w') (hb : Below w'.heap.size w' w'') : w''.cell? ⟨p, i, none⟩ = some x ∧ w''.cell? ⟨q, j, none⟩ = some y ∧ Below w6.heap.size w6 w'' := by
  obtain ⟨h1, h2, h3⟩ := h
  exact ⟨(hb.cell (Nat.lt_of_lt_of_le hp h3.size)).trans h1, (hb.cell (Nat.lt_of_lt_of_le hq h3.size)).trans h2, on h3 hb⟩
theorem four_on {i1 i2 i3 : Nat} {x1 x2 x3 : Value} (hp : p < w6.heap.size) (hq : q < w6.heap.size) (h : w'.cell? ⟨p, i1, none⟩ = some x1 ∧ w'.cell? ⟨p, i2, none⟩ = some x2 ∧ w'.cell? ⟨p, i3, none⟩ = some x3 ∧ w'.cell? ⟨q, j, none⟩ = some y ∧ Below w6.heap.size w6 w') (hb : Below w'.heap.size w' w'') : w''.cell? ⟨p, i1, none⟩ = some x1 ∧ w''.cell? ⟨p, i2, none⟩ = some x2 ∧ w''.cell? ⟨p, i3, none⟩ = some x3 ∧ w''.cell? ⟨q, j, none⟩ = some y ∧ Below w6.heap.size w6 w'' := by
  obtain ⟨h1, h2, h3, h4, h5⟩ := h
  have hp' := Nat.lt_of_lt_of_le hp h5.size
  exact ⟨(hb.cell hp').trans h1, (hb.cell hp').trans h2, (hb.cell hp').trans h3, (hb.cell (Nat.lt_of_lt_of_le hq h5.size)).trans h4, on h5 hb⟩
theorem four_below {i1 i2 i3 : Nat} {x1 x2 x3 : Value} (h : w'.cell? ⟨p, i1, none⟩ = some x1 ∧ w'.cell? ⟨p, i2, none⟩ = some x2 ∧ w'.cell? ⟨p, i3, none⟩ = some x3 ∧ w'.cell? ⟨q, j, none⟩ = some y ∧ Below w6.heap.size w6 w') : Below w6.heap.size w6 w' := h.2.2.2.2
theorem two_below (h : w'.cell? ⟨p, i, none⟩ = some x ∧ w'.cell? ⟨q, j, none⟩ = some y ∧ Below w6.heap.size w6 w') : Below w6.heap.size w6 w' := h.2.2
end
set_option maxHeartbeats 8000000 in
set_option maxRecDepth 100000 in
set_option linter.unusedSimpArgs false in
theorem treeWhole_over {Rep : (Nat → Prop) → World → Value → Tr → Prop} (C : Trees Rep) (w : World) (v : Value) (L : List Ac) (h : Acts w.heap.size w v L) : Calls Try.prog 4 #[v] w fun e w' => e = .returned (.bool true) ∧ Below w.heap.size w w' := by
  have HS := Lib.hid (short_any v L w.heap.size w h)
  have HLV := Lib.hid (lives_tree C)
  have HA := Lib.hid h
  obtain ⟨A, c, rfl, hA1, hA2⟩ := h.form
  unfold maxLen at hA2
  clear h
  cases hsh : isShort L with
  | false =>
    rw [hsh] at HS
    go_enter Try.func4, Try.ntmps4
    go_wp2_with fail
    refine HS.out.mono ?_
    rintro e w1 ⟨rfl, rfl⟩
    go_wp2_with fail
    refine (HLV.out _).mono ?_
    rintro e w2 ⟨rfl, hb⟩
    go_wp2_with fail
    go_ret
    exact ⟨rfl, hb⟩
  | true =>
    have hlen := short_len hsh
    have HSH := Lib.hid hsh
    rw [hsh] at HS
    clear hsh
    generalize hm : L.length = m at *
    have HM := Lib.hid hm
    clear hm
    have HSD := Lib.hid (fun k (hk : k < L.length) => short_data HSH.out hk)
    clear HSH
    go_enter Try.func4, Try.ntmps4
    go_wp2_with fail
    refine HS.out.mono ?_
    rintro e w1 ⟨rfl, rfl⟩
    go_wp2_with fail
    refine (C.new _).mono ?_
    rintro e w2 ⟨pv, F, rfl, H2, hF2, hb2⟩
    go_wp2_with fail
    refine (refNew_any _).mono ?_
    rintro e w3 ⟨u, rfl, hn3, hb3, g3, n3, c3', hu3, hg3⟩
    obtain ⟨A1, c1, rfl, hA11, hA12⟩ := hn3.form
    unfold maxLen at hA12
    obtain ⟨w4, hw4⟩ : ∃ w', w3.alloc (.cells #[.slice A1 new.L.length c1, .int .i64 new.last] 29) = w' := ⟨_, rfl⟩
    obtain ⟨p0, hp0⟩ : ∃ p, w3.heap.size = p := ⟨_, rfl⟩
    have hb4 : Below w3.heap.size w3 w4 := by rw [← hw4]; exact below_one _ _
    have G0 : Hid (Goes Rep w1 w4 p0 pv 0 new F (.slice A1 new.L.length c1)) := by
      refine ⟨C.below H2 (on hb3 hb4), by rw [← hp0, ← hw4]; exact heap_top _ _, (hn3.below hb4).more hb4.size, ?_, fun hk => ?_, hF2, Nat.le_refl _, by decide, on hb2 (on hb3 hb4), by have := hb2.size; have := hb3.size; omega⟩
      · intro b o n c' e hk
        cases hu3
        cases e
        have := C.low H2 _ hk
        omega
      · have := C.low H2 _ hk; have := hb3.size; omega
    go_wp2_with fail
    clear hw4 hp0 hb4 hn3 hb3 hb2 hF2 H2 hg3 HS
    go_loopw [5] (fun s5 wr => ∃ (k : Nat) (t : Tr) (F : Nat → Prop) (u : Value), s5 = .int .i64 k ∧ k ≤ m ∧ Hid (Goes Rep w1 wr p0 pv k t F u)) (fun s5 _ => m - (intOf s5).toNat)
    case atStart => exact ⟨0, _, _, _, rfl, Nat.zero_le _, G0⟩
    case round =>
      clear G0
      obtain ⟨k, t, F, u, rfl, hk, hg⟩ := hrel
      by_cases hlt : k < m
      · obtain ⟨b, o, hl1, rfl, hbl, a0, a1, a2, a3, a4, a5, a6⟩ := Acts.at_ (HA.out.below hg.out.below) hlt
        have hdat := HSD.out k hl1
        generalize hx : L[k] = x at *
        clear hx
        have hbs := hg.out.below.size
        obtain ⟨Au, cu, hue, hu1, hu2⟩ := hg.out.nodes.form
        subst hue
        unfold maxLen at hu2
        have wc0 := hg.out.box.c0
        have wc1 := hg.out.box.c1
        have wf0 := hg.out.box.fr 0
        have wf1 := hg.out.box.fr 1
        have hgl := hg.out.len
        have hgm := hg.out.last
        have HDW := Lib.hid (do_tree C (wr.drewN 1) (C.keep hg.out.rep (fun _ _ => rfl) (Nat.le_refl _)) ⟨by omega, by omega⟩ (.slice Au t.L.length cu) hg.out.nodes hg.out.off x.act x.dir x.to ⟨x.name.toArray⟩ ⟨x.alias.toArray⟩ x.kind ⟨x.data.toArray⟩ (by rw [Lib.size_eq]; show x.data.length ≤ _; unfold maxLen; omega))
        have hmore := doAct_more t x.act x.dir x.to (⟨x.name.toArray⟩ : ByteArray).data.toList (⟨x.alias.toArray⟩ : ByteArray).data.toList x.kind (⟨x.data.toArray⟩ : ByteArray).data.toList
        obtain ⟨t', hte⟩ : ∃ t', doAct t x.act x.dir x.to (⟨x.name.toArray⟩ : ByteArray).data.toList (⟨x.alias.toArray⟩ : ByteArray).data.toList x.kind (⟨x.data.toArray⟩ : ByteArray).data.toList = t' := ⟨_, rfl⟩
        rw [hte] at HDW hmore
        clear hte
        go_wp2_with fail
        go_region_with (first
          | (go_at_call 13; refine HDW.out.mono ?_; rintro e w8 ⟨u', F8, rfl, hn8, H8, ho8, ht8, hF8⟩; obtain ⟨A8, c8, hue8, hu81, hu82⟩ := hn8.form; subst hue8; unfold maxLen at hu82; have ht8' : Turns _ wr w8 := ⟨ht8.os, ht8.tape, ht8.output, ht8.size, ht8.block⟩; have hF8' : ∀ i, F8 i → _ ∨ wr.heap.size ≤ i := hF8; have b8 := hg.out.box.turns ht8' hg.out.offp; have c80 := b8.c0; have c81 := b8.c1; have f80 := b8.fr 0; have f81 := b8.fr 1))
        all_goals (
          have G10 := Lib.hid (goes_next C hg.out hn8 H8 ho8 ht8' hF8' (Turns.refl (fun _ => False) w8) (fun _ _ h => h) id (fun _ _ _ _ _ h => h) (fun _ h => h.elim) hmore.1 hmore.2)
          obtain ⟨w10, hw10⟩ : ∃ w', (w8.setCell ⟨p0, 0, none⟩ (.slice A8 t'.L.length c8)).setCell ⟨p0, 1, none⟩ (.int .i64 t'.last) = w' := ⟨_, rfl⟩
          rw [hw10] at G10
          clear c80 c81 f80 f81 b8 ht8 ht8' hF8 hF8' hn8 H8 ho8 HDW a0 a1 a2 a3 a4 a5 a6 wc0 wc1 wf0 wf1
          rw [hw10]
          clear hw10
          go_wp2_with fail
          go_roundw
          case rel => exact ⟨k + 1, _, _, _, by go_num, by omega, G10⟩
          case measure => simp [intOf]; omega)
      · have HR0 := Lib.hid hg.out.rep
        have hs : Small t := ⟨by have := hg.out.len; omega, by have := hg.out.last; omega⟩
        have ht61 : t.L.length ≤ 61 := by have := hg.out.len; omega
        have HSM := Lib.hid hs
        have HB0 := Lib.hid hg.out.below
        have HF := Lib.hid (C.low hg.out.rep)
        have HRT := Lib.hid (C.right hg.out.rep)
        have HST := Lib.hid (going_start C hg.out.rep)
        have HM0 := Lib.hid (met_start HRT.out)
        clear hg HA HSD hs HR0
        obtain ⟨W0, hW0⟩ : ∃ W0, W0 = wr := ⟨_, rfl⟩
        subst hW0
        obtain ⟨i0, hi, hz0, hz1, hz2⟩ := info_parts num_info
        have HI := Lib.hid hi
        clear hi
        go_wp2_with fail
        go_loopw [6, 7] (fun s6 s7 wr => ∃ (i : Nat) (met : List Int), s7 = .int .i64 i ∧ i ≤ met.length ∧ met.length ≤ 61 ∧ Hid (Met t met i) ∧ Hid (Going Rep W0 wr pv t F s6 met)) (fun _ s7 _ => 62 - (intOf s7).toNat)
        case atStart => exact ⟨0, [1], rfl, Nat.zero_le _, by decide, HM0, HST⟩
        case round =>
          clear HM0 HST
          obtain ⟨i, met, rfl, him, hm61, hmet, hgo⟩ := hrel
          have hm0 : 0 < met.length := List.length_pos_of_mem hmet.out.root
          obtain ⟨g, cap, hs6, hcap1, hcap2, hglt, hcell⟩ := hgo.out.form hm0
          subst hs6
          unfold maxLen at hcap2
          by_cases hlt2 : i < met.length
          · have hmi := hcell i hlt2
            have t200 : (met.length : Int) ≤ 200 := by omega
            have HL := Lib.hid (C.lists hgo.out.rep HSM.out met[i])
            rw [listed_eq HRT.out] at HL
            clear hcell
            have HNX := Lib.hid (met_next HRT.out hmet.out hlt2)
            have HEN := Lib.hid (fun k (hk : k < (listDir t.L met[i]).length) => entry_at HRT.out hk)
            have HRS := Lib.hid (list_rises t.L met[i])
            have hML := met_len HRT.out HNX.out
            have HKD : Hid (kids t met[i] = (listDir t.L met[i]).map (·.2)) := rfl
            have HMI : Hid (∀ rest : List Int, (met ++ rest)[i]? = some met[i]) := fun rest => by rw [List.getElem?_append_left hlt2, List.getElem?_eq_getElem hlt2]
            generalize kids t met[i] = kd at *
            generalize listDir t.L met[i] = E at *
            generalize met[i] = d at *
            rw [HKD.out] at HNX hML
            rw [List.length_append, List.length_map] at hML
            go_wp2_with fail
            refine HL.out.mono ?_
            rintro e w5 ⟨ve, rfl, he5, hlies, hb5⟩
            have G5 := Lib.hid (hgo.out.call C hb5)
            obtain ⟨A5, c5, hve, hA51, hA52⟩ := he5.form
            subst hve
            unfold maxLen at hA52
            have HE5 := Lib.hid he5
            have HO5 : Hid (∀ b o, A5 = some ⟨b, o, none⟩ → b ≠ g) := fun b o hb hbg => by
              subst hb
              rcases hlies b o _ _ rfl with h1 | h1
              · have h2 := HF.out b h1
                have h3 := (hgo.out.row.lt g rfl).1
                omega
              · omega
            clear hmi he5 hlies hb5 HL hgo hmet
            go_wp2_with fail
            go_loopw [6, 9] (fun s6 s9 wr => ∃ (k : Nat), s9 = .int .i64 k ∧ k ≤ E.length ∧ Hid (Going Rep W0 wr pv t F s6 (met ++ (E.map (·.2)).take k)) ∧ Hid (W06.Ents wr.heap.size wr (.slice A5 E.length c5) E) ∧ Hid (∀ b o, A5 = some ⟨b, o, none⟩ → some b ≠ s6.ownBlock)) (fun _ s9 _ => E.length - (intOf s9).toNat)
            case atStart => exact ⟨0, rfl, Nat.zero_le _, by rw [List.take_zero, List.append_nil]; exact G5, HE5, fun b o hb e => HO5.out b o hb (by cases e; rfl)⟩
            case round =>
              clear G5 HE5 HO5
              obtain ⟨k, rfl, hk, hgo, hee, hoo⟩ := hrel
              have hml : (met ++ (E.map (·.2)).take k).length = met.length + k := by rw [List.length_append, List.length_take, List.length_map]; omega
              obtain ⟨g2, cap2, hs6, hcap1, hcap2, hglt, hcell⟩ := hgo.out.form (by omega)
              rw [hml] at hs6
              subst hs6
              unfold maxLen at hcap2
              have hmi : wr.cell? ⟨g2, i, none⟩ = some (.int .i64 d) := by
                have h1 := hcell i (by omega)
                rw [h1]
                have h2 := HMI.out ((E.map (·.2)).take k)
                rw [List.getElem?_eq_getElem (by omega)] at h2
                rw [Option.some.inj h2]
              rw [hml] at hcap1
              have HCE := Lib.hid hcell
              clear hcell
              by_cases hlk : k < E.length
              · obtain ⟨b5, o5, hl5, tn, rfl, hbl5, htn, hc0, hc1⟩ := W06.Ents.at_ hee.out hlk
                obtain ⟨hup, hkind⟩ := HEN.out k hlk
                have HU := Lib.hid (fun (w' : World) (hb : Below wr.heap.size wr w') => C.up (C.below hgo.out.rep hb) HSM.out (E[k]).2)
                have HK := Lib.hid (fun (w' : World) (hb : Below wr.heap.size wr w') => C.kind (C.below hgo.out.rep hb) HSM.out (E[k]).2)
                rw [hup] at HU
                have hkz : ((nodeAt t.L (E[k]).2).kind == 0) = false := by simpa using hkind
                generalize (nodeAt t.L (E[k]).2).kind = kn at *
                have hdd : (d != d) = false := by simp
                clear hup hkind
                rcases Nat.eq_zero_or_pos k with hk0 | hk0
                · subst hk0
                  rw [Nat.zero_mul, Nat.add_zero] at hc0 hc1
                  have hb1 : (0 : Int) < (E.length : Int) := by omega
                  have hb3 : (i : Int) < (met.length : Int) := by omega
                  go_wp2_with fail
                  -- %region
                  refine wp_region_held_drew (S := fun w' => w'.cell? ⟨b5, o5 + 1, none⟩ = some (.int .i64 (E[0]).2) ∧ w'.cell? ⟨g2, i, none⟩ = some (.int .i64 d) ∧ Below wr.heap.size wr w') (by kernel_rfl) ⟨hc1, hmi, below_draws wr 1⟩ (fun hHeld => ?_)
                  refine wpAnyH_take (i := 0) (oi := { dst := some 56, op := Op.move (Operand.tmp 3), type := 25, pos := "law.go:113", after := #[], guard := none }) (v := ?v0) rfl ?zb0 ?zc0 ?zd0 ?ze0 ?zf0 ?zg0 ?zh0
                  case zf0 => (refine Or.inl ⟨by rfl, ?_⟩; intro w hSw; (try dsimp only at hSw); go_simp; try with_reducible rfl)
                  case zb0 => kernel_rfl
                  case zc0 => kernel_rfl
                  case zd0 => kernel_rfl
                  case ze0 => exact fun _ _ _ h => h
                  case zg0 => assumption
                  try simp only [Act.put, List.setIfInBounds_toArray, List.set_cons_zero, List.set_cons_succ]
                  refine wpAnyH_take (i := 1) (oi := { dst := some 57, op := Op.move (Operand.tmp 8), type := 41, pos := "law.go:113", after := #[], guard := none }) (v := ?v1) rfl ?zb1 ?zc1 ?zd1 ?ze1 ?zf1 ?zg1 ?zh1
                  case zf1 => (refine Or.inl ⟨by rfl, ?_⟩; intro w hSw; (try dsimp only at hSw); go_simp; try with_reducible rfl)
                  case zb1 => kernel_rfl
                  case zc1 => kernel_rfl
                  case zd1 => kernel_rfl
                  case ze1 => exact fun _ _ _ h => h
                  case zg1 => assumption
                  try simp only [Act.put, List.setIfInBounds_toArray, List.set_cons_zero, List.set_cons_succ]
                  refine wpAnyH_take (i := 2) (oi := { dst := some 58, op := Op.move (Operand.tmp 9), type := 3, pos := "law.go:113", after := #[], guard := none }) (v := ?v2) rfl ?zb2 ?zc2 ?zd2 ?ze2 ?zf2 ?zg2 ?zh2
                  case zf2 => (refine Or.inl ⟨by rfl, ?_⟩; intro w hSw; (try dsimp only at hSw); go_simp; try with_reducible rfl)
                  case zb2 => kernel_rfl
                  case zc2 => kernel_rfl
                  case zd2 => kernel_rfl
                  case ze2 => exact fun _ _ _ h => h
                  case zg2 => assumption
                  try simp only [Act.put, List.setIfInBounds_toArray, List.set_cons_zero, List.set_cons_succ]
                  refine wpAnyH_take (i := 3) (oi := { dst := some 59, op := Op.indexAddr 41 (Operand.tmp 57) (Operand.tmp 58), type := 0, pos := "law.go:113", after := #[{ on := 1, ground := Ground.data }, { on := 2, ground := Ground.data }], guard := none }) (v := ?v3) rfl ?zb3 ?zc3 ?zd3 ?ze3 ?zf3 ?zg3 ?zh3
                  case zf3 => (refine Or.inl ⟨by rfl, ?_⟩; intro w hSw; (try dsimp only at hSw); go_simp; try with_reducible rfl)
                  case zb3 => kernel_rfl
                  case zc3 => kernel_rfl
                  case zd3 => kernel_rfl
                  case ze3 => exact fun _ _ _ h => h
                  case zg3 => assumption
                  try simp only [Act.put, List.setIfInBounds_toArray, List.set_cons_zero, List.set_cons_succ]
                  refine wpAnyH_take (i := 4) (oi := { dst := some 60, op := Op.fieldAddr 45 (Operand.tmp 59) 1, type := 0, pos := "law.go:113", after := #[{ on := 3, ground := Ground.data }], guard := none }) (v := ?v4) rfl ?zb4 ?zc4 ?zd4 ?ze4 ?zf4 ?zg4 ?zh4
                  case zf4 => (refine Or.inl ⟨by rfl, ?_⟩; intro w hSw; (try dsimp only at hSw); go_simp; try with_reducible rfl)
                  case zb4 => kernel_rfl
                  case zc4 => kernel_rfl
                  case zd4 => kernel_rfl
                  case ze4 => exact fun _ _ _ h => h
                  case zg4 => assumption
                  try simp only [Act.put, List.setIfInBounds_toArray, List.set_cons_zero, List.set_cons_succ]
                  refine wpAnyH_take (i := 5) (oi := { dst := some 61, op := Op.load 3 (Operand.tmp 60), type := 3, pos := "law.go:113", after := #[{ on := 4, ground := Ground.data }], guard := none }) (v := ?v5) rfl ?zb5 ?zc5 ?zd5 ?ze5 ?zf5 ?zg5 ?zh5
                  case zf5 => (refine Or.inl ⟨by rfl, ?_⟩; intro w hSw; (try dsimp only at hSw); go_simp; try with_reducible rfl)
                  case zb5 => kernel_rfl
                  case zc5 => kernel_rfl
                  case zd5 => kernel_rfl
                  case ze5 => exact fun _ _ _ h => h
                  case zg5 => assumption
                  try simp only [Act.put, List.setIfInBounds_toArray, List.set_cons_zero, List.set_cons_succ]
                  refine wpAnyH_take (i := 7) (oi := { dst := some 63, op := Op.move (Operand.tmp 6), type := 40, pos := "law.go:113", after := #[], guard := none }) (v := ?v7) rfl ?zb7 ?zc7 ?zd7 ?ze7 ?zf7 ?zg7 ?zh7
                  case zf7 => (refine Or.inl ⟨by rfl, ?_⟩; intro w hSw; (try dsimp only at hSw); go_simp; try with_reducible rfl)
                  case zb7 => kernel_rfl
                  case zc7 => kernel_rfl
                  case zd7 => kernel_rfl
                  case ze7 => exact fun _ _ _ h => h
                  case zg7 => assumption
                  try simp only [Act.put, List.setIfInBounds_toArray, List.set_cons_zero, List.set_cons_succ]
                  refine wpAnyH_take (i := 8) (oi := { dst := some 64, op := Op.move (Operand.tmp 7), type := 3, pos := "law.go:113", after := #[], guard := none }) (v := ?v8) rfl ?zb8 ?zc8 ?zd8 ?ze8 ?zf8 ?zg8 ?zh8
                  case zf8 => (refine Or.inl ⟨by rfl, ?_⟩; intro w hSw; (try dsimp only at hSw); go_simp; try with_reducible rfl)
                  case zb8 => kernel_rfl
                  case zc8 => kernel_rfl
                  case zd8 => kernel_rfl
                  case ze8 => exact fun _ _ _ h => h
                  case zg8 => assumption
                  try simp only [Act.put, List.setIfInBounds_toArray, List.set_cons_zero, List.set_cons_succ]
                  refine wpAnyH_take (i := 9) (oi := { dst := some 65, op := Op.indexAddr 40 (Operand.tmp 63) (Operand.tmp 64), type := 0, pos := "law.go:113", after := #[{ on := 7, ground := Ground.data }, { on := 8, ground := Ground.data }], guard := none }) (v := ?v9) rfl ?zb9 ?zc9 ?zd9 ?ze9 ?zf9 ?zg9 ?zh9
                  case zf9 => (refine Or.inl ⟨by rfl, ?_⟩; intro w hSw; (try dsimp only at hSw); go_simp; try with_reducible rfl)
                  case zb9 => kernel_rfl
                  case zc9 => kernel_rfl
                  case zd9 => kernel_rfl
                  case ze9 => exact fun _ _ _ h => h
                  case zg9 => assumption
                  try simp only [Act.put, List.setIfInBounds_toArray, List.set_cons_zero, List.set_cons_succ]
                  refine wpAnyH_take (i := 10) (oi := { dst := some 66, op := Op.load 3 (Operand.tmp 65), type := 3, pos := "law.go:113", after := #[{ on := 9, ground := Ground.data }], guard := none }) (v := ?v10) rfl ?zb10 ?zc10 ?zd10 ?ze10 ?zf10 ?zg10 ?zh10
                  case zf10 => (refine Or.inl ⟨by rfl, ?_⟩; intro w hSw; (try dsimp only at hSw); go_simp; try with_reducible rfl)
                  case zb10 => kernel_rfl
                  case zc10 => kernel_rfl
                  case zd10 => kernel_rfl
                  case ze10 => exact fun _ _ _ h => h
                  case zg10 => assumption
                  try simp only [Act.put, List.setIfInBounds_toArray, List.set_cons_zero, List.set_cons_succ]
                  refine wpAnyH_ready (rs := [6]) (by kernel_rfl) (by simp) ?_
                  refine AllReadyH.cons (o := { dst := some 62, op := Op.call { callee := Callee.value (Operand.func 16), args := #[Operand.tmp 56, Operand.tmp 61], argTypes := #[25, 3] }, type := 3, pos := "law.go:113", after := #[{ on := 0, ground := Ground.data }, { on := 5, ground := Ground.data }], guard := none }) rfl (fun K hK => ?_) AllReadyH.nil
                  go_simp
                  (go_at_call 16; refine (HU.out _ (two_below hHeld)).mono ?_; rintro e w7 ⟨rfl, hb7⟩)
                  go_wp2_with fail
                  refine hK.out _ _ ?_ (fun hHeld => ?_)
                  · exact two_on hbl5 hglt hHeld hb7
                  clear hK K
                  try simp only [Act.put, List.setIfInBounds_toArray, List.set_cons_zero, List.set_cons_succ]
                  refine wpAnyH_take (i := 11) (oi := { dst := some 67, op := Op.binOp BinOp.neq 3 (Operand.tmp 62) (Operand.tmp 66) 3, type := 4, pos := "law.go:113", after := #[{ on := 6, ground := Ground.data }, { on := 10, ground := Ground.data }], guard := none }) (v := ?v11) rfl ?zb11 ?zc11 ?zd11 ?ze11 ?zf11 ?zg11 ?zh11
                  case zf11 => (refine Or.inl ⟨by rfl, ?_⟩; intro w hSw; (try dsimp only at hSw); go_simp; try with_reducible rfl)
                  case zb11 => kernel_rfl
                  case zc11 => kernel_rfl
                  case zd11 => kernel_rfl
                  case ze11 => exact fun _ _ _ h => h
                  case zg11 => assumption
                  try simp only [Act.put, List.setIfInBounds_toArray, List.set_cons_zero, List.set_cons_succ]
                  refine wpAnyH_take (i := 12) (oi := { dst := some 68, op := Op.move (Operand.tmp 67), type := 4, pos := "law.go:113", after := #[{ on := 11, ground := Ground.data }, { on := 6, ground := Ground.chain }], guard := none }) (v := ?v12) rfl ?zb12 ?zc12 ?zd12 ?ze12 ?zf12 ?zg12 ?zh12
                  case zf12 => (refine Or.inl ⟨by rfl, ?_⟩; intro w hSw; (try dsimp only at hSw); go_simp; try with_reducible rfl)
                  case zb12 => kernel_rfl
                  case zc12 => kernel_rfl
                  case zd12 => kernel_rfl
                  case ze12 => exact fun _ _ _ h => h
                  case zg12 => assumption
                  try simp only [Act.put, List.setIfInBounds_toArray, List.set_cons_zero, List.set_cons_succ]
                  refine wpAnyH_take (i := 13) (oi := { dst := some 69, op := Op.move (Operand.tmp 3), type := 25, pos := "law.go:113", after := #[{ on := 12, ground := Ground.guard }], guard := some (12, false) }) (v := ?v13) rfl ?zb13 ?zc13 ?zd13 ?ze13 ?zf13 ?zg13 ?zh13
                  case zf13 => (refine Or.inl ⟨by rfl, ?_⟩; intro w hSw; (try dsimp only at hSw); go_simp; try with_reducible rfl)
                  case zb13 => kernel_rfl
                  case zc13 => kernel_rfl
                  case zd13 => kernel_rfl
                  case ze13 => exact fun _ _ _ h => h
                  case zg13 => assumption
                  try simp only [Act.put, List.setIfInBounds_toArray, List.set_cons_zero, List.set_cons_succ]
                  refine wpAnyH_take (i := 14) (oi := { dst := some 70, op := Op.move (Operand.tmp 8), type := 41, pos := "law.go:113", after := #[{ on := 12, ground := Ground.guard }], guard := some (12, false) }) (v := ?v14) rfl ?zb14 ?zc14 ?zd14 ?ze14 ?zf14 ?zg14 ?zh14
                  case zf14 => (refine Or.inl ⟨by rfl, ?_⟩; intro w hSw; (try dsimp only at hSw); go_simp; try with_reducible rfl)
                  case zb14 => kernel_rfl
                  case zc14 => kernel_rfl
                  case zd14 => kernel_rfl
                  case ze14 => exact fun _ _ _ h => h
                  case zg14 => assumption
                  try simp only [Act.put, List.setIfInBounds_toArray, List.set_cons_zero, List.set_cons_succ]
                  refine wpAnyH_take (i := 15) (oi := { dst := some 71, op := Op.move (Operand.tmp 9), type := 3, pos := "law.go:113", after := #[{ on := 12, ground := Ground.guard }], guard := some (12, false) }) (v := ?v15) rfl ?zb15 ?zc15 ?zd15 ?ze15 ?zf15 ?zg15 ?zh15
                  case zf15 => (refine Or.inl ⟨by rfl, ?_⟩; intro w hSw; (try dsimp only at hSw); go_simp; try with_reducible rfl)
                  case zb15 => kernel_rfl
                  case zc15 => kernel_rfl
                  case zd15 => kernel_rfl
                  case ze15 => exact fun _ _ _ h => h
                  case zg15 => assumption
                  try simp only [Act.put, List.setIfInBounds_toArray, List.set_cons_zero, List.set_cons_succ]
                  refine wpAnyH_take (i := 16) (oi := { dst := some 72, op := Op.indexAddr 41 (Operand.tmp 70) (Operand.tmp 71), type := 0, pos := "law.go:113", after := #[{ on := 14, ground := Ground.data }, { on := 15, ground := Ground.data }, { on := 12, ground := Ground.guard }], guard := some (12, false) }) (v := ?v16) rfl ?zb16 ?zc16 ?zd16 ?ze16 ?zf16 ?zg16 ?zh16
                  case zf16 => (refine Or.inl ⟨by rfl, ?_⟩; intro w hSw; (try dsimp only at hSw); go_simp; try with_reducible rfl)
                  case zb16 => kernel_rfl
                  case zc16 => kernel_rfl
                  case zd16 => kernel_rfl
                  case ze16 => exact fun _ _ _ h => h
                  case zg16 => assumption
                  try simp only [Act.put, List.setIfInBounds_toArray, List.set_cons_zero, List.set_cons_succ]
                  refine wpAnyH_take (i := 17) (oi := { dst := some 73, op := Op.fieldAddr 45 (Operand.tmp 72) 1, type := 0, pos := "law.go:113", after := #[{ on := 16, ground := Ground.data }, { on := 12, ground := Ground.guard }], guard := some (12, false) }) (v := ?v17) rfl ?zb17 ?zc17 ?zd17 ?ze17 ?zf17 ?zg17 ?zh17
                  case zf17 => (refine Or.inl ⟨by rfl, ?_⟩; intro w hSw; (try dsimp only at hSw); go_simp; try with_reducible rfl)
                  case zb17 => kernel_rfl
                  case zc17 => kernel_rfl
                  case zd17 => kernel_rfl
                  case ze17 => exact fun _ _ _ h => h
                  case zg17 => assumption
                  try simp only [Act.put, List.setIfInBounds_toArray, List.set_cons_zero, List.set_cons_succ]
                  refine wpAnyH_take (i := 18) (oi := { dst := some 74, op := Op.load 3 (Operand.tmp 73), type := 3, pos := "law.go:113", after := #[{ on := 17, ground := Ground.data }, { on := 12, ground := Ground.guard }], guard := some (12, false) }) (v := ?v18) rfl ?zb18 ?zc18 ?zd18 ?ze18 ?zf18 ?zg18 ?zh18
                  case zf18 => (refine Or.inl ⟨by rfl, ?_⟩; intro w hSw; (try dsimp only at hSw); go_simp; try with_reducible rfl)
                  case zb18 => kernel_rfl
                  case zc18 => kernel_rfl
                  case zd18 => kernel_rfl
                  case ze18 => exact fun _ _ _ h => h
                  case zg18 => assumption
                  try simp only [Act.put, List.setIfInBounds_toArray, List.set_cons_zero, List.set_cons_succ]
                  refine wpAnyH_ready (rs := [19]) (by kernel_rfl) (by simp) ?_
                  refine AllReadyH.cons (o := { dst := some 75, op := Op.call { callee := Callee.value (Operand.func 17), args := #[Operand.tmp 69, Operand.tmp 74], argTypes := #[25, 3] }, type := 3, pos := "law.go:113", after := #[{ on := 13, ground := Ground.data }, { on := 18, ground := Ground.data }, { on := 12, ground := Ground.chain }, { on := 12, ground := Ground.guard }], guard := some (12, false) }) rfl (fun K hK => ?_) AllReadyH.nil
                  go_simp
                  (go_at_call 17; refine (HK.out _ (two_below (by assumption))).mono ?_; rintro e w8 ⟨rfl, hb8⟩)
                  go_wp2_with fail
                  refine hK.out _ _ ?_ (fun hHeld => ?_)
                  · exact two_on hbl5 hglt (by assumption) hb8
                  clear hK K
                  try simp only [Act.put, List.setIfInBounds_toArray, List.set_cons_zero, List.set_cons_succ]
                  refine wpAnyH_take (i := 20) (oi := { dst := some 76, op := Op.binOp BinOp.eql 3 (Operand.tmp 75) (Operand.const (Value.int IntKind.i64 0)) 3, type := 4, pos := "law.go:113", after := #[{ on := 19, ground := Ground.data }, { on := 12, ground := Ground.guard }], guard := some (12, false) }) (v := ?v20) rfl ?zb20 ?zc20 ?zd20 ?ze20 ?zf20 ?zg20 ?zh20
                  case zf20 => (refine Or.inl ⟨by rfl, ?_⟩; intro w hSw; (try dsimp only at hSw); go_simp; try with_reducible rfl)
                  case zb20 => kernel_rfl
                  case zc20 => kernel_rfl
                  case zd20 => kernel_rfl
                  case ze20 => exact fun _ _ _ h => h
                  case zg20 => assumption
                  try simp only [Act.put, List.setIfInBounds_toArray, List.set_cons_zero, List.set_cons_succ]
                  refine wpAnyH_take (i := 21) (oi := { dst := some 77, op := Op.pick (Operand.tmp 68) (Operand.const (Value.bool true)) (Operand.tmp 76), type := 4, pos := "law.go:113", after := #[{ on := 12, ground := Ground.data }, { on := 20, ground := Ground.data }], guard := none }) (v := ?v21) rfl ?zb21 ?zc21 ?zd21 ?ze21 ?zf21 ?zg21 ?zh21
                  case zf21 => (refine Or.inl ⟨by rfl, ?_⟩; intro w hSw; (try dsimp only at hSw); go_simp; try with_reducible rfl)
                  case zb21 => kernel_rfl
                  case zc21 => kernel_rfl
                  case zd21 => kernel_rfl
                  case ze21 => exact fun _ _ _ h => h
                  case zg21 => assumption
                  try simp only [Act.put, List.setIfInBounds_toArray, List.set_cons_zero, List.set_cons_succ]
                  refine wpAnyH_take (i := 22) (oi := { dst := some 78, op := Op.move (Operand.tmp 77), type := 4, pos := "law.go:113", after := #[{ on := 21, ground := Ground.data }, { on := 19, ground := Ground.chain }], guard := none }) (v := ?v22) rfl ?zb22 ?zc22 ?zd22 ?ze22 ?zf22 ?zg22 ?zh22
                  case zf22 => (refine Or.inl ⟨by rfl, ?_⟩; intro w hSw; (try dsimp only at hSw); go_simp; try with_reducible rfl)
                  case zb22 => kernel_rfl
                  case zc22 => kernel_rfl
                  case zd22 => kernel_rfl
                  case ze22 => exact fun _ _ _ h => h
                  case zg22 => assumption
                  try simp only [Act.put, List.setIfInBounds_toArray, List.set_cons_zero, List.set_cons_succ]
                  refine wpAnyH_take (i := 23) (oi := { dst := some 79, op := Op.move (Operand.tmp 9), type := 3, pos := "law.go:113", after := #[{ on := 22, ground := Ground.guard }], guard := some (22, false) }) (v := ?v23) rfl ?zb23 ?zc23 ?zd23 ?ze23 ?zf23 ?zg23 ?zh23
                  case zf23 => (refine Or.inl ⟨by rfl, ?_⟩; intro w hSw; (try dsimp only at hSw); go_simp; try with_reducible rfl)
                  case zb23 => kernel_rfl
                  case zc23 => kernel_rfl
                  case zd23 => kernel_rfl
                  case ze23 => exact fun _ _ _ h => h
                  case zg23 => assumption
                  try simp only [Act.put, List.setIfInBounds_toArray, List.set_cons_zero, List.set_cons_succ]
                  refine wpAnyH_take (i := 24) (oi := { dst := some 80, op := Op.binOp BinOp.gtr 3 (Operand.tmp 79) (Operand.const (Value.int IntKind.i64 0)) 3, type := 4, pos := "law.go:113", after := #[{ on := 23, ground := Ground.data }, { on := 22, ground := Ground.guard }], guard := some (22, false) }) (v := ?v24) rfl ?zb24 ?zc24 ?zd24 ?ze24 ?zf24 ?zg24 ?zh24
                  case zf24 => (refine Or.inl ⟨by rfl, ?_⟩; intro w hSw; (try dsimp only at hSw); go_simp; try with_reducible rfl)
                  case zb24 => kernel_rfl
                  case zc24 => kernel_rfl
                  case zd24 => kernel_rfl
                  case ze24 => exact fun _ _ _ h => h
                  case zg24 => assumption
                  try simp only [Act.put, List.setIfInBounds_toArray, List.set_cons_zero, List.set_cons_succ]
                  refine wpAnyH_take (i := 25) (oi := { dst := some 81, op := Op.move (Operand.tmp 80), type := 4, pos := "law.go:113", after := #[{ on := 24, ground := Ground.data }, { on := 22, ground := Ground.chain }, { on := 22, ground := Ground.guard }], guard := some (22, false) }) (v := ?v25) rfl ?zb25 ?zc25 ?zd25 ?ze25 ?zf25 ?zg25 ?zh25
                  case zf25 => (refine Or.inl ⟨by rfl, ?_⟩; intro w hSw; (try dsimp only at hSw); go_simp; try with_reducible rfl)
                  case zb25 => kernel_rfl
                  case zc25 => kernel_rfl
                  case zd25 => kernel_rfl
                  case ze25 => exact fun _ _ _ h => h
                  case zg25 => assumption
                  try simp only [Act.put, List.setIfInBounds_toArray, List.set_cons_zero, List.set_cons_succ]
                  refine wpAnyH_take (i := 26) (oi := { dst := some 82, op := Op.move (Operand.tmp 8), type := 41, pos := "law.go:113", after := #[{ on := 25, ground := Ground.guard }], guard := some (25, true) }) (v := undef) rfl ?zb26 ?zc26 ?zd26 ?ze26 ?zf26 ?zg26 ?zh26
                  case zf26 => exact Or.inr ⟨by rfl, rfl⟩
                  case zb26 => kernel_rfl
                  case zc26 => kernel_rfl
                  case zd26 => kernel_rfl
                  case ze26 => exact fun _ _ _ h => h
                  case zg26 => assumption
                  try simp only [Act.put, List.setIfInBounds_toArray, List.set_cons_zero, List.set_cons_succ]
                  refine wpAnyH_take (i := 27) (oi := { dst := some 83, op := Op.move (Operand.tmp 9), type := 3, pos := "law.go:113", after := #[{ on := 25, ground := Ground.guard }], guard := some (25, true) }) (v := undef) rfl ?zb27 ?zc27 ?zd27 ?ze27 ?zf27 ?zg27 ?zh27
                  case zf27 => exact Or.inr ⟨by rfl, rfl⟩
                  case zb27 => kernel_rfl
                  case zc27 => kernel_rfl
                  case zd27 => kernel_rfl
                  case ze27 => exact fun _ _ _ h => h
                  case zg27 => assumption
                  try simp only [Act.put, List.setIfInBounds_toArray, List.set_cons_zero, List.set_cons_succ]
                  refine wpAnyH_take (i := 28) (oi := { dst := some 84, op := Op.indexAddr 41 (Operand.tmp 82) (Operand.tmp 83), type := 0, pos := "law.go:113", after := #[{ on := 26, ground := Ground.data }, { on := 27, ground := Ground.data }, { on := 25, ground := Ground.guard }], guard := some (25, true) }) (v := undef) rfl ?zb28 ?zc28 ?zd28 ?ze28 ?zf28 ?zg28 ?zh28
                  case zf28 => exact Or.inr ⟨by rfl, rfl⟩
                  case zb28 => kernel_rfl
                  case zc28 => kernel_rfl
                  case zd28 => kernel_rfl
                  case ze28 => exact fun _ _ _ h => h
                  case zg28 => assumption
                  try simp only [Act.put, List.setIfInBounds_toArray, List.set_cons_zero, List.set_cons_succ]
                  refine wpAnyH_take (i := 29) (oi := { dst := some 85, op := Op.fieldAddr 45 (Operand.tmp 84) 0, type := 0, pos := "law.go:113", after := #[{ on := 28, ground := Ground.data }, { on := 25, ground := Ground.guard }], guard := some (25, true) }) (v := undef) rfl ?zb29 ?zc29 ?zd29 ?ze29 ?zf29 ?zg29 ?zh29
                  case zf29 => exact Or.inr ⟨by rfl, rfl⟩
                  case zb29 => kernel_rfl
                  case zc29 => kernel_rfl
                  case zd29 => kernel_rfl
                  case ze29 => exact fun _ _ _ h => h
                  case zg29 => assumption
                  try simp only [Act.put, List.setIfInBounds_toArray, List.set_cons_zero, List.set_cons_succ]
                  refine wpAnyH_take (i := 30) (oi := { dst := some 86, op := Op.load 9 (Operand.tmp 85), type := 9, pos := "law.go:113", after := #[{ on := 29, ground := Ground.data }, { on := 25, ground := Ground.guard }], guard := some (25, true) }) (v := undef) rfl ?zb30 ?zc30 ?zd30 ?ze30 ?zf30 ?zg30 ?zh30
                  case zf30 => exact Or.inr ⟨by rfl, rfl⟩
                  case zb30 => kernel_rfl
                  case zc30 => kernel_rfl
                  case zd30 => kernel_rfl
                  case ze30 => exact fun _ _ _ h => h
                  case zg30 => assumption
                  try simp only [Act.put, List.setIfInBounds_toArray, List.set_cons_zero, List.set_cons_succ]
                  refine wpAnyH_take (i := 31) (oi := { dst := some 87, op := Op.move (Operand.tmp 8), type := 41, pos := "law.go:113", after := #[{ on := 25, ground := Ground.guard }], guard := some (25, true) }) (v := undef) rfl ?zb31 ?zc31 ?zd31 ?ze31 ?zf31 ?zg31 ?zh31
                  case zf31 => exact Or.inr ⟨by rfl, rfl⟩
                  case zb31 => kernel_rfl
                  case zc31 => kernel_rfl
                  case zd31 => kernel_rfl
                  case ze31 => exact fun _ _ _ h => h
                  case zg31 => assumption
                  try simp only [Act.put, List.setIfInBounds_toArray, List.set_cons_zero, List.set_cons_succ]
                  refine wpAnyH_take (i := 32) (oi := { dst := some 88, op := Op.move (Operand.tmp 9), type := 3, pos := "law.go:113", after := #[{ on := 25, ground := Ground.guard }], guard := some (25, true) }) (v := undef) rfl ?zb32 ?zc32 ?zd32 ?ze32 ?zf32 ?zg32 ?zh32
                  case zf32 => exact Or.inr ⟨by rfl, rfl⟩
                  case zb32 => kernel_rfl
                  case zc32 => kernel_rfl
                  case zd32 => kernel_rfl
                  case ze32 => exact fun _ _ _ h => h
                  case zg32 => assumption
                  try simp only [Act.put, List.setIfInBounds_toArray, List.set_cons_zero, List.set_cons_succ]
                  refine wpAnyH_take (i := 33) (oi := { dst := some 89, op := Op.binOp BinOp.sub 3 (Operand.tmp 88) (Operand.const (Value.int IntKind.i64 1)) 3, type := 3, pos := "law.go:113", after := #[{ on := 32, ground := Ground.data }, { on := 25, ground := Ground.guard }], guard := some (25, true) }) (v := undef) rfl ?zb33 ?zc33 ?zd33 ?ze33 ?zf33 ?zg33 ?zh33
                  case zf33 => exact Or.inr ⟨by rfl, rfl⟩
                  case zb33 => kernel_rfl
                  case zc33 => kernel_rfl
                  case zd33 => kernel_rfl
                  case ze33 => exact fun _ _ _ h => h
                  case zg33 => assumption
                  try simp only [Act.put, List.setIfInBounds_toArray, List.set_cons_zero, List.set_cons_succ]
                  refine wpAnyH_take (i := 34) (oi := { dst := some 90, op := Op.indexAddr 41 (Operand.tmp 87) (Operand.tmp 89), type := 0, pos := "law.go:113", after := #[{ on := 31, ground := Ground.data }, { on := 33, ground := Ground.data }, { on := 25, ground := Ground.guard }], guard := some (25, true) }) (v := undef) rfl ?zb34 ?zc34 ?zd34 ?ze34 ?zf34 ?zg34 ?zh34
                  case zf34 => exact Or.inr ⟨by rfl, rfl⟩
                  case zb34 => kernel_rfl
                  case zc34 => kernel_rfl
                  case zd34 => kernel_rfl
                  case ze34 => exact fun _ _ _ h => h
                  case zg34 => assumption
                  try simp only [Act.put, List.setIfInBounds_toArray, List.set_cons_zero, List.set_cons_succ]
                  refine wpAnyH_take (i := 35) (oi := { dst := some 91, op := Op.fieldAddr 45 (Operand.tmp 90) 0, type := 0, pos := "law.go:113", after := #[{ on := 34, ground := Ground.data }, { on := 25, ground := Ground.guard }], guard := some (25, true) }) (v := undef) rfl ?zb35 ?zc35 ?zd35 ?ze35 ?zf35 ?zg35 ?zh35
                  case zf35 => exact Or.inr ⟨by rfl, rfl⟩
                  case zb35 => kernel_rfl
                  case zc35 => kernel_rfl
                  case zd35 => kernel_rfl
                  case ze35 => exact fun _ _ _ h => h
                  case zg35 => assumption
                  try simp only [Act.put, List.setIfInBounds_toArray, List.set_cons_zero, List.set_cons_succ]
                  refine wpAnyH_take (i := 36) (oi := { dst := some 92, op := Op.load 9 (Operand.tmp 91), type := 9, pos := "law.go:113", after := #[{ on := 35, ground := Ground.data }, { on := 25, ground := Ground.guard }], guard := some (25, true) }) (v := undef) rfl ?zb36 ?zc36 ?zd36 ?ze36 ?zf36 ?zg36 ?zh36
                  case zf36 => exact Or.inr ⟨by rfl, rfl⟩
                  case zb36 => kernel_rfl
                  case zc36 => kernel_rfl
                  case zd36 => kernel_rfl
                  case ze36 => exact fun _ _ _ h => h
                  case zg36 => assumption
                  try simp only [Act.put, List.setIfInBounds_toArray, List.set_cons_zero, List.set_cons_succ]
                  refine wpAnyH_take (i := 37) (oi := { dst := some 93, op := Op.binOp BinOp.leq 9 (Operand.tmp 86) (Operand.tmp 92) 9, type := 4, pos := "law.go:113", after := #[{ on := 30, ground := Ground.data }, { on := 36, ground := Ground.data }, { on := 25, ground := Ground.guard }], guard := some (25, true) }) (v := undef) rfl ?zb37 ?zc37 ?zd37 ?ze37 ?zf37 ?zg37 ?zh37
                  case zf37 => exact Or.inr ⟨by rfl, rfl⟩
                  case zb37 => kernel_rfl
                  case zc37 => kernel_rfl
                  case zd37 => kernel_rfl
                  case ze37 => exact fun _ _ _ h => h
                  case zg37 => assumption
                  try simp only [Act.put, List.setIfInBounds_toArray, List.set_cons_zero, List.set_cons_succ]
                  refine wpAnyH_take (i := 38) (oi := { dst := some 94, op := Op.pick (Operand.tmp 81) (Operand.tmp 93) (Operand.const (Value.bool false)), type := 4, pos := "law.go:113", after := #[{ on := 25, ground := Ground.data }, { on := 37, ground := Ground.data }, { on := 22, ground := Ground.guard }], guard := some (22, false) }) (v := ?v38) rfl ?zb38 ?zc38 ?zd38 ?ze38 ?zf38 ?zg38 ?zh38
                  case zf38 => (refine Or.inl ⟨by rfl, ?_⟩; intro w hSw; (try dsimp only at hSw); go_simp; try with_reducible rfl)
                  case zb38 => kernel_rfl
                  case zc38 => kernel_rfl
                  case zd38 => kernel_rfl
                  case ze38 => exact fun _ _ _ h => h
                  case zg38 => assumption
                  try simp only [Act.put, List.setIfInBounds_toArray, List.set_cons_zero, List.set_cons_succ]
                  refine wpAnyH_take (i := 39) (oi := { dst := some 95, op := Op.pick (Operand.tmp 78) (Operand.const (Value.bool true)) (Operand.tmp 94), type := 4, pos := "law.go:113", after := #[{ on := 22, ground := Ground.data }, { on := 38, ground := Ground.data }], guard := none }) (v := ?v39) rfl ?zb39 ?zc39 ?zd39 ?ze39 ?zf39 ?zg39 ?zh39
                  case zf39 => (refine Or.inl ⟨by rfl, ?_⟩; intro w hSw; (try dsimp only at hSw); go_simp; try with_reducible rfl)
                  case zb39 => kernel_rfl
                  case zc39 => kernel_rfl
                  case zd39 => kernel_rfl
                  case ze39 => exact fun _ _ _ h => h
                  case zg39 => assumption
                  try simp only [Act.put, List.setIfInBounds_toArray, List.set_cons_zero, List.set_cons_succ]
                  refine wpAnyH_done (by kernel_rfl) ?_ _
                  -- %end
                  all_goals (
                    obtain ⟨e2, -, hbb⟩ := (by assumption : w8.cell? ⟨b5, o5 + 1, none⟩ = some (.int .i64 (E[0]).2) ∧ w8.cell? ⟨g2, i, none⟩ = some (.int .i64 d) ∧ Below wr.heap.size wr w8)
                    have G8 := Lib.hid ((hgo.out.call C hbb).call C ((Below.refl _ _).alloc (Nat.le_refl _) (.cells #[.int .i64 (E[0]).2] 3)))
                    have E8 := Lib.hid ((hee.out.below hbb).alloc hbb.size (.cells #[.int .i64 (E[0]).2] 3))
                    have hz8 := hbb.size
                    have A1 : Hid ((met ++ (E.map (·.2)).take 0).length + [(E[0]).2].length ≤ maxLen) := by show _ ≤ _; rw [hml]; show _ + 1 ≤ _; unfold maxLen; omega
                    have A2 : Hid (((met ++ (E.map (·.2)).take 0).length + [(E[0]).2].length) * 8 ≤ 140737488355328) := by show _ ≤ _; rw [hml]; show (_ + 1) * 8 ≤ _; omega
                    have A3 : Hid (W0.heap.size ≤ (w8.alloc (.cells #[.int .i64 (E[0]).2] 3)).heap.size) := G8.out.below.size
                    have HON : Hid (Recs numC 1 (w8.heap.size + 1) (w8.alloc (.cells #[.int .i64 (E[0]).2] 3)) (.slice (some ⟨w8.heap.size, 0, none⟩) 1 1) [(E[0]).2]) := one_num w8 _ _
                    have HTK := Lib.hid (take_num met hl5)
                    clear hc0 hc1 hmi hb7 hb8 hbb HU HK
                    go_wp2_with (at_builtin; refine wpList_append_recs rfl (.tmp 96) (.tmp 102) 40 rfl W0.heap.size 3 i0 (.int .i64 0) 1 8 Try.underlying40 HI.out hz0 hz1 hz2 rfl (by decide) _ _ _ rfl G8.out.row _ [(E[0]).2] _ rfl HON.out numC_len numC_one A1.out A2.out A3.out ?_; intro v1 w9 hown1 hg1 hq1)
                    have G9 := Lib.hid (G8.out.append C HF.out hg1 hown1)
                    rw [← HTK.out] at G9
                    have hz9 : w8.heap.size + 1 ≤ w9.heap.size := by have := hg1.size; rw [World.size_alloc] at this; exact this
                    have E9 : Hid (W06.Ents w9.heap.size w9 (.slice (some ⟨b5, o5, none⟩) E.length c5) E) := (Recs.other E8.out (fun p hp => World.cell?_of_block (hg1.block p.block (by rw [hp, World.size_alloc]; omega) (by rw [hp]; exact hoo.out b5 o5 rfl)))).more (by omega)
                    have O9 : Hid (∀ b o, some (⟨b5, o5, none⟩ : Addr) = some ⟨b, o, none⟩ → some b ≠ v1.ownBlock) := fun b o hb e => by
                      cases hb
                      rcases hq1 _ e.symm with h1 | h1
                      · exact hoo.out _ _ rfl h1.symm
                      · rw [World.size_alloc] at h1; omega
                    clear hown1 hg1 hq1 G8 E8 A1 A2 A3 HON HTK
                    go_wp2_with fail
                    go_roundw
                    case rel => exact ⟨0 + 1, by go_num, by omega, G9, E9, O9⟩
                    case measure => simp [intOf]; omega)
                · obtain ⟨b6, o6, hl6, tp, he6, hbl6, htp, hd0, hd1⟩ := W06.Ents.at_ hee.out (k := k - 1) (by omega)
                  cases he6
                  have HLT : Hid (M03.lt (E[k - 1]).1 (E[k]).1) := List.pairwise_iff_getElem.1 HRS.out (k - 1) k hl6 hl5 (by omega)
                  have hlx : M03.lt tp.data.toList tn.data.toList := by rw [htp, htn]; exact HLT.out
                  have t1 : Op.bytesLess tn.toList tp.toList = false := by rw [W03.less_bytes]; simpa using M03.lt_asymm hlx
                  have t2 : (tn.toList == tp.toList) = false := by rw [W03.same_bytes]; simpa using fun e : tn.data.toList = tp.data.toList => M03.lt_irrefl _ (e ▸ hlx)
                  obtain ⟨k1, hk1⟩ : ∃ k1, k = k1 + 1 := ⟨k - 1, by omega⟩
                  subst hk1
                  have hkk : IntKind.i64.wrap ((k1 : Int) + 1 - 1) = k1 := by rw [IntKind.wrap_i64]; omega
                  have hkk2 : IntKind.i64.wrap (k1 : Int) = k1 := by rw [IntKind.wrap_i64]; omega
                  have hp0 : (0 : Int) < (k1 : Int) + 1 := by omega
                  have hb0 : (0 : Int) ≤ (k1 : Int) + 1 := by omega
                  have hb1 : (k1 : Int) + 1 < (E.length : Int) := by omega
                  have hb2 : (k1 : Int) < (E.length : Int) := by omega
                  have hb3 : (i : Int) < (met.length : Int) + ((k1 : Int) + 1) := by omega
                  rw [Nat.add_sub_cancel] at hd0
                  clear hlx htn htp hd1 hk0
                  go_wp2_with fail
                  go_region_held3 (fun w' => w'.cell? ⟨b5, o5 + (k1 + 1) * 2, none⟩ = some (.string tn) ∧ w'.cell? ⟨b5, o5 + k1 * 2, none⟩ = some (.string tp) ∧ w'.cell? ⟨b5, o5 + (k1 + 1) * 2 + 1, none⟩ = some (.int .i64 (E[k1 + 1]).2) ∧ w'.cell? ⟨g2, i, none⟩ = some (.int .i64 d) ∧ Below wr.heap.size wr w')
                    (first | exact four_on hbl5 hglt (by assumption) hb8 | exact four_on hbl5 hglt (by assumption) hb7 | exact ⟨hc0, hd0, hc1, hmi, below_draws wr 1⟩ | go_keep)
                    (first
                      | (go_at_call 16; refine (HU.out _ (four_below (by assumption))).mono ?_; rintro e w7 ⟨rfl, hb7⟩)
                      | (go_at_call 17; refine (HK.out _ (four_below (by assumption))).mono ?_; rintro e w8 ⟨rfl, hb8⟩))
                  all_goals (
                    obtain ⟨-, -, e2, -, hbb⟩ := (by assumption : w8.cell? ⟨b5, o5 + (k1 + 1) * 2, none⟩ = some (.string tn) ∧ w8.cell? ⟨b5, o5 + k1 * 2, none⟩ = some (.string tp) ∧ w8.cell? ⟨b5, o5 + (k1 + 1) * 2 + 1, none⟩ = some (.int .i64 (E[k1 + 1]).2) ∧ w8.cell? ⟨g2, i, none⟩ = some (.int .i64 d) ∧ Below wr.heap.size wr w8)
                    have G8 := Lib.hid ((hgo.out.call C hbb).call C ((Below.refl _ _).alloc (Nat.le_refl _) (.cells #[.int .i64 (E[k1 + 1]).2] 3)))
                    have E8 := Lib.hid ((hee.out.below hbb).alloc hbb.size (.cells #[.int .i64 (E[k1 + 1]).2] 3))
                    have hz8 := hbb.size
                    have A1 : Hid ((met ++ (E.map (·.2)).take (k1 + 1)).length + [(E[k1 + 1]).2].length ≤ maxLen) := by show _ ≤ _; rw [hml]; show _ + 1 ≤ _; unfold maxLen; omega
                    have A2 : Hid (((met ++ (E.map (·.2)).take (k1 + 1)).length + [(E[k1 + 1]).2].length) * 8 ≤ 140737488355328) := by show _ ≤ _; rw [hml]; show (_ + 1) * 8 ≤ _; omega
                    have A3 : Hid (W0.heap.size ≤ (w8.alloc (.cells #[.int .i64 (E[k1 + 1]).2] 3)).heap.size) := G8.out.below.size
                    have HON : Hid (Recs numC 1 (w8.heap.size + 1) (w8.alloc (.cells #[.int .i64 (E[k1 + 1]).2] 3)) (.slice (some ⟨w8.heap.size, 0, none⟩) 1 1) [(E[k1 + 1]).2]) := one_num w8 _ _
                    have HTK := Lib.hid (take_num met hl5)
                    clear hc0 hc1 hd0 hmi hb7 hb8 hbb HU HK t1 t2 hkk hkk2
                    go_wp2_with (at_builtin; refine wpList_append_recs rfl (.tmp 96) (.tmp 102) 40 rfl W0.heap.size 3 i0 (.int .i64 0) 1 8 Try.underlying40 HI.out hz0 hz1 hz2 rfl (by decide) _ _ _ rfl G8.out.row _ [(E[k1 + 1]).2] _ rfl HON.out numC_len numC_one A1.out A2.out A3.out ?_; intro v1 w9 hown1 hg1 hq1)
                    have G9 := Lib.hid (G8.out.append C HF.out hg1 hown1)
                    rw [← HTK.out] at G9
                    have hz9 : w8.heap.size + 1 ≤ w9.heap.size := by have := hg1.size; rw [World.size_alloc] at this; exact this
                    have E9 : Hid (W06.Ents w9.heap.size w9 (.slice (some ⟨b5, o5, none⟩) E.length c5) E) := (Recs.other E8.out (fun p hp => World.cell?_of_block (hg1.block p.block (by rw [hp, World.size_alloc]; omega) (by rw [hp]; exact hoo.out b5 o5 rfl)))).more (by omega)
                    have O9 : Hid (∀ b o, some (⟨b5, o5, none⟩ : Addr) = some ⟨b, o, none⟩ → some b ≠ v1.ownBlock) := fun b o hb e => by
                      cases hb
                      rcases hq1 _ e.symm with h1 | h1
                      · exact hoo.out _ _ rfl h1.symm
                      · rw [World.size_alloc] at h1; omega
                    clear hown1 hg1 hq1 G8 E8 A1 A2 A3 HON HTK
                    go_wp2_with fail
                    go_roundw
                    case rel => exact ⟨k1 + 1 + 1, by go_num, by omega, G9, E9, O9⟩
                    case measure => simp [intOf]; omega)
              · obtain rfl : k = E.length := by omega
                have HNN : Hid (Met t (met ++ (E.map (·.2)).take E.length) (i + 1)) := by
                  show Met _ _ _
                  rw [List.take_of_length_le (by rw [List.length_map]; exact Nat.le_refl _)]
                  exact HNX.out
                have hl1 : i + 1 ≤ (met ++ (E.map (·.2)).take E.length).length := by omega
                have hl2 : (met ++ (E.map (·.2)).take E.length).length ≤ 61 := by omega
                clear hmi hee hoo hml
                go_wp2_with fail
                go_roundw
                case rel => exact ⟨i + 1, _, by go_num, hl1, hl2, HNN, hgo⟩
                case measure => simp [intOf]; omega
          · obtain rfl : i = met.length := by omega
            have HEQ := Lib.hid (met_end HRT.out hmet.out)
            have HLN := Lib.hid (C.len hgo.out.rep HSM.out)
            rw [← HEQ.out] at HLN
            have hbb := hgo.out.below
            clear hcell
            go_wp2_with fail
            refine HLN.out.mono ?_
            rintro e w5 ⟨rfl, hb5⟩
            go_wp2_with fail
            refine (HLV.out _).mono ?_
            rintro e w6 ⟨rfl, hb6⟩
            go_wp2_with fail
            go_ret
            exact ⟨rfl, on HB0.out (hbb.trans ((on hb5 hb6).mono hbb.size))⟩
end Go.Proofs.Ytelphegeeiocnaa.W07
