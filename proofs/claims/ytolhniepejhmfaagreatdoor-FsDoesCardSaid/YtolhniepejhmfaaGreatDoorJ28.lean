/-
  Texts joined, in build order, each with its own comment and its own conditions: W08Asks2, W08Code, W09Code, W10Abs.
-/
import Derived.Test.YtolhniepejhmfaaGreatDoorJ25
import Derived.Test.YtolhniepejhmfaaGreatDoorJ27
import Derived.Test.YtolhniepejhmfaaGreatDoorJ12
import Derived.BigQuiet
import Derived.Test.YtolhniepejhmfaaGreatDoorJ19
import Derived.Test.YtolhniepejhmfaaGreatDoorJ23
import Derived.Test.YtolhniepejhmfaaGreatDoorJ15
/-
  Layer 8 (seek): Find and Spot; nothing that was there is changed. The conditions stand in the statements.
-/
namespace Go.Proofs.YtolhniepejhmfaaGreatDoor.W08
set_option maxRecDepth 100000
open Go Go.RowKit Go.Proofs.YtolhniepejhmfaaGreatDoor.Strs Go.Proofs.YtolhniepejhmfaaGreatDoor.Recs Go.Proofs.YtolhniepejhmfaaGreatDoor.Range
open Go.Proofs.YtolhniepejhmfaaGreatDoor.M07 (Tr Nd nodeAt inDir Right)
open Go.Proofs.YtolhniepejhmfaaGreatDoor.M08 Go.Proofs.YtolhniepejhmfaaGreatDoor.M04
open Go.Proofs.YtolhniepejhmfaaGreatDoor.M03 (check)
open Go.Proofs.YtolhniepejhmfaaGreatDoor.W07 (Small Trees trees)
open Go.Proofs.YtolhniepejhmfaaGreatDoor.Kit (ret_str ret_bool ret_int mk_of mk_bytes ba_ext below_draws on list_full list_ne list_none list_nil bytes_nil bytes_ne)

/-- what is told of a path ahead of its parts -/
def asked (p : Bytes) : Int := if p = [] then 5 else if 1024 < p.length then 11 else 0
theorem asked_any (sb : Nat) (p : ByteArray) (w : World) : Calls Tryz.prog 99 #[.pointer (some ⟨sb, 0, none⟩), .string p] w fun e w' => e = .returned (.int .i64 (asked p.data.toList)) ∧ Below w.heap.size w w' := by
  by_cases h0 : 0 < p.size
  · have e1 := list_full h0
    have e2 := list_ne h0
    by_cases h1 : p.size ≤ 1024
    · have HX : Hid (asked p.data.toList = 0) := by show _ = _; unfold asked; rw [if_neg (bytes_ne h0), if_neg (by rw [← Lib.size_eq]; omega)]
      rw [HX.out]
      go_enter Tryz.func99, Tryz.ntmps99
      go_wp2_with fail
      go_ret
      exact ⟨rfl, Below.refl _ _⟩
    · have HX : Hid (asked p.data.toList = 11) := by show _ = _; unfold asked; rw [if_neg (bytes_ne h0), if_pos (by rw [← Lib.size_eq]; omega)]
      rw [HX.out]
      have tl : (1024 : Int) < p.size := by omega
      go_enter Tryz.func99, Tryz.ntmps99
      go_wp2_with fail
      go_ret
      exact ⟨rfl, Below.refl _ _⟩
  · have e1 := list_none h0
    have e2 := list_nil h0
    have HX : Hid (asked p.data.toList = 5) := by show _ = _; unfold asked; rw [if_pos (bytes_nil h0)]
    rw [HX.out]
    go_enter Tryz.func99, Tryz.ntmps99
    go_wp2_with fail
    go_ret
    exact ⟨rfl, Below.refl _ _⟩
theorem find_asked (t : Tr) (p : Bytes) (last : Bool) : M08.find t p last = if asked p ≠ 0 then (0, asked p) else ((goTo t 1 (parts p) last 0).1, (goTo t 1 (parts p) last 0).2.2) := by
  unfold M08.find asked
  by_cases h : p = []
  · rw [if_pos h, if_pos h, if_pos (by decide)]
  · rw [if_neg h, if_neg h]
    by_cases h2 : 1024 < p.length
    · rw [if_pos h2, if_pos h2, if_pos (by decide)]
    · rw [if_neg h2, if_neg h2, if_neg (by decide)]
set_option maxHeartbeats 2000000 in
theorem seekFind_any {F : Nat → Prop} {w : World} {v : Value} {t : Tr} (P : W07.Rep F w v t) (G : Good t) (p : ByteArray) (last : Bool) (hp : p.size ≤ 1048576) : Calls Tryz.prog 85 #[v, .string p, .bool last] w fun e w' => e = .returned (.tuple #[.int .i64 (M08.find t p.data.toList last).1, .int .i64 (M08.find t p.data.toList last).2]) ∧ Below w.heap.size w w' := by
  have HP := Lib.hid P
  have HG := Lib.hid G
  obtain ⟨sb, rfl⟩ := rep_form P
  have HC := Lib.hid (asked_any sb p w)
  have HX := Lib.hid (find_asked t p.data.toList last)
  rw [HX.out]
  have HPT := Lib.hid (fun w' => W04.parts_any p (by omega) w')
  by_cases ha : asked p.data.toList = 0
  · have hl : (parts p.data.toList).length ≤ 70000 := by
      have h1 := parts_len p.data.toList
      have h2 : ¬ 1024 < p.data.toList.length := by
        intro h3
        have h4 : p.data.toList ≠ [] := by intro e; rw [e] at h3; simp at h3
        unfold asked at ha
        rw [if_neg h4, if_pos h3] at ha
        cases ha
      omega
    rw [ha] at HC ⊢
    rw [if_neg (by decide)]
    have HW := Lib.hid (fun (w' : World) (u : Value) (hb : Below w.heap.size w w') (ht : Texts w'.heap.size w' u (parts p.data.toList)) => walk_any trees (trees.below HP.out hb) HG.out u _ hl (parts_are _) (fun q hq => Nat.le_trans (parts_each _ q hq) (by rw [← Lib.size_eq]; exact hp)) ht last)
    generalize goTo t 1 (parts p.data.toList) last 0 = R at *
    generalize parts p.data.toList = PL at *
    clear ha HX P G
    go_enter Tryz.func85, Tryz.ntmps85
    go_wp2_with fail
    refine HC.out.mono ?_
    rintro e w1 ⟨rfl, hb1⟩
    go_wp2_with fail
    refine (HPT.out _).mono ?_
    rintro e w2 ⟨u2, rfl, ht2, hb2⟩
    have B2 := Lib.hid (on hb1 hb2)
    go_wp2_with fail
    refine (HW.out _ u2 B2.out ht2).mono ?_
    rintro e w3 ⟨rfl, hb3⟩
    go_wp2_with fail
    go_ret2
    exact ⟨rfl, on B2.out hb3⟩
  · rw [if_pos ha]
    have ta : (asked p.data.toList != 0) = true := by simpa using ha
    generalize asked p.data.toList = R at *
    clear ha HX P G
    go_enter Tryz.func85, Tryz.ntmps85
    go_wp2_with fail
    refine HC.out.mono ?_
    rintro e w1 ⟨rfl, hb1⟩
    go_wp2_with fail
    go_ret2
    exact ⟨rfl, hb1⟩
/-- what is told of a name in a node -/
def spotted (t : Tr) (n : Int) (s : Bytes) : Int := if (nodeAt t.L n).kind ≠ 1 then 7 else check s
theorem spotted_any {F : Nat → Prop} {w : World} {v : Value} {t : Tr} (P : W07.Rep F w v t) (G : Good t) (n : Int) (s : ByteArray) : Calls Tryz.prog 102 #[v, .int .i64 n, .string s] w fun e w' => e = .returned (.int .i64 (spotted t n s.data.toList)) ∧ Below w.heap.size w w' := by
  have HK := Lib.hid (trees.kind P G.small n)
  obtain ⟨sb, rfl⟩ := rep_form P
  have HCH := Lib.hid (fun w' => W03.check_free s w')
  by_cases hk : (nodeAt t.L n).kind = 1
  · have HX : Hid (spotted t n s.data.toList = check s.data.toList) := if_neg (fun h => h hk)
    rw [HX.out]
    have tk : ((nodeAt t.L n).kind != 1) = false := by simp [hk]
    generalize nodeAt t.L n = x at *
    generalize check s.data.toList = ce at *
    clear hk P G HX
    go_enter Tryz.func102, Tryz.ntmps102
    go_wp2_with fail
    refine HK.out.mono ?_
    rintro e w1 ⟨rfl, hb1⟩
    go_wp2_with fail
    refine (HCH.out _).mono ?_
    rintro e w2 ⟨rfl, hb2⟩
    go_wp2_with fail
    go_ret
    exact ⟨rfl, on hb1 hb2⟩
  · have HX : Hid (spotted t n s.data.toList = 7) := if_pos hk
    rw [HX.out]
    have tk : ((nodeAt t.L n).kind != 1) = true := by simpa using hk
    generalize nodeAt t.L n = x at *
    clear hk P G HX
    go_enter Tryz.func102, Tryz.ntmps102
    go_wp2_with fail
    refine HK.out.mono ?_
    rintro e w1 ⟨rfl, hb1⟩
    go_wp2_with fail
    go_ret
    exact ⟨rfl, hb1⟩
theorem spot_asked (t : Tr) (p : Bytes) : spot t p = if asked p ≠ 0 then (0, [], asked p) else if parts p = [] ∨ (parts p).getLastD [] = [46, 46] then (0, [], 6) else
    let g := goTo t 1 (parts p).dropLast true 0
    let e := if g.2.2 ≠ 0 then g.2.2 else if (nodeAt t.L g.1).kind ≠ 1 then 7 else check ((parts p).getLastD [])
    if e ≠ 0 then (0, [], e) else (g.1, (parts p).getLastD [], 0) := by
  unfold spot asked
  by_cases h : p = []
  · rw [if_pos h, if_pos h, if_pos (by decide)]
  · rw [if_neg h, if_neg h]
    by_cases h2 : 1024 < p.length
    · rw [if_pos h2, if_pos h2, if_pos (by decide)]
    · rw [if_neg h2, if_neg h2, if_neg (show ¬ (0 : Int) ≠ 0 by decide)]
set_option maxHeartbeats 8000000 in
theorem seekSpot_any {F : Nat → Prop} {w : World} {v : Value} {t : Tr} (P : W07.Rep F w v t) (G : Good t) (p : ByteArray) (hp : p.size ≤ 1048576) : Calls Tryz.prog 83 #[v, .string p] w fun e w' => e = .returned (.tuple #[.int .i64 (spot t p.data.toList).1, .string ⟨(spot t p.data.toList).2.1.toArray⟩, .int .i64 (spot t p.data.toList).2.2]) ∧ Below w.heap.size w w' := by
  have HP := Lib.hid P
  have HG := Lib.hid G
  obtain ⟨sb, rfl⟩ := rep_form P
  have HC := Lib.hid (asked_any sb p w)
  have HF := Lib.hid (spot_asked t p.data.toList)
  have HPT := Lib.hid (fun w' => W04.parts_makes p (by omega) w')
  generalize spot t p.data.toList = R at *
  by_cases ha : asked p.data.toList = 0
  · have hl : (parts p.data.toList).length ≤ 1025 := by
      have h1 := parts_len p.data.toList
      have h2 : ¬ 1024 < p.data.toList.length := by
        intro h3
        have h4 : p.data.toList ≠ [] := by intro e; rw [e] at h3; simp at h3
        unfold asked at ha
        rw [if_neg h4, if_pos h3] at ha
        cases ha
      omega
    rw [ha] at HC HF
    rw [if_neg (by decide)] at HF
    have HW := Lib.hid (fun (w' : World) (u : Value) (hb : Below w.heap.size w w') (ht : Texts w'.heap.size w' u (parts p.data.toList).dropLast) => walk_any trees (trees.below HP.out hb) HG.out u _ (by rw [List.length_dropLast]; omega) (fun q hq => parts_are _ q ((List.dropLast_sublist _).subset hq)) (fun q hq => Nat.le_trans (parts_each _ q ((List.dropLast_sublist _).subset hq)) (by rw [← Lib.size_eq]; exact hp)) ht true)
    have HSP := Lib.hid (fun (n : Int) (s : ByteArray) (w' : World) (hb : Below w.heap.size w w') => spotted_any (trees.below HP.out hb) HG.out n s)
    generalize parts p.data.toList = PL at *
    clear ha P G
    go_enter Tryz.func83, Tryz.ntmps83
    go_wp2_with fail
    refine HC.out.mono ?_
    rintro e w1 ⟨rfl, hb1⟩
    have B1 := Lib.hid hb1
    clear hb1
    go_wp2_with fail
    refine (HPT.out _).mono ?_
    rintro e w2 ⟨v2, rfl, hown2, hb2⟩
    have B2 := Lib.hid (on B1.out hb2)
    have T2 := Lib.hid (Texts.of_own hown2)
    by_cases h0 : 0 < PL.length
    · obtain ⟨m, hm1⟩ : ∃ m, PL.length = m + 1 := ⟨PL.length - 1, by omega⟩
      rw [hm1] at hown2
      obtain ⟨g, cc, rfl, hc1, hc2, hless⟩ := own_less hown2
      rw [W04.take_drop_map hm1] at hless
      have T : Hid (Texts w2.heap.size w2 (.slice (some ⟨g, 0, none⟩) m cc) PL.dropLast) := by
        have e := drop_len hm1
        exact Texts.of_own (by rw [← e] at hless; rw [← e]; exact hless)
      obtain ⟨ad, q, hA, hbl, hcell, hq⟩ := T2.out.at_ (k := m) (by omega)
      cases hA
      rw [Addr.add_lit, Nat.zero_add] at hcell
      have HQ : Hid (PL.getLastD [] = q.data.toList) := by
        show _ = _
        rw [hq, List.getLastD_eq_getLast?, List.getLast?_eq_getElem?, List.getD_eq_getElem?_getD, hm1, Nat.add_sub_cancel]
      rw [HQ.out] at HF
      have hPn : PL ≠ [] := fun e => by rw [e] at h0; simp at h0
      clear hless hown2 hb2 hq T2
      unfold maxLen at hc2
      have q6 : IntKind.i64.wrap (m : Int) = m := by rw [IntKind.wrap_i64]; omega
      have q1 : (0 : Int) ≤ (m : Int) := by omega
      have q2 : (m : Int) ≤ (cc : Int) := by omega
      by_cases hdd : q.data.toList = [46, 46]
      · have HX : Hid (R = (0, [], 6)) := HF.out.trans (if_pos (Or.inr hdd))
        have ts : (q.toList == [46, 46]) = true := by rw [Lib.toList_data, hdd]; rfl
        clear HF hdd
        go_wp2_with fail
        go_ret3
        exact ⟨ret_spot (b := ⟨#[]⟩) HX.out, B2.out⟩
      · have HX := Lib.hid (HF.out.trans (if_neg (by rintro (e | e); exact hPn e; exact hdd e)))
        have ts : (q.toList == [46, 46]) = false := by rw [Lib.toList_data, beq_eq_false_iff_ne]; exact hdd
        generalize goTo t 1 PL.dropLast true 0 = G at *
        obtain ⟨gn, gh, ge⟩ := G
        have HY : Hid (R = if (if ge ≠ 0 then ge else spotted t gn q.data.toList) ≠ 0 then (0, [], if ge ≠ 0 then ge else spotted t gn q.data.toList) else (gn, q.data.toList, 0)) := HX.out
        clear HX
        have HSP := Lib.hid (HSP.out gn q)
        generalize spotted t gn q.data.toList = ce at *
        clear HF hdd
        go_wp2_with fail
        go_quiet (fail)
        go_wp2_with fail
        refine (HW.out _ _ (on B2.out (below_draws w2 nq)) T.out).mono ?_
        rintro e w3 ⟨rfl, hb3⟩
        have B3 := Lib.hid (on (on B2.out (below_draws w2 nq)) hb3)
        clear hb3
        by_cases hg0 : ge = 0
        · subst hg0
          have HX : Hid (R = if ce ≠ 0 then (0, [], ce) else (gn, q.data.toList, 0)) := HY.out
          by_cases hce : ce = 0
          · have HX : Hid (R = (gn, q.data.toList, 0)) := HX.out.trans (if_neg (show ¬ ce ≠ 0 from fun e => e hce))
            subst hce
            go_wp2_with fail
            refine (HSP.out _ B3.out).mono ?_
            rintro e w5 ⟨rfl, hb5⟩
            have B5 := Lib.hid (on B3.out hb5)
            clear hb5
            go_wp2_with fail
            go_ret3
            exact ⟨ret_spot HX.out, B5.out⟩
          · have HX : Hid (R = (0, [], ce)) := HX.out.trans (if_pos hce)
            have t1 : (ce != 0) = true := by simpa using hce
            go_wp2_with fail
            refine (HSP.out _ B3.out).mono ?_
            rintro e w5 ⟨rfl, hb5⟩
            have B5 := Lib.hid (on B3.out hb5)
            clear hb5
            go_wp2_with fail
            go_ret3
            exact ⟨ret_spot (b := ⟨#[]⟩) HX.out, B5.out⟩
        · have HX : Hid (R = (0, [], ge)) := by have := HY.out; rw [if_pos hg0, if_pos hg0] at this; exact this
          have t1 : (ge != 0) = true := by simpa using hg0
          have t2 : (ge == 0) = false := by simpa using hg0
          clear hg0
          go_wp2_with fail
          go_ret3
          exact ⟨ret_spot (b := ⟨#[]⟩) HX.out, B3.out⟩
    · have e0 : PL = [] := W04.flat_none h0
      subst e0
      have HX : Hid (R = (0, [], 6)) := HF.out.trans (if_pos (Or.inl rfl))
      obtain ⟨A, cc, rfl, -, -⟩ := T2.out.form
      clear hown2 hb2 h0 HF T2
      go_wp2_with fail
      go_ret3
      exact ⟨ret_spot (b := ⟨#[]⟩) HX.out, B2.out⟩
  · have HX : Hid (R = (0, [], asked p.data.toList)) := by have := HF.out; rw [if_pos ha] at this; exact this
    have ta : (asked p.data.toList != 0) = true := by simpa using ha
    generalize asked p.data.toList = q at *
    clear ha HF P G
    go_enter Tryz.func83, Tryz.ntmps83
    go_wp2_with fail
    refine HC.out.mono ?_
    rintro e w1 ⟨rfl, hb1⟩
    go_wp2_with fail
    go_ret3
    exact ⟨ret_spot (b := ⟨#[]⟩) HX.out, hb1⟩
end Go.Proofs.YtolhniepejhmfaaGreatDoor.W08
/-
  Layer 8 (seek): the code keeps the contracts that the laws ask. Conditions: none but those that each theorem bears.
-/
namespace Go.Proofs.YtolhniepejhmfaaGreatDoor.W08
set_option maxRecDepth 100000
open Go Go.RowKit Go.Proofs.YtolhniepejhmfaaGreatDoor.Strs
open Go.Proofs.YtolhniepejhmfaaGreatDoor.M07 (Tr)
open Go.Proofs.YtolhniepejhmfaaGreatDoor.Kit (on)

theorem seeks : Seeks W07.Rep where
  find := fun P G p last hp => seekFind_any P G p last hp
  spot := fun P G p hp => seekSpot_any P G p hp
theorem asked_nil (p : ByteArray) (w : World) : Calls Tryz.prog 99 #[.pointer none, .string p] w fun e w' => e = .returned (.int .i64 1) ∧ Below w.heap.size w w' := by
  go_enter Tryz.func99, Tryz.ntmps99
  go_wp2_with fail
  go_ret
  exact ⟨rfl, Below.refl _ _⟩
theorem find_nil (w : World) (p : ByteArray) (last : Bool) : Calls Tryz.prog 85 #[.pointer none, .string p, .bool last] w fun e w' => e = .returned (.tuple #[.int .i64 0, .int .i64 1]) ∧ Below w.heap.size w w' := by
  have HC := Lib.hid (asked_nil p w)
  go_enter Tryz.func85, Tryz.ntmps85
  go_wp2_with fail
  refine HC.out.mono ?_
  rintro e w1 ⟨rfl, hb⟩
  go_wp2_with fail
  go_ret2
  exact ⟨rfl, hb⟩
theorem spot_nil (w : World) (p : ByteArray) : Calls Tryz.prog 83 #[.pointer none, .string p] w fun e w' => e = .returned (.tuple #[.int .i64 0, .string ⟨#[]⟩, .int .i64 1]) ∧ Below w.heap.size w w' := by
  have HC := Lib.hid (asked_nil p w)
  go_enter Tryz.func83, Tryz.ntmps83
  go_wp2_with fail
  refine HC.out.mono ?_
  rintro e w1 ⟨rfl, hb⟩
  go_wp2_with fail
  go_ret3
  exact ⟨rfl, hb⟩
theorem noSeek : NoSeek where
  find := find_nil
  spot := spot_nil
end Go.Proofs.YtolhniepejhmfaaGreatDoor.W08
/-
  Layer 9 (posix): the landed code keeps the contracts that the laws ask ('Posix', 'NoPosix'). Conditions: none but those that each theorem bears.
-/
namespace Go.Proofs.YtolhniepejhmfaaGreatDoor.W09
set_option maxRecDepth 100000
open Go Go.RowKit Go.Proofs.YtolhniepejhmfaaGreatDoor.Strs Go.Proofs.YtolhniepejhmfaaGreatDoor.Recs Go.Proofs.YtolhniepejhmfaaGreatDoor.Range
open Go.Proofs.YtolhniepejhmfaaGreatDoor.M07 (Tr Nd nodeAt inDir Right listDir)
open Go.Proofs.YtolhniepejhmfaaGreatDoor.M08 Go.Proofs.YtolhniepejhmfaaGreatDoor.M09
open Go.Proofs.YtolhniepejhmfaaGreatDoor.W07 (Small Trees Wrote listed heap_top)
open Go.Proofs.YtolhniepejhmfaaGreatDoor.W08 (Seeks NoSeek)
open Go.Proofs.YtolhniepejhmfaaGreatDoor.Kit (ret_str ret_bool ret_int mk_of mk_bytes ba_ext below_draws on)

theorem rep_form {F : Nat → Prop} {w : World} {v : Value} {t : Tr} (P : W07.Rep F w v t) : ∃ a, v = .pointer a := by
  obtain ⟨-, sb, mb, lv, rfl, -⟩ := P
  exact ⟨_, rfl⟩
theorem mkdir_over {Rep : (Nat → Prop) → World → Value → Tr → Prop} (C : Trees Rep) (S : Seeks Rep) {F : Nat → Prop} {w : World} {v : Value} {t : Tr} (P : Rep F w v t) (G : Good t) (p : ByteArray) (hp : p.size ≤ 1048576) :
    Calls Tryz.prog 56 #[v, .string p] w fun e w' => e = .returned (.int .i64 (putAt t p.data.toList 1 []).2) ∧ Wrote Rep F v (putAt t p.data.toList 1 []).1 w w' := by
  have HA : Hid (Calls Tryz.prog 79 #[v, .string p, .int .i64 1, .string ⟨#[]⟩] w fun e w' => e = .returned (.int .i64 (putAt t p.data.toList 1 []).2) ∧ Wrote Rep F v (putAt t p.data.toList 1 []).1 w w') := put_over C S P G p ⟨#[]⟩ 1 hp (by decide)
  clear P G hp
  generalize putAt t p.data.toList 1 [] = R at *
  go_enter Tryz.func56, Tryz.ntmps56
  go_wp2_with fail
  refine HA.out.mono ?_
  rintro e w2 ⟨rfl, hwr⟩
  have W2 := Lib.hid hwr
  clear hwr
  go_wp2_with fail
  go_ret
  exact ⟨rfl, W2.out⟩
theorem symlink_over {Rep : (Nat → Prop) → World → Value → Tr → Prop} (C : Trees Rep) (S : Seeks Rep) {F : Nat → Prop} {w : World} {v : Value} {t : Tr} (P : Rep F w v t) (G : Good t) (x p : ByteArray) (hx : x.size ≤ 1048576) (hp : p.size ≤ 1048576) :
    Calls Tryz.prog 60 #[v, .string x, .string p] w fun e w' => e = .returned (.int .i64 (putAt t p.data.toList 3 x.data.toList).2) ∧ Wrote Rep F v (putAt t p.data.toList 3 x.data.toList).1 w w' := by
  have HA := Lib.hid (put_over C S P G p x 3 hp hx)
  clear P G hp
  generalize putAt t p.data.toList 3 x.data.toList = R at *
  go_enter Tryz.func60, Tryz.ntmps60
  go_wp2_with fail
  refine HA.out.mono ?_
  rintro e w2 ⟨rfl, hwr⟩
  have W2 := Lib.hid hwr
  clear hwr
  go_wp2_with fail
  go_ret
  exact ⟨rfl, W2.out⟩
theorem posix : Posix W07.Rep where
  mkdir := fun P G p hp => mkdir_over W07.trees W08.seeks P G p hp
  symlink := fun P G x p hx hp => symlink_over W07.trees W08.seeks P G x p hx hp
  rmdir := fun P G p hp => by obtain ⟨a, rfl⟩ := rep_form P; exact rmdir_over W07.trees W08.seeks P G p hp
  unlink := fun P G p hp => by obtain ⟨a, rfl⟩ := rep_form P; exact unlink_over W07.trees W08.seeks P G p hp
  rename := fun P G a b ha hb => rename_over W07.trees W08.seeks P G a b ha hb
  write := fun P G p x hp hx => write_over W07.trees W08.seeks P G p x hp hx

/-! the calls of a nil pointer -/
theorem putn_nil (N : NoSeek) (w : World) (p : ByteArray) (k : Int) (x : ByteArray) : Calls Tryz.prog 79 #[.pointer none, .string p, .int .i64 k, .string x] w (Tells (.int .i64 1) w) := by
  have HA := Lib.hid (N.spot w p)
  unfold Tells
  go_enter Tryz.func79, Tryz.ntmps79
  go_wp2_with fail
  refine HA.out.mono ?_
  rintro e w1 ⟨rfl, hb1⟩
  go_wp2_with fail
  go_ret
  exact ⟨rfl, hb1⟩
theorem mkdir_nil (N : NoSeek) (w : World) (p : ByteArray) : Calls Tryz.prog 56 #[.pointer none, .string p] w (Tells (.int .i64 1) w) := by
  have HA := Lib.hid (putn_nil N w p 1 ⟨#[]⟩)
  unfold Tells at HA ⊢
  go_enter Tryz.func56, Tryz.ntmps56
  go_wp2_with fail
  refine HA.out.mono ?_
  rintro e w1 ⟨rfl, hb1⟩
  go_wp2_with fail
  go_ret
  exact ⟨rfl, hb1⟩
theorem symlink_nil (N : NoSeek) (w : World) (x p : ByteArray) : Calls Tryz.prog 60 #[.pointer none, .string x, .string p] w (Tells (.int .i64 1) w) := by
  have HA := Lib.hid (putn_nil N w p 3 x)
  unfold Tells at HA ⊢
  go_enter Tryz.func60, Tryz.ntmps60
  go_wp2_with fail
  refine HA.out.mono ?_
  rintro e w1 ⟨rfl, hb1⟩
  go_wp2_with fail
  go_ret
  exact ⟨rfl, hb1⟩
theorem rename_nil (N : NoSeek) (w : World) (a b : ByteArray) : Calls Tryz.prog 64 #[.pointer none, .string a, .string b] w (Tells (.int .i64 1) w) := by
  have HA := Lib.hid (N.spot w a)
  unfold Tells
  go_enter Tryz.func64, Tryz.ntmps64
  go_wp2_with fail
  refine HA.out.mono ?_
  rintro e w1 ⟨rfl, hb1⟩
  go_wp2_with fail
  go_ret
  exact ⟨rfl, hb1⟩
theorem write_nil (N : NoSeek) (w : World) (p x : ByteArray) : Calls Tryz.prog 66 #[.pointer none, .string p, .string x] w (Tells (.int .i64 1) w) := by
  have HA := Lib.hid (N.find w p true)
  unfold Tells
  go_enter Tryz.func66, Tryz.ntmps66
  go_wp2_with fail
  refine HA.out.mono ?_
  rintro e w1 ⟨rfl, hb1⟩
  go_wp2_with fail
  go_ret
  exact ⟨rfl, hb1⟩
theorem spot9_nil (N : NoSeek) (w : World) (p : ByteArray) : Calls Tryz.prog 97 #[.pointer none, .string p] w (Place 0 ⟨#[]⟩ 0 1 w) := by
  obtain ⟨w1, hw1⟩ : ∃ w1 : World, w.alloc (.cells #[.int .i64 0, .string ⟨#[]⟩, .int .i64 0] 143) = w1 := ⟨_, rfl⟩
  have B1 : Hid (Below w.heap.size w w1) := by show Below _ _ _; rw [← hw1]; exact W07.below_one _ _
  have PB : Hid (PlaceBox w1 w.heap.size 0 ⟨#[]⟩ 0) := by show PlaceBox _ _ _ _ _; rw [← hw1]; exact heap_top _ _
  have HA := Lib.hid (N.spot w1 p)
  have hbn := build_noplace
  unfold Place
  go_enter Tryz.func97, Tryz.ntmps97
  go_wp2_with fail
  clear hw1
  refine HA.out.mono ?_
  rintro e w2 ⟨rfl, hb2⟩
  have PB2 := PB.out.below hb2
  have B2 := Lib.hid (on B1.out hb2)
  have s0 := PB2.c0
  have s1 := PB2.c1
  have s2 := PB2.c2
  have f0 := PB2.fr 0
  have f1 := PB2.fr 1
  have f2 := PB2.fr 2
  clear hb2 PB PB2 HA
  go_wp2_with fail
  refine bodyPost_ret_by (v := .tuple #[.agg #[.int .i64 0, .string ⟨#[]⟩, .int .i64 0], .int .i64 1]) ?_ rfl ?_
  · rw [results_cell_tmp rfl]
    go_simp
  · exact ⟨rfl, stored3 _ _ _ B2.out (Nat.le_refl _)⟩
theorem cut9_nil (N : NoSeek) (w : World) (p : ByteArray) (fv : Value) : Calls Tryz.prog 80 #[.pointer none, .string p, fv] w (Tells (.int .i64 1) w) := by
  have HA := Lib.hid (spot9_nil N w p)
  unfold Place at HA
  unfold Tells
  go_enter Tryz.func80, Tryz.ntmps80
  go_wp2_with fail
  refine HA.out.mono ?_
  rintro e w1 ⟨rfl, hb1⟩
  go_wp2_with fail
  go_ret
  exact ⟨rfl, hb1.alloc hb1.size _⟩
theorem rmdir_nil (N : NoSeek) (w : World) (p : ByteArray) : Calls Tryz.prog 58 #[.pointer none, .string p] w (Tells (.int .i64 1) w) := by
  obtain ⟨w1, hw1⟩ : ∃ w1 : World, w.alloc (.cells #[.pointer none] 27) = w1 := ⟨_, rfl⟩
  have B1 : Hid (Below w.heap.size w w1) := by show Below _ _ _; rw [← hw1]; exact W07.below_one _ _
  have CB : Hid (Caught w1 w.heap.size (.pointer none)) := by show Caught _ _ _; rw [← hw1]; exact Caught.new _ _ _
  have c0 := CB.out.1
  have HA := Lib.hid (fun fv => cut9_nil N w1 p fv)
  unfold Tells at HA ⊢
  clear CB
  go_enter Tryz.func58, Tryz.ntmps58
  go_wp2_with fail
  clear hw1
  refine (HA.out _).mono ?_
  rintro e w2 ⟨rfl, hb2⟩
  go_wp2_with fail
  go_ret
  exact ⟨rfl, on B1.out hb2⟩
theorem unlink_nil (N : NoSeek) (w : World) (p : ByteArray) : Calls Tryz.prog 62 #[.pointer none, .string p] w (Tells (.int .i64 1) w) := by
  obtain ⟨w1, hw1⟩ : ∃ w1 : World, w.alloc (.cells #[.pointer none] 27) = w1 := ⟨_, rfl⟩
  have B1 : Hid (Below w.heap.size w w1) := by show Below _ _ _; rw [← hw1]; exact W07.below_one _ _
  have CB : Hid (Caught w1 w.heap.size (.pointer none)) := by show Caught _ _ _; rw [← hw1]; exact Caught.new _ _ _
  have c0 := CB.out.1
  have HA := Lib.hid (fun fv => cut9_nil N w1 p fv)
  unfold Tells at HA ⊢
  clear CB
  go_enter Tryz.func62, Tryz.ntmps62
  go_wp2_with fail
  clear hw1
  refine (HA.out _).mono ?_
  rintro e w2 ⟨rfl, hb2⟩
  go_wp2_with fail
  go_ret
  exact ⟨rfl, on B1.out hb2⟩
theorem noPosix : NoPosix where
  mkdir := fun w p => mkdir_nil W08.noSeek w p
  symlink := fun w x p => symlink_nil W08.noSeek w x p
  rmdir := fun w p => rmdir_nil W08.noSeek w p
  unlink := fun w p => unlink_nil W08.noSeek w p
  rename := fun w a b => rename_nil W08.noSeek w a b
  write := fun w p x => write_nil W08.noSeek w p x
end Go.Proofs.YtolhniepejhmfaaGreatDoor.W09
/-
  Layer 10 (fs): what the laws ask of the program's calls, as a structure of contracts over any reading of an FS ('Fss'); the laws' acts and faults as records. No condition but those that each theorem bears.
-/
namespace Go.Proofs.YtolhniepejhmfaaGreatDoor.W10
open Go Go.RowKit Go.Proofs.YtolhniepejhmfaaGreatDoor.Strs Go.Proofs.YtolhniepejhmfaaGreatDoor.Recs Go.Proofs.YtolhniepejhmfaaGreatDoor.Range
open Go.Proofs.YtolhniepejhmfaaGreatDoor.M07 (Tr nodeAt Right)
open Go.Proofs.YtolhniepejhmfaaGreatDoor.M09 Go.Proofs.YtolhniepejhmfaaGreatDoor.M10
open Go.Proofs.YtolhniepejhmfaaGreatDoor.W07 (Small Trees Wrote Off)
open Go.Proofs.YtolhniepejhmfaaGreatDoor.W09 (Tk tkC Tasks Within)
open Go.Proofs.YtolhniepejhmfaaGreatDoor.Kit (ret_str ret_bool ret_int mk_of mk_bytes ba_ext below_draws on)

abbrev Blocks := Nat → Prop
def flC (x : Fl) : List Value := [.int .i64 x.at_, .int .i64 x.err]
theorem flC_len (x : Fl) : (flC x).length = 2 := rfl
/-- faults in memory, below B -/
structure Faults (B : Nat) (w : World) (v : Value) (L : List Fl) : Prop where
  recs : Recs flC 2 B w v L
  ats : ∀ x ∈ L, (Lit.int .i64 x.at_).wf = true
theorem Faults.below {B : Nat} {w w' : World} {v : Value} {L : List Fl} (h : Faults B w v L) (hb : Below B w w') : Faults B w' v L := ⟨h.recs.below hb, h.ats⟩
theorem Faults.more {B B' : Nat} {w : World} {v : Value} {L : List Fl} (h : Faults B w v L) (hb : B ≤ B') : Faults B' w v L := ⟨h.recs.more hb, h.ats⟩
theorem Faults.at_ {B : Nat} {w : World} {L : List Fl} {A : Option Addr} {n c : Nat} (h : Recs flC 2 B w (.slice A n c) L) {k : Nat} (hk : k < n) : ∃ (b o : Nat) (hl : k < L.length), A = some ⟨b, o, none⟩ ∧ b < B ∧ w.cell? ⟨b, o + k * 2, none⟩ = some (.int .i64 (L[k]).at_) ∧ w.cell? ⟨b, o + k * 2 + 1, none⟩ = some (.int .i64 (L[k]).err) := by
  obtain ⟨b, o, hl, rfl, hb, hc⟩ := Recs.flat_ h flC_len (by omega) hk
  exact ⟨b, o, hl, rfl, hb, hc 0 (by omega), hc 1 (by omega)⟩
/-- behind a call that may have written the FS of the blocks F -/
def Turned (RepF : Blocks → World → Value → Fs → Prop) (F : Blocks) (v : Value) (x : Fs) (w w' : World) : Prop := ∃ F', RepF F' w' v x ∧ Turns F w w' ∧ ∀ k, F' k → F k ∨ w.heap.size ≤ k
/-- numbers that are counted to -/
def Counts (x : Fs) : Prop := 0 ≤ x.count ∧ x.count ≤ 1073741824
structure Fss (Rep : Blocks → World → Value → Tr → Prop) (RepF : Blocks → World → Value → Fs → Prop) : Prop where
  keep : ∀ {F w w' v x}, RepF F w v x → (∀ k, F k → w'.heap[k]? = w.heap[k]?) → w.heap.size ≤ w'.heap.size → RepF F w' v x
  low : ∀ {F w v x}, RepF F w v x → ∀ k, F k → k < w.heap.size
  right : ∀ {F w v x}, RepF F w v x → Right x.t
  full : ∀ {F w v x}, RepF F w v x → ∃ a, v = .pointer (some a)
  new : ∀ {Ft w tv t}, Rep Ft w tv t → Calls Tryz.prog 9 #[tv] w fun e w' => ∃ v F, e = .returned v ∧ RepF F w' v ⟨t, [], 0, false⟩ ∧ (∀ k, F k → Ft k ∨ w.heap.size ≤ k) ∧ Below w.heap.size w w'
  newNil : ∀ w, Calls Tryz.prog 9 #[.pointer none] w fun e w' => ∃ v F, e = .returned v ∧ RepF F w' v ⟨M07.new, [], 0, false⟩ ∧ (∀ k, F k → w.heap.size ≤ k) ∧ Below w.heap.size w w'
  plan : ∀ {F w v x}, RepF F w v x → ∀ u L, Faults w.heap.size w u L → Calls Tryz.prog 11 #[v, u] w fun e w' => e = .returned (.tuple #[]) ∧ Turned RepF F v { x with faults := L, count := 0 } w w'
  do_ : ∀ {F w v x}, RepF F w v x → W09.Good x.t → Counts x → ∀ (k : Int) (p s : ByteArray), p.size ≤ 1048576 → s.size ≤ 1048576 → Calls Tryz.prog 12 #[v, .agg #[.int .i64 k, .string p, .string s]] w fun e w' => e = .returned (.int .i64 (doFs x k p.data.toList s.data.toList).2) ∧ Turned RepF F v (doFs x k p.data.toList s.data.toList).1 w w'
  count : ∀ {F w v x}, RepF F w v x → Calls Tryz.prog 14 #[v] w fun e w' => e = .returned (.int .i64 x.count) ∧ Below w.heap.size w w'
  down : ∀ {F w v x}, RepF F w v x → Calls Tryz.prog 15 #[v] w fun e w' => e = .returned (.bool x.down) ∧ Below w.heap.size w w'
  up : ∀ {F w v x}, RepF F w v x → Calls Tryz.prog 10 #[v] w fun e w' => e = .returned (.tuple #[]) ∧ Turned RepF F v ⟨x.t, [], 0, false⟩ w w'
  tree : ∀ {F w v x}, RepF F w v x → Calls Tryz.prog 17 #[v] w fun e w' => ∃ tv Ft, e = .returned tv ∧ Rep Ft w' tv x.t ∧ (∀ k, Ft k → F k) ∧ Below w.heap.size w w'
section
variable {Rep : Blocks → World → Value → Tr → Prop} {RepF : Blocks → World → Value → Fs → Prop} {F : Blocks} {w w' w1 w2 : World} {v u : Value} {x : Fs}
theorem Fss.below (C : Fss Rep RepF) (h : RepF F w v x) (hb : Below w.heap.size w w') : RepF F w' v x := C.keep h (fun k hk => hb.block k (C.low h k hk)) hb.size
theorem Turned.after (hb : Below w.heap.size w w1) (h : Turned RepF F v x w1 w2) : Turned RepF F v x w w2 := by
  obtain ⟨F', h1, h2, h3⟩ := h
  exact ⟨F', h1, (Turns.new hb).trans h2, fun k hk => (h3 k hk).imp id (fun h => Nat.le_trans hb.size h)⟩
theorem turned_none (C : Fss Rep RepF) (h : RepF F w v x) (hb : Below w.heap.size w w') : Turned RepF F v x w w' := ⟨F, C.below h hb, Turns.new hb, fun _ h => Or.inl h⟩
end
structure Applies (Rep : Blocks → World → Value → Tr → Prop) : Prop where
  apply : ∀ {F w v t}, Rep F w v t → ∀ n, Within t n → ∀ u L, Tasks w.heap.size w u L → (0 < L.length → Off F u) → n + L.length ≤ 1048576 → (∀ x ∈ L, x.path.length ≤ 1048576 ∧ x.text.length ≤ 1048576) → Calls Tryz.prog 19 #[v, u] w fun e w' => e = .returned (.tuple #[.int .i64 ((applyAll t L).2.1 : Int), .int .i64 (applyAll t L).2.2]) ∧ Wrote Rep F v (applyAll t L).1 w w'
  applyNil : ∀ w u, (∃ A n c, u = .slice A n c) → Calls Tryz.prog 19 #[.pointer none, u] w fun e w' => e = .returned (.tuple #[.int .i64 0, .int .i64 1]) ∧ Below w.heap.size w w'
/-- the calls of a nil pointer -/
def Tells (u : Value) (w : World) (e : Ending) (w' : World) : Prop := e = .returned u ∧ Below w.heap.size w w'
structure NoFs : Prop where
  plan : ∀ w u, (∃ A n c, u = .slice A n c) → Calls Tryz.prog 11 #[.pointer none, u] w (Tells (.tuple #[]) w)
  up : ∀ w, Calls Tryz.prog 10 #[.pointer none] w (Tells (.tuple #[]) w)
  do_ : ∀ w (k : Int) (p s : ByteArray), Calls Tryz.prog 12 #[.pointer none, .agg #[.int .i64 k, .string p, .string s]] w (Tells (.int .i64 1) w)
  count : ∀ w, Calls Tryz.prog 14 #[.pointer none] w (Tells (.int .i64 0) w)
  down : ∀ w, Calls Tryz.prog 15 #[.pointer none] w (Tells (.bool false) w)
  tree : ∀ w, Calls Tryz.prog 17 #[.pointer none] w (Tells (.pointer none) w)

/-! the law's acts -/
structure Ac where
  do_ : Int
  fv : Value
  faults : List Fl
  task : Tk
def acC (x : Ac) : List Value := [.int .i64 x.do_, x.fv, .int .i64 x.task.kind, strV x.task.path, strV x.task.text]
theorem acC_len (x : Ac) : (acC x).length = 5 := rfl
/-- the law's acts in memory; each one's faults, too -/
structure Acts (B : Nat) (w : World) (v : Value) (L : List Ac) : Prop where
  recs : Recs acC 5 B w v L
  inner : ∀ x ∈ L, Faults B w x.fv x.faults
theorem Acts.below {B : Nat} {w w' : World} {v : Value} {L : List Ac} (h : Acts B w v L) (hb : Below B w w') : Acts B w' v L := ⟨h.recs.below hb, fun x hx => (h.inner x hx).below hb⟩
theorem Acts.at_ {B : Nat} {w : World} {L : List Ac} {A : Option Addr} {n c : Nat} (h : Acts B w (.slice A n c) L) {k : Nat} (hk : k < n) : ∃ (b o : Nat) (hl : k < L.length), A = some ⟨b, o, none⟩ ∧ b < B ∧ w.cell? ⟨b, o + k * 5, none⟩ = some (.int .i64 (L[k]).do_) ∧ w.cell? ⟨b, o + k * 5 + 1, none⟩ = some (L[k]).fv ∧ w.cell? ⟨b, o + k * 5 + 2, none⟩ = some (.int .i64 (L[k]).task.kind) ∧ w.cell? ⟨b, o + k * 5 + 3, none⟩ = some (.string ⟨(L[k]).task.path.toArray⟩) ∧ w.cell? ⟨b, o + k * 5 + 4, none⟩ = some (.string ⟨(L[k]).task.text.toArray⟩) := by
  obtain ⟨b, o, hl, rfl, hb, hc⟩ := Recs.flat_ h.recs acC_len (by omega) hk
  exact ⟨b, o, hl, rfl, hb, hc 0 (by omega), hc 1 (by omega), hc 2 (by omega), hc 3 (by omega), hc 4 (by omega)⟩
end Go.Proofs.YtolhniepejhmfaaGreatDoor.W10
