/-
  Texts joined, in build order, each with its own comment and its own conditions: W08Asks2, W08Code, W09Code, W10Abs, MapAsk, W10Faults, W10Doers, W10Box.
-/
import Derived.Test.YtmbpgjncioegdaaGreatDoorJ18
import Derived.Test.YtmbpgjncioegdaaGreatDoorJ20
import Derived.Test.YtmbpgjncioegdaaGreatDoorJ09
import Derived.BigQuiet
import Derived.Test.YtmbpgjncioegdaaGreatDoorJ15
import Derived.Test.YtmbpgjncioegdaaGreatDoorJ11
import Derived.Test.YtmbpgjncioegdaaGreatDoorJ13
/-
  Layer 8 (seek): Find and Spot; nothing that was there is changed. The conditions stand in the statements.
-/
namespace Go.Proofs.YtmbpgjncioegdaaGreatDoor.W08
set_option maxRecDepth 100000
open Go Go.RowKit Go.Proofs.YtmbpgjncioegdaaGreatDoor.Strs Go.Proofs.YtmbpgjncioegdaaGreatDoor.Recs Go.Proofs.YtmbpgjncioegdaaGreatDoor.Range
open Go.Proofs.YtmbpgjncioegdaaGreatDoor.M07 (Tr Nd nodeAt inDir Right)
open Go.Proofs.YtmbpgjncioegdaaGreatDoor.M08 Go.Proofs.YtmbpgjncioegdaaGreatDoor.M04
open Go.Proofs.YtmbpgjncioegdaaGreatDoor.M03 (check)
open Go.Proofs.YtmbpgjncioegdaaGreatDoor.W07 (Small Trees trees)
open Go.Proofs.YtmbpgjncioegdaaGreatDoor.Kit (ret_str ret_bool ret_int mk_of mk_bytes ba_ext below_draws on list_full list_ne list_none list_nil bytes_nil bytes_ne)

/-- what is told of a path ahead of its parts -/
def asked (p : Bytes) : Int := if p = [] then 5 else if 1024 < p.length then 11 else 0
theorem asked_any (sb : Nat) (p : ByteArray) (w : World) : Calls Tryz.prog 126 #[.pointer (some ⟨sb, 0, none⟩), .string p] w fun e w' => e = .returned (.int .i64 (asked p.data.toList)) ∧ Below w.heap.size w w' := by
  by_cases h0 : 0 < p.size
  · have e1 := list_full h0
    have e2 := list_ne h0
    by_cases h1 : p.size ≤ 1024
    · have HX : Hid (asked p.data.toList = 0) := by show _ = _; unfold asked; rw [if_neg (bytes_ne h0), if_neg (by rw [← Lib.size_eq]; omega)]
      rw [HX.out]
      go_enter Tryz.func126, Tryz.ntmps126
      go_wp2_with fail
      go_ret
      exact ⟨rfl, Below.refl _ _⟩
    · have HX : Hid (asked p.data.toList = 11) := by show _ = _; unfold asked; rw [if_neg (bytes_ne h0), if_pos (by rw [← Lib.size_eq]; omega)]
      rw [HX.out]
      have tl : (1024 : Int) < p.size := by omega
      go_enter Tryz.func126, Tryz.ntmps126
      go_wp2_with fail
      go_ret
      exact ⟨rfl, Below.refl _ _⟩
  · have e1 := list_none h0
    have e2 := list_nil h0
    have HX : Hid (asked p.data.toList = 5) := by show _ = _; unfold asked; rw [if_pos (bytes_nil h0)]
    rw [HX.out]
    go_enter Tryz.func126, Tryz.ntmps126
    go_wp2_with fail
    go_ret
    exact ⟨rfl, Below.refl _ _⟩
theorem find_asked (t : Tr) (p : Bytes) (last : Bool) : M08.find t p last = if asked p ≠ 0 then (0, asked p) else ((goTo t 1 (parts p) last 0).1, (goTo t 1 (parts p) last 0).2.2) := by
  unfold M08.find asked
  by_cases h : p = []
  · rw [if_pos h, if_pos h, if_pos (by decide)]
  · rw [if_neg h, if_neg h]
    by_cases h2 : 1024 < p.length
    · rw [if_pos h2, if_pos h2, if_pos (by decide)]
    · rw [if_neg h2, if_neg h2, if_neg (by decide)]
set_option maxHeartbeats 2000000 in
theorem seekFind_any {F : Nat → Prop} {w : World} {v : Value} {t : Tr} (P : W07.Rep F w v t) (G : Good t) (p : ByteArray) (last : Bool) (hp : p.size ≤ 1048576) : Calls Tryz.prog 117 #[v, .string p, .bool last] w fun e w' => e = .returned (.tuple #[.int .i64 (M08.find t p.data.toList last).1, .int .i64 (M08.find t p.data.toList last).2]) ∧ Below w.heap.size w w' := by
  have HP := Lib.hid P
  have HG := Lib.hid G
  obtain ⟨sb, rfl⟩ := rep_form P
  have HC := Lib.hid (asked_any sb p w)
  have HX := Lib.hid (find_asked t p.data.toList last)
  rw [HX.out]
  have HPT := Lib.hid (fun w' => W04.parts_any p (by omega) w')
  by_cases ha : asked p.data.toList = 0
  · have hl : (parts p.data.toList).length ≤ 70000 := by
      have h1 := parts_len p.data.toList
      have h2 : ¬ 1024 < p.data.toList.length := by
        intro h3
        have h4 : p.data.toList ≠ [] := by intro e; rw [e] at h3; simp at h3
        unfold asked at ha
        rw [if_neg h4, if_pos h3] at ha
        cases ha
      omega
    rw [ha] at HC ⊢
    rw [if_neg (by decide)]
    have HW := Lib.hid (fun (w' : World) (u : Value) (hb : Below w.heap.size w w') (ht : Texts w'.heap.size w' u (parts p.data.toList)) => walk_any trees (trees.below HP.out hb) HG.out u _ hl (parts_are _) (fun q hq => Nat.le_trans (parts_each _ q hq) (by rw [← Lib.size_eq]; exact hp)) ht last)
    generalize goTo t 1 (parts p.data.toList) last 0 = R at *
    generalize parts p.data.toList = PL at *
    clear ha HX P G
    go_enter Tryz.func117, Tryz.ntmps117
    go_wp2_with fail
    refine HC.out.mono ?_
    rintro e w1 ⟨rfl, hb1⟩
    go_wp2_with fail
    refine (HPT.out _).mono ?_
    rintro e w2 ⟨u2, rfl, ht2, hb2⟩
    have B2 := Lib.hid (on hb1 hb2)
    go_wp2_with fail
    refine (HW.out _ u2 B2.out ht2).mono ?_
    rintro e w3 ⟨rfl, hb3⟩
    go_wp2_with fail
    go_ret2
    exact ⟨rfl, on B2.out hb3⟩
  · rw [if_pos ha]
    have ta : (asked p.data.toList != 0) = true := by simpa using ha
    generalize asked p.data.toList = R at *
    clear ha HX P G
    go_enter Tryz.func117, Tryz.ntmps117
    go_wp2_with fail
    refine HC.out.mono ?_
    rintro e w1 ⟨rfl, hb1⟩
    go_wp2_with fail
    go_ret2
    exact ⟨rfl, hb1⟩
/-- what is told of a name in a node -/
def spotted (t : Tr) (n : Int) (s : Bytes) : Int := if (nodeAt t.L n).kind ≠ 1 then 7 else check s
theorem spotted_any {F : Nat → Prop} {w : World} {v : Value} {t : Tr} (P : W07.Rep F w v t) (G : Good t) (n : Int) (s : ByteArray) : Calls Tryz.prog 129 #[v, .int .i64 n, .string s] w fun e w' => e = .returned (.int .i64 (spotted t n s.data.toList)) ∧ Below w.heap.size w w' := by
  have HK := Lib.hid (trees.kind P G.small n)
  obtain ⟨sb, rfl⟩ := rep_form P
  have HCH := Lib.hid (fun w' => W03.check_free s w')
  by_cases hk : (nodeAt t.L n).kind = 1
  · have HX : Hid (spotted t n s.data.toList = check s.data.toList) := if_neg (fun h => h hk)
    rw [HX.out]
    have tk : ((nodeAt t.L n).kind != 1) = false := by simp [hk]
    generalize nodeAt t.L n = x at *
    generalize check s.data.toList = ce at *
    clear hk P G HX
    go_enter Tryz.func129, Tryz.ntmps129
    go_wp2_with fail
    refine HK.out.mono ?_
    rintro e w1 ⟨rfl, hb1⟩
    go_wp2_with fail
    refine (HCH.out _).mono ?_
    rintro e w2 ⟨rfl, hb2⟩
    go_wp2_with fail
    go_ret
    exact ⟨rfl, on hb1 hb2⟩
  · have HX : Hid (spotted t n s.data.toList = 7) := if_pos hk
    rw [HX.out]
    have tk : ((nodeAt t.L n).kind != 1) = true := by simpa using hk
    generalize nodeAt t.L n = x at *
    clear hk P G HX
    go_enter Tryz.func129, Tryz.ntmps129
    go_wp2_with fail
    refine HK.out.mono ?_
    rintro e w1 ⟨rfl, hb1⟩
    go_wp2_with fail
    go_ret
    exact ⟨rfl, hb1⟩
theorem spot_asked (t : Tr) (p : Bytes) : spot t p = if asked p ≠ 0 then (0, [], asked p) else if parts p = [] ∨ (parts p).getLastD [] = [46, 46] then (0, [], 6) else
    let g := goTo t 1 (parts p).dropLast true 0
    let e := if g.2.2 ≠ 0 then g.2.2 else if (nodeAt t.L g.1).kind ≠ 1 then 7 else check ((parts p).getLastD [])
    if e ≠ 0 then (0, [], e) else (g.1, (parts p).getLastD [], 0) := by
  unfold spot asked
  by_cases h : p = []
  · rw [if_pos h, if_pos h, if_pos (by decide)]
  · rw [if_neg h, if_neg h]
    by_cases h2 : 1024 < p.length
    · rw [if_pos h2, if_pos h2, if_pos (by decide)]
    · rw [if_neg h2, if_neg h2, if_neg (show ¬ (0 : Int) ≠ 0 by decide)]
set_option maxHeartbeats 8000000 in
theorem seekSpot_any {F : Nat → Prop} {w : World} {v : Value} {t : Tr} (P : W07.Rep F w v t) (G : Good t) (p : ByteArray) (hp : p.size ≤ 1048576) : Calls Tryz.prog 115 #[v, .string p] w fun e w' => e = .returned (.tuple #[.int .i64 (spot t p.data.toList).1, .string ⟨(spot t p.data.toList).2.1.toArray⟩, .int .i64 (spot t p.data.toList).2.2]) ∧ Below w.heap.size w w' := by
  have HP := Lib.hid P
  have HG := Lib.hid G
  obtain ⟨sb, rfl⟩ := rep_form P
  have HC := Lib.hid (asked_any sb p w)
  have HF := Lib.hid (spot_asked t p.data.toList)
  have HPT := Lib.hid (fun w' => W04.parts_makes p (by omega) w')
  generalize spot t p.data.toList = R at *
  by_cases ha : asked p.data.toList = 0
  · have hl : (parts p.data.toList).length ≤ 1025 := by
      have h1 := parts_len p.data.toList
      have h2 : ¬ 1024 < p.data.toList.length := by
        intro h3
        have h4 : p.data.toList ≠ [] := by intro e; rw [e] at h3; simp at h3
        unfold asked at ha
        rw [if_neg h4, if_pos h3] at ha
        cases ha
      omega
    rw [ha] at HC HF
    rw [if_neg (by decide)] at HF
    have HW := Lib.hid (fun (w' : World) (u : Value) (hb : Below w.heap.size w w') (ht : Texts w'.heap.size w' u (parts p.data.toList).dropLast) => walk_any trees (trees.below HP.out hb) HG.out u _ (by rw [List.length_dropLast]; omega) (fun q hq => parts_are _ q ((List.dropLast_sublist _).subset hq)) (fun q hq => Nat.le_trans (parts_each _ q ((List.dropLast_sublist _).subset hq)) (by rw [← Lib.size_eq]; exact hp)) ht true)
    have HSP := Lib.hid (fun (n : Int) (s : ByteArray) (w' : World) (hb : Below w.heap.size w w') => spotted_any (trees.below HP.out hb) HG.out n s)
    generalize parts p.data.toList = PL at *
    clear ha P G
    go_enter Tryz.func115, Tryz.ntmps115
    go_wp2_with fail
    refine HC.out.mono ?_
    rintro e w1 ⟨rfl, hb1⟩
    have B1 := Lib.hid hb1
    clear hb1
    go_wp2_with fail
    refine (HPT.out _).mono ?_
    rintro e w2 ⟨v2, rfl, hown2, hb2⟩
    have B2 := Lib.hid (on B1.out hb2)
    have T2 := Lib.hid (Texts.of_own hown2)
    by_cases h0 : 0 < PL.length
    · obtain ⟨m, hm1⟩ : ∃ m, PL.length = m + 1 := ⟨PL.length - 1, by omega⟩
      rw [hm1] at hown2
      obtain ⟨g, cc, rfl, hc1, hc2, hless⟩ := own_less hown2
      rw [W04.take_drop_map hm1] at hless
      have T : Hid (Texts w2.heap.size w2 (.slice (some ⟨g, 0, none⟩) m cc) PL.dropLast) := by
        have e := drop_len hm1
        exact Texts.of_own (by rw [← e] at hless; rw [← e]; exact hless)
      obtain ⟨ad, q, hA, hbl, hcell, hq⟩ := T2.out.at_ (k := m) (by omega)
      cases hA
      rw [Addr.add_lit, Nat.zero_add] at hcell
      have HQ : Hid (PL.getLastD [] = q.data.toList) := by
        show _ = _
        rw [hq, List.getLastD_eq_getLast?, List.getLast?_eq_getElem?, List.getD_eq_getElem?_getD, hm1, Nat.add_sub_cancel]
      rw [HQ.out] at HF
      have hPn : PL ≠ [] := fun e => by rw [e] at h0; simp at h0
      clear hless hown2 hb2 hq T2
      unfold maxLen at hc2
      have q6 : IntKind.i64.wrap (m : Int) = m := by rw [IntKind.wrap_i64]; omega
      have q1 : (0 : Int) ≤ (m : Int) := by omega
      have q2 : (m : Int) ≤ (cc : Int) := by omega
      by_cases hdd : q.data.toList = [46, 46]
      · have HX : Hid (R = (0, [], 6)) := HF.out.trans (if_pos (Or.inr hdd))
        have ts : (q.toList == [46, 46]) = true := by rw [Lib.toList_data, hdd]; rfl
        clear HF hdd
        go_wp2_with fail
        go_ret3
        exact ⟨ret_spot (b := ⟨#[]⟩) HX.out, B2.out⟩
      · have HX := Lib.hid (HF.out.trans (if_neg (by rintro (e | e); exact hPn e; exact hdd e)))
        have ts : (q.toList == [46, 46]) = false := by rw [Lib.toList_data, beq_eq_false_iff_ne]; exact hdd
        generalize goTo t 1 PL.dropLast true 0 = G at *
        obtain ⟨gn, gh, ge⟩ := G
        have HY : Hid (R = if (if ge ≠ 0 then ge else spotted t gn q.data.toList) ≠ 0 then (0, [], if ge ≠ 0 then ge else spotted t gn q.data.toList) else (gn, q.data.toList, 0)) := HX.out
        clear HX
        have HSP := Lib.hid (HSP.out gn q)
        generalize spotted t gn q.data.toList = ce at *
        clear HF hdd
        go_wp2_with fail
        go_quiet (fail)
        go_wp2_with fail
        refine (HW.out _ _ (on B2.out (below_draws w2 nq)) T.out).mono ?_
        rintro e w3 ⟨rfl, hb3⟩
        have B3 := Lib.hid (on (on B2.out (below_draws w2 nq)) hb3)
        clear hb3
        by_cases hg0 : ge = 0
        · subst hg0
          have HX : Hid (R = if ce ≠ 0 then (0, [], ce) else (gn, q.data.toList, 0)) := HY.out
          by_cases hce : ce = 0
          · have HX : Hid (R = (gn, q.data.toList, 0)) := HX.out.trans (if_neg (show ¬ ce ≠ 0 from fun e => e hce))
            subst hce
            go_wp2_with fail
            refine (HSP.out _ B3.out).mono ?_
            rintro e w5 ⟨rfl, hb5⟩
            have B5 := Lib.hid (on B3.out hb5)
            clear hb5
            go_wp2_with fail
            go_ret3
            exact ⟨ret_spot HX.out, B5.out⟩
          · have HX : Hid (R = (0, [], ce)) := HX.out.trans (if_pos hce)
            have t1 : (ce != 0) = true := by simpa using hce
            go_wp2_with fail
            refine (HSP.out _ B3.out).mono ?_
            rintro e w5 ⟨rfl, hb5⟩
            have B5 := Lib.hid (on B3.out hb5)
            clear hb5
            go_wp2_with fail
            go_ret3
            exact ⟨ret_spot (b := ⟨#[]⟩) HX.out, B5.out⟩
        · have HX : Hid (R = (0, [], ge)) := by have := HY.out; rw [if_pos hg0, if_pos hg0] at this; exact this
          have t1 : (ge != 0) = true := by simpa using hg0
          have t2 : (ge == 0) = false := by simpa using hg0
          clear hg0
          go_wp2_with fail
          go_ret3
          exact ⟨ret_spot (b := ⟨#[]⟩) HX.out, B3.out⟩
    · have e0 : PL = [] := W04.flat_none h0
      subst e0
      have HX : Hid (R = (0, [], 6)) := HF.out.trans (if_pos (Or.inl rfl))
      obtain ⟨A, cc, rfl, -, -⟩ := T2.out.form
      clear hown2 hb2 h0 HF T2
      go_wp2_with fail
      go_ret3
      exact ⟨ret_spot (b := ⟨#[]⟩) HX.out, B2.out⟩
  · have HX : Hid (R = (0, [], asked p.data.toList)) := by have := HF.out; rw [if_pos ha] at this; exact this
    have ta : (asked p.data.toList != 0) = true := by simpa using ha
    generalize asked p.data.toList = q at *
    clear ha HF P G
    go_enter Tryz.func115, Tryz.ntmps115
    go_wp2_with fail
    refine HC.out.mono ?_
    rintro e w1 ⟨rfl, hb1⟩
    go_wp2_with fail
    go_ret3
    exact ⟨ret_spot (b := ⟨#[]⟩) HX.out, hb1⟩
end Go.Proofs.YtmbpgjncioegdaaGreatDoor.W08
/-
  Layer 8 (seek): the code keeps the contracts that the laws ask. Conditions: none but those that each theorem bears.
-/
namespace Go.Proofs.YtmbpgjncioegdaaGreatDoor.W08
set_option maxRecDepth 100000
open Go Go.RowKit Go.Proofs.YtmbpgjncioegdaaGreatDoor.Strs
open Go.Proofs.YtmbpgjncioegdaaGreatDoor.M07 (Tr)
open Go.Proofs.YtmbpgjncioegdaaGreatDoor.Kit (on)

theorem seeks : Seeks W07.Rep where
  find := fun P G p last hp => seekFind_any P G p last hp
  spot := fun P G p hp => seekSpot_any P G p hp
end Go.Proofs.YtmbpgjncioegdaaGreatDoor.W08
/-
  Layer 9 (posix): the landed code keeps the contracts that the laws ask ('Posix', 'NoPosix'). Conditions: none but those that each theorem bears.
-/
namespace Go.Proofs.YtmbpgjncioegdaaGreatDoor.W09
set_option maxRecDepth 100000
open Go Go.RowKit Go.Proofs.YtmbpgjncioegdaaGreatDoor.Strs Go.Proofs.YtmbpgjncioegdaaGreatDoor.Recs Go.Proofs.YtmbpgjncioegdaaGreatDoor.Range
open Go.Proofs.YtmbpgjncioegdaaGreatDoor.M07 (Tr Nd nodeAt inDir Right listDir)
open Go.Proofs.YtmbpgjncioegdaaGreatDoor.M08 Go.Proofs.YtmbpgjncioegdaaGreatDoor.M09
open Go.Proofs.YtmbpgjncioegdaaGreatDoor.W07 (Small Trees Wrote listed heap_top)
open Go.Proofs.YtmbpgjncioegdaaGreatDoor.W08 (Seeks NoSeek)
open Go.Proofs.YtmbpgjncioegdaaGreatDoor.Kit (ret_str ret_bool ret_int mk_of mk_bytes ba_ext below_draws on)

theorem rep_form {F : Nat → Prop} {w : World} {v : Value} {t : Tr} (P : W07.Rep F w v t) : ∃ a, v = .pointer a := by
  obtain ⟨-, sb, mb, lv, rfl, -⟩ := P
  exact ⟨_, rfl⟩
theorem mkdir_over {Rep : (Nat → Prop) → World → Value → Tr → Prop} (C : Trees Rep) (S : Seeks Rep) {F : Nat → Prop} {w : World} {v : Value} {t : Tr} (P : Rep F w v t) (G : Good t) (p : ByteArray) (hp : p.size ≤ 1048576) :
    Calls Tryz.prog 87 #[v, .string p] w fun e w' => e = .returned (.int .i64 (putAt t p.data.toList 1 []).2) ∧ Wrote Rep F v (putAt t p.data.toList 1 []).1 w w' := by
  have HA : Hid (Calls Tryz.prog 111 #[v, .string p, .int .i64 1, .string ⟨#[]⟩] w fun e w' => e = .returned (.int .i64 (putAt t p.data.toList 1 []).2) ∧ Wrote Rep F v (putAt t p.data.toList 1 []).1 w w') := put_over C S P G p ⟨#[]⟩ 1 hp (by decide)
  clear P G hp
  generalize putAt t p.data.toList 1 [] = R at *
  go_enter Tryz.func87, Tryz.ntmps87
  go_wp2_with fail
  refine HA.out.mono ?_
  rintro e w2 ⟨rfl, hwr⟩
  have W2 := Lib.hid hwr
  clear hwr
  go_wp2_with fail
  go_ret
  exact ⟨rfl, W2.out⟩
theorem symlink_over {Rep : (Nat → Prop) → World → Value → Tr → Prop} (C : Trees Rep) (S : Seeks Rep) {F : Nat → Prop} {w : World} {v : Value} {t : Tr} (P : Rep F w v t) (G : Good t) (x p : ByteArray) (hx : x.size ≤ 1048576) (hp : p.size ≤ 1048576) :
    Calls Tryz.prog 91 #[v, .string x, .string p] w fun e w' => e = .returned (.int .i64 (putAt t p.data.toList 3 x.data.toList).2) ∧ Wrote Rep F v (putAt t p.data.toList 3 x.data.toList).1 w w' := by
  have HA := Lib.hid (put_over C S P G p x 3 hp hx)
  clear P G hp
  generalize putAt t p.data.toList 3 x.data.toList = R at *
  go_enter Tryz.func91, Tryz.ntmps91
  go_wp2_with fail
  refine HA.out.mono ?_
  rintro e w2 ⟨rfl, hwr⟩
  have W2 := Lib.hid hwr
  clear hwr
  go_wp2_with fail
  go_ret
  exact ⟨rfl, W2.out⟩
theorem posix : Posix W07.Rep where
  mkdir := fun P G p hp => mkdir_over W07.trees W08.seeks P G p hp
  symlink := fun P G x p hx hp => symlink_over W07.trees W08.seeks P G x p hx hp
  rmdir := fun P G p hp => by obtain ⟨a, rfl⟩ := rep_form P; exact rmdir_over W07.trees W08.seeks P G p hp
  unlink := fun P G p hp => by obtain ⟨a, rfl⟩ := rep_form P; exact unlink_over W07.trees W08.seeks P G p hp
  rename := fun P G a b ha hb => rename_over W07.trees W08.seeks P G a b ha hb
  write := fun P G p x hp hx => write_over W07.trees W08.seeks P G p x hp hx

/-! the calls of a nil pointer -/
end Go.Proofs.YtmbpgjncioegdaaGreatDoor.W09
/-
  Layer 10 (fs): what the laws ask of the program's calls, as a structure of contracts over any reading of an FS ('Fss'); the laws' acts and faults as records. No condition but those that each theorem bears.
-/
namespace Go.Proofs.YtmbpgjncioegdaaGreatDoor.W10
open Go Go.RowKit Go.Proofs.YtmbpgjncioegdaaGreatDoor.Strs Go.Proofs.YtmbpgjncioegdaaGreatDoor.Recs Go.Proofs.YtmbpgjncioegdaaGreatDoor.Range
open Go.Proofs.YtmbpgjncioegdaaGreatDoor.M07 (Tr nodeAt Right)
open Go.Proofs.YtmbpgjncioegdaaGreatDoor.M09 Go.Proofs.YtmbpgjncioegdaaGreatDoor.M10
open Go.Proofs.YtmbpgjncioegdaaGreatDoor.W07 (Small Trees Wrote Off)
open Go.Proofs.YtmbpgjncioegdaaGreatDoor.W09 (Tk tkC Tasks Within)
open Go.Proofs.YtmbpgjncioegdaaGreatDoor.Kit (ret_str ret_bool ret_int mk_of mk_bytes ba_ext below_draws on)

abbrev Blocks := Nat → Prop
def flC (x : Fl) : List Value := [.int .i64 x.at_, .int .i64 x.err]
theorem flC_len (x : Fl) : (flC x).length = 2 := rfl
/-- faults in memory, below B -/
structure Faults (B : Nat) (w : World) (v : Value) (L : List Fl) : Prop where
  recs : Recs flC 2 B w v L
  ats : ∀ x ∈ L, (Lit.int .i64 x.at_).wf = true
theorem Faults.below {B : Nat} {w w' : World} {v : Value} {L : List Fl} (h : Faults B w v L) (hb : Below B w w') : Faults B w' v L := ⟨h.recs.below hb, h.ats⟩
theorem Faults.more {B B' : Nat} {w : World} {v : Value} {L : List Fl} (h : Faults B w v L) (hb : B ≤ B') : Faults B' w v L := ⟨h.recs.more hb, h.ats⟩
theorem Faults.at_ {B : Nat} {w : World} {L : List Fl} {A : Option Addr} {n c : Nat} (h : Recs flC 2 B w (.slice A n c) L) {k : Nat} (hk : k < n) : ∃ (b o : Nat) (hl : k < L.length), A = some ⟨b, o, none⟩ ∧ b < B ∧ w.cell? ⟨b, o + k * 2, none⟩ = some (.int .i64 (L[k]).at_) ∧ w.cell? ⟨b, o + k * 2 + 1, none⟩ = some (.int .i64 (L[k]).err) := by
  obtain ⟨b, o, hl, rfl, hb, hc⟩ := Recs.flat_ h flC_len (by omega) hk
  exact ⟨b, o, hl, rfl, hb, hc 0 (by omega), hc 1 (by omega)⟩
/-- behind a call that may have written the FS of the blocks F -/
def Turned (RepF : Blocks → World → Value → Fs → Prop) (F : Blocks) (v : Value) (x : Fs) (w w' : World) : Prop := ∃ F', RepF F' w' v x ∧ Turns F w w' ∧ ∀ k, F' k → F k ∨ w.heap.size ≤ k
/-- numbers that are counted to -/
def Counts (x : Fs) : Prop := 0 ≤ x.count ∧ x.count ≤ 1073741824
structure Fss (Rep : Blocks → World → Value → Tr → Prop) (RepF : Blocks → World → Value → Fs → Prop) : Prop where
  keep : ∀ {F w w' v x}, RepF F w v x → (∀ k, F k → w'.heap[k]? = w.heap[k]?) → w.heap.size ≤ w'.heap.size → RepF F w' v x
  low : ∀ {F w v x}, RepF F w v x → ∀ k, F k → k < w.heap.size
  right : ∀ {F w v x}, RepF F w v x → Right x.t
  full : ∀ {F w v x}, RepF F w v x → ∃ a, v = .pointer (some a)
  new : ∀ {Ft w tv t}, Rep Ft w tv t → Calls Tryz.prog 16 #[tv] w fun e w' => ∃ v F, e = .returned v ∧ RepF F w' v ⟨t, [], 0, false⟩ ∧ (∀ k, F k → Ft k ∨ w.heap.size ≤ k) ∧ Below w.heap.size w w'
  newNil : ∀ w, Calls Tryz.prog 16 #[.pointer none] w fun e w' => ∃ v F, e = .returned v ∧ RepF F w' v ⟨M07.new, [], 0, false⟩ ∧ (∀ k, F k → w.heap.size ≤ k) ∧ Below w.heap.size w w'
  plan : ∀ {F w v x}, RepF F w v x → ∀ u L, Faults w.heap.size w u L → Calls Tryz.prog 17 #[v, u] w fun e w' => e = .returned (.tuple #[]) ∧ Turned RepF F v { x with faults := L, count := 0 } w w'
  do_ : ∀ {F w v x}, RepF F w v x → W09.Good x.t → Counts x → ∀ (k : Int) (p s : ByteArray), p.size ≤ 1048576 → s.size ≤ 1048576 → Calls Tryz.prog 43 #[v, .agg #[.int .i64 k, .string p, .string s]] w fun e w' => e = .returned (.int .i64 (doFs x k p.data.toList s.data.toList).2) ∧ Turned RepF F v (doFs x k p.data.toList s.data.toList).1 w w'
  count : ∀ {F w v x}, RepF F w v x → Calls Tryz.prog 21 #[v] w fun e w' => e = .returned (.int .i64 x.count) ∧ Below w.heap.size w w'
  down : ∀ {F w v x}, RepF F w v x → Calls Tryz.prog 22 #[v] w fun e w' => e = .returned (.bool x.down) ∧ Below w.heap.size w w'
  tree : ∀ {F w v x}, RepF F w v x → Calls Tryz.prog 20 #[v] w fun e w' => ∃ tv Ft, e = .returned tv ∧ Rep Ft w' tv x.t ∧ (∀ k, Ft k → F k) ∧ Below w.heap.size w w'
section
variable {Rep : Blocks → World → Value → Tr → Prop} {RepF : Blocks → World → Value → Fs → Prop} {F : Blocks} {w w' w1 w2 : World} {v u : Value} {x : Fs}
theorem Fss.below (C : Fss Rep RepF) (h : RepF F w v x) (hb : Below w.heap.size w w') : RepF F w' v x := C.keep h (fun k hk => hb.block k (C.low h k hk)) hb.size
theorem Turned.after (hb : Below w.heap.size w w1) (h : Turned RepF F v x w1 w2) : Turned RepF F v x w w2 := by
  obtain ⟨F', h1, h2, h3⟩ := h
  exact ⟨F', h1, (Turns.new hb).trans h2, fun k hk => (h3 k hk).imp id (fun h => Nat.le_trans hb.size h)⟩
theorem turned_none (C : Fss Rep RepF) (h : RepF F w v x) (hb : Below w.heap.size w w') : Turned RepF F v x w w' := ⟨F, C.below h hb, Turns.new hb, fun _ h => Or.inl h⟩
end
structure Applies (Rep : Blocks → World → Value → Tr → Prop) : Prop where
  apply : ∀ {F w v t}, Rep F w v t → ∀ n, Within t n → ∀ u L, Tasks w.heap.size w u L → (0 < L.length → Off F u) → n + L.length ≤ 1048576 → (∀ x ∈ L, x.path.length ≤ 1048576 ∧ x.text.length ≤ 1048576) → Calls Tryz.prog 29 #[v, u] w fun e w' => e = .returned (.tuple #[.int .i64 ((applyAll t L).2.1 : Int), .int .i64 (applyAll t L).2.2]) ∧ Wrote Rep F v (applyAll t L).1 w w'
  applyNil : ∀ w u, (∃ A n c, u = .slice A n c) → Calls Tryz.prog 29 #[.pointer none, u] w fun e w' => e = .returned (.tuple #[.int .i64 0, .int .i64 1]) ∧ Below w.heap.size w w'
/-- the calls of a nil pointer -/
def Tells (u : Value) (w : World) (e : Ending) (w' : World) : Prop := e = .returned u ∧ Below w.heap.size w w'
structure NoFs : Prop where
  plan : ∀ w u, (∃ A n c, u = .slice A n c) → Calls Tryz.prog 17 #[.pointer none, u] w (Tells (.tuple #[]) w)
  do_ : ∀ w (k : Int) (p s : ByteArray), Calls Tryz.prog 43 #[.pointer none, .agg #[.int .i64 k, .string p, .string s]] w (Tells (.int .i64 1) w)
  count : ∀ w, Calls Tryz.prog 21 #[.pointer none] w (Tells (.int .i64 0) w)
  down : ∀ w, Calls Tryz.prog 22 #[.pointer none] w (Tells (.bool false) w)
  tree : ∀ w, Calls Tryz.prog 20 #[.pointer none] w (Tells (.pointer none) w)

/-! the law's acts -/
structure Ac where
  do_ : Int
  fv : Value
  faults : List Fl
  task : Tk
def acC (x : Ac) : List Value := [.int .i64 x.do_, x.fv, .int .i64 x.task.kind, strV x.task.path, strV x.task.text]
theorem acC_len (x : Ac) : (acC x).length = 5 := rfl
/-- the law's acts in memory; each one's faults, too -/
structure Acts (B : Nat) (w : World) (v : Value) (L : List Ac) : Prop where
  recs : Recs acC 5 B w v L
  inner : ∀ x ∈ L, Faults B w x.fv x.faults
theorem Acts.below {B : Nat} {w w' : World} {v : Value} {L : List Ac} (h : Acts B w v L) (hb : Below B w w') : Acts B w' v L := ⟨h.recs.below hb, fun x hx => (h.inner x hx).below hb⟩
theorem Acts.at_ {B : Nat} {w : World} {L : List Ac} {A : Option Addr} {n c : Nat} (h : Acts B w (.slice A n c) L) {k : Nat} (hk : k < n) : ∃ (b o : Nat) (hl : k < L.length), A = some ⟨b, o, none⟩ ∧ b < B ∧ w.cell? ⟨b, o + k * 5, none⟩ = some (.int .i64 (L[k]).do_) ∧ w.cell? ⟨b, o + k * 5 + 1, none⟩ = some (L[k]).fv ∧ w.cell? ⟨b, o + k * 5 + 2, none⟩ = some (.int .i64 (L[k]).task.kind) ∧ w.cell? ⟨b, o + k * 5 + 3, none⟩ = some (.string ⟨(L[k]).task.path.toArray⟩) ∧ w.cell? ⟨b, o + k * 5 + 4, none⟩ = some (.string ⟨(L[k]).task.text.toArray⟩) := by
  obtain ⟨b, o, hl, rfl, hb, hc⟩ := Recs.flat_ h.recs acC_len (by omega) hk
  exact ⟨b, o, hl, rfl, hb, hc 0 (by omega), hc 1 (by omega), hc 2 (by omega), hc 3 (by omega), hc 4 (by omega)⟩
end Go.Proofs.YtmbpgjncioegdaaGreatDoor.W10
/-
  Maps keyed by int, asked with 'v, ok := m[k]', at whatever number; nil ones too; for every program. Plain lemmas on worlds; no condition but those that each theorem bears.
-/
namespace Go.Proofs.YtmbpgjncioegdaaGreatDoor.Maps
open Go Go.RowKit Go.Maps Go.ChangeMaps Go.MapKept
open Go.WideElems (Fit rd rg pl rd_key rd_val rg_of)

section
variable {P : Program} {k t e : TypeId} {w : World} {b m : Nat} {f : Int → Option Value}
theorem MapIs.ask (h : MapIs w P k b f m) (hk : P.underlying k = some (.int .i64)) (ht : P.underlying t = some (.map k e)) {z : Value} (hz : (zeroValue e).run P w = .ok z w) (n : Int) :
    (Instr.lookup t (.map (some b)) (.int .i64 n) true).run P w = .ok (.tuple #[(f n).getD z, .bool (f n).isSome]) w := by
  obtain ⟨l, ⟨es, clock, hb, F, hs, hD⟩, hl, hf⟩ := h
  injection hD with hD
  have hmem : ∀ x ∈ es.toList, ∃ j, x.key = .int .i64 j ∧ rg P k hold x = (Lit.int .i64 j, DataW.held x.val) := fun x hx => by
    obtain ⟨y, hy⟩ := F.reads x hx
    obtain ⟨j, e1, e2, hw⟩ := Maps.keyOf_int_inv hk (rd_key hy)
    obtain ⟨q, hq, e3⟩ := rd_val hy
    unfold hold at hq
    cases hq
    exact ⟨j, e1, (rg_of hy).trans (Prod.ext e2 e3)⟩
  have hc := run_checkKey (P := P) (w := w) (k := .int .i64 n) hk rfl
  rcases findNow_spec (d := .int .i64) (k := .int .i64 n) rfl es.toList 0 (fun x hx => by obtain ⟨j, e1, -⟩ := hmem x hx; rw [e1]; rfl) with ⟨h1, h2⟩ | ⟨j, e0, h1, h2, h3⟩
  · have h0 : f n = none := by
      cases hv : f n with
      | none => rfl
      | some v =>
        have := (hf n v).1 hv
        rw [hD] at this
        obtain ⟨x, hx, e⟩ := List.mem_map.1 (mem_sorted.1 this)
        obtain ⟨j, e1, e2⟩ := hmem x hx
        rw [e2] at e
        cases e
        exact absurd e1 (h2 x hx)
    rw [h0]
    simp [Instr.lookup, run_underlying ht, MapKept.run_getObj_map hb, hc, run_findKey hk h1, hz, Result.andThen]
  · have hm0 : e0 ∈ es.toList := List.mem_of_getElem? h2
    have h0 : f n = some e0.val := by
      obtain ⟨j', e1, e2⟩ := hmem e0 hm0
      rw [h3] at e1
      cases e1
      rw [hf, hD]
      exact mem_sorted.2 (List.mem_map.2 ⟨e0, hm0, e2⟩)
    rw [h0]
    simp [Instr.lookup, run_underlying ht, MapKept.run_getObj_map hb, hc, run_findKey hk h1, Result.andThen]
theorem nil_ask (hk : P.underlying k = some (.int .i64)) (ht : P.underlying t = some (.map k e)) {z : Value} (hz : (zeroValue e).run P w = .ok z w) (n : Int) :
    (Instr.lookup t (.map none) (.int .i64 n) true).run P w = .ok (.tuple #[z, .bool false]) w := by
  have hc := run_checkKey (P := P) (w := w) (k := .int .i64 n) hk rfl
  rcases findNow_spec (d := .int .i64) (k := .int .i64 n) rfl [] 0 (fun x hx => by cases hx) with ⟨h1, -⟩ | ⟨j, e0, -, h2, -⟩
  · simp [Instr.lookup, run_underlying ht, hc, run_findKey hk h1, hz, Result.andThen]
  · simp at h2
end
end Go.Proofs.YtmbpgjncioegdaaGreatDoor.Maps
/-
  Layer 10 (fs), walks of the landed code: the faults' table (byChange), as a map of the errors by their changes. New memory is laid, nothing that was there is changed. The conditions stand in the statements.
-/
namespace Go.Proofs.YtmbpgjncioegdaaGreatDoor.W10
set_option maxRecDepth 100000
open Go Go.RowKit Go.Proofs.YtmbpgjncioegdaaGreatDoor.Strs Go.Proofs.YtmbpgjncioegdaaGreatDoor.Recs Go.Proofs.YtmbpgjncioegdaaGreatDoor.Range Go.Proofs.YtmbpgjncioegdaaGreatDoor.Maps
open Go.Proofs.YtmbpgjncioegdaaGreatDoor.M07 (Tr nodeAt Right)
open Go.Proofs.YtmbpgjncioegdaaGreatDoor.M09 Go.Proofs.YtmbpgjncioegdaaGreatDoor.M10
open Go.Proofs.YtmbpgjncioegdaaGreatDoor.W07 (Small Trees Wrote heap_top)
open Go.Proofs.YtmbpgjncioegdaaGreatDoor.Kit (ret_str ret_bool ret_int mk_of mk_bytes ba_ext below_draws on)

theorem keyE : Tryz.prog.underlying 3 = some (.int .i64) := Tryz.underlying3
theorem mapE : Tryz.prog.underlying 77 = some (.map 3 33) := Tryz.underlying77
theorem zeroE (w : World) : (zeroValue 33).run Tryz.prog w = .ok (.int .i64 0) w := by kernel_rfl
/-- a map of the errors by their changes -/
abbrev Table (w : World) (b : Nat) (L : List Fl) (m : Nat) : Prop := MapIs w Tryz.prog 3 b (tab L) m
/-- where the loop stands -/
structure Ranks (w wr : World) (mb : Nat) (L : List Fl) (k : Nat) : Prop where
  map : ∃ m, m ≤ k ∧ Table wr mb (L.take k) m
  below : Below w.heap.size w wr
  new : w.heap.size ≤ mb
section
variable {w wr w' : World} {mb k : Nat} {L : List Fl}
theorem Ranks.boxed (h : Ranks w wr mb L k) (o : Obj) : Ranks w (wr.alloc o) mb L k := by
  obtain ⟨m, hm, h1⟩ := h.map
  exact ⟨⟨m, hm, h1.alloc o⟩, h.below.alloc h.below.size o, h.new⟩
theorem Ranks.same (h : Ranks w wr mb L k) (hk : k < L.length) (he : ∀ n, tab (L.take k ++ [L[k]]) n = tab (L.take k) n) : Ranks w wr mb L (k + 1) := by
  obtain ⟨m, hm, h1⟩ := h.map
  refine ⟨⟨m, by omega, ?_⟩, h.below, h.new⟩
  rw [List.take_succ_eq_append_getElem hk]
  exact h1.as (fun n => (he n).symm) rfl
theorem Ranks.put (h : Ranks w wr mb L k) (hk : k < L.length) (hm : k < maxLen) (h1 : ¬ (L[k]).at_ < 1) (h2 : (L[k]).err ≠ 0) (h3 : tab (L.take k) (L[k]).at_ = none) (hw : (Lit.int .i64 (L[k]).at_).wf = true) :
    ∃ w', (Instr.mapUpdate 77 (.map (some mb)) (.int .i64 (L[k]).at_) (.int .i64 (L[k]).err)).run Tryz.prog wr = .ok () w' ∧ Ranks w w' mb L (k + 1) := by
  obtain ⟨m, hmk, hM⟩ := h.map
  obtain ⟨w', hrun, hM', ht⟩ := hM.store keyE mapE (by omega) (n := (L[k]).at_) hw (.int .i64 (L[k]).err)
  refine ⟨w', hrun, ⟨m + 1, by omega, ?_⟩, h.below.grown ht.grown h.below.size (fun k hk => by cases hk; exact h.new), h.new⟩
  rw [List.take_succ_eq_append_getElem hk]
  refine hM'.as (fun n => ?_) ?_
  · unfold upd
    rw [tab_new h1 h2 h3]
  · rw [h3]; rfl
theorem Ranks.ask (h : Ranks w wr mb L k) (n : Int) : (Instr.lookup 77 (.map (some mb)) (.int .i64 n) true).run Tryz.prog wr = .ok (.tuple #[(tab (L.take k) n).getD (.int .i64 0), .bool (tab (L.take k) n).isSome]) wr := by
  obtain ⟨m, hm, h1⟩ := h.map
  exact h1.ask keyE mapE (zeroE wr) n
end
def FaultBox (w : World) (p : Nat) (a e : Int) : Prop := w.heap[p]? = some (.cells #[.int .i64 a, .int .i64 e] 110 (0, 0))
theorem FaultBox.c0 {w : World} {p : Nat} {a e : Int} (h : FaultBox w p a e) : w.cell? ⟨p, 0, none⟩ = some (.int .i64 a) := cell_of_row w _ 0 _ _ (0, 0) h
theorem FaultBox.c1 {w : World} {p : Nat} {a e : Int} (h : FaultBox w p a e) : w.cell? ⟨p, 1, none⟩ = some (.int .i64 e) := cell_of_row w _ 1 _ _ (0, 0) h
set_option maxHeartbeats 4000000 in
theorem byChange_any (v : Value) (L : List Fl) (w : World) (h : Faults w.heap.size w v L) :
    Calls Tryz.prog 41 #[v] w fun e w' => ∃ mb m, e = .returned (.map (some mb)) ∧ w.heap.size ≤ mb ∧ Table w' mb L m ∧ Below w.heap.size w w' := by
  have H := Lib.hid h
  obtain ⟨A, c, rfl, hA1, hA2⟩ := h.recs.form
  have hA2 : L.length ≤ c ∧ c ≤ maxLen := ⟨hA1, hA2⟩
  unfold maxLen at hA2
  obtain ⟨hA2, hA3⟩ := hA2
  clear h
  have hmm := @run_makeMap Tryz.prog
  have R0 : Hid (Ranks w (w.alloc (.map #[] 0)) w.heap.size L 0) := ⟨⟨0, Nat.le_refl _, (map_made w Tryz.prog 3).as (fun n => (tab_nil n).symm) rfl⟩, (Below.refl _ _).alloc (Nat.le_refl _) _, Nat.le_refl _⟩
  generalize hm : L.length = m at *
  have HM := Lib.hid hm
  clear hm
  go_enter Tryz.func41, Tryz.ntmps41
  go_wp2_with fail
  obtain ⟨mb, hmb⟩ : ∃ mb, w.heap.size = mb := ⟨_, rfl⟩
  rw [hmb] at R0
  rw [hmb]
  generalize w.alloc (.map #[] 0) = w0 at *
  clear hmm
  go_loopw [11] (fun i wr => ∃ k : Nat, k ≤ m ∧ i = .int .i64 k ∧ Hid (Ranks w wr mb L k)) (fun i _ => m - (intOf i).toNat)
  case atStart => exact ⟨0, Nat.zero_le _, rfl, R0.out⟩
  case round =>
    clear R0
    obtain ⟨k, hk, rfl, hr⟩ := hrel
    by_cases hlt : k < m
    · obtain ⟨b, o, hl1, rfl, hbl, hc0, hc1⟩ := Faults.at_ (H.out.recs.below hr.out.below) hlt
      obtain ⟨wB, hwB⟩ : ∃ wB : World, wr.alloc (.cells #[.int .i64 (L[k]).at_, .int .i64 (L[k]).err] 110) = wB := ⟨_, rfl⟩
      have RB : Hid (Ranks w wB mb L k) := by show Ranks _ _ _ _ _; rw [← hwB]; exact hr.out.boxed _
      have FB : Hid (FaultBox wB wr.heap.size (L[k]).at_ (L[k]).err) := by show FaultBox _ _ _ _; rw [← hwB]; exact heap_top _ _
      have f0 := FB.out.c0
      have f1 := FB.out.c1
      have HAT := Lib.hid (H.out.ats _ (List.getElem_mem hl1))
      by_cases h1 : (L[k]).at_ < 1
      · have HN := Lib.hid (RB.out.same hl1 (tab_skip (Or.inl h1)))
        have t1 : decide ((L[k]).at_ < 1) = true := decide_eq_true h1
        generalize (L[k]).at_ = xa at *
        generalize (L[k]).err = xe at *
        go_wp2_with fail
        go_roundw
        case rel => exact ⟨k + 1, by omega, by go_num, HN⟩
        case measure => simp [intOf]; omega
      · by_cases h2 : (L[k]).err = 0
        · have HN := Lib.hid (RB.out.same hl1 (tab_skip (Or.inr h2)))
          have t2 : ((L[k]).err == 0) = true := by simpa using h2
          clear h2
          generalize (L[k]).at_ = xa at *
          generalize (L[k]).err = xe at *
          go_wp2_with fail
          go_roundw
          case rel => exact ⟨k + 1, by omega, by go_num, HN⟩
          case measure => simp [intOf]; omega
        · have t2 : ((L[k]).err == 0) = false := by simpa using h2
          have hask := RB.out.ask (L[k]).at_
          cases hs : tab (L.take k) (L[k]).at_ with
          | some z =>
            have HN := Lib.hid (RB.out.same hl1 (tab_taken (by rw [hs]; rfl)))
            rw [hs] at hask
            have hask : (Instr.lookup 77 (.map (some mb)) (.int .i64 (L[k]).at_) true).run Tryz.prog wB = .ok (.tuple #[z, .bool true]) wB := hask
            generalize (L[k]).at_ = xa at *
            generalize (L[k]).err = xe at *
            go_wp2_with fail
            go_roundw
            case rel => exact ⟨k + 1, by omega, by go_num, HN⟩
            case measure => simp [intOf]; omega
          | none =>
            obtain ⟨wP, hput, HN⟩ := RB.out.put hl1 (by unfold maxLen; omega) h1 h2 hs HAT.out
            have HN := Lib.hid HN
            rw [hs] at hask
            have hask : (Instr.lookup 77 (.map (some mb)) (.int .i64 (L[k]).at_) true).run Tryz.prog wB = .ok (.tuple #[.int .i64 0, .bool false]) wB := hask
            generalize (L[k]).at_ = xa at *
            generalize (L[k]).err = xe at *
            go_wp2_with fail
            go_roundw
            case rel => exact ⟨k + 1, by omega, by go_num, HN⟩
            case measure => simp [intOf]; omega
    · have hkm : k = L.length := by have := HM.out; omega
      obtain ⟨s, hs, h1⟩ := hr.out.map
      rw [hkm, List.take_length] at h1
      go_wp2_with fail
      go_ret
      exact ⟨_, _, rfl, hr.out.new, h1, hr.out.below⟩
end Go.Proofs.YtmbpgjncioegdaaGreatDoor.W10
/-
  Layer 10 (fs), walks of the landed code: how a task is done, by its kind (doers, doerOf and the functions that they answer). The conditions stand in the statements.
-/
namespace Go.Proofs.YtmbpgjncioegdaaGreatDoor.W10
set_option maxRecDepth 100000
open Go Go.RowKit Go.Proofs.YtmbpgjncioegdaaGreatDoor.Strs Go.Proofs.YtmbpgjncioegdaaGreatDoor.Recs Go.Proofs.YtmbpgjncioegdaaGreatDoor.Range Go.Proofs.YtmbpgjncioegdaaGreatDoor.Maps
open Go.Proofs.YtmbpgjncioegdaaGreatDoor.M07 (Tr nodeAt Right)
open Go.Proofs.YtmbpgjncioegdaaGreatDoor.M09 Go.Proofs.YtmbpgjncioegdaaGreatDoor.M10
open Go.Proofs.YtmbpgjncioegdaaGreatDoor.W07 (Small Trees Wrote heap_top)
open Go.Proofs.YtmbpgjncioegdaaGreatDoor.W09 (Posix Good TaskBox wrote_after)
open Go.Proofs.YtmbpgjncioegdaaGreatDoor.Kit (ret_str ret_bool ret_int mk_of mk_bytes ba_ext below_draws on)

theorem store_nil_func {P : Program} {w : World} {a : Addr} {m : Mode} : (store a .nilFunc m).run P w = stored P w a .nilFunc m := run_store P w a _ m rfl
theorem store_func {P : Program} {w : World} {a : Addr} {m : Mode} {f : Fn} {x y : Array Value} : (store a (.func f x y) m).run P w = stored P w a (.func f x y) m := run_store P w a _ m rfl
attribute [local go_sem] store_nil_func store_func
/-- the functions by their kinds -/
abbrev way (g : Nat) : Value := .func (.func g) #[] #[]
def ways : Array Value := #[.nilFunc, way 86, way 88, way 90, way 92, way 94, way 96]
set_option maxRecDepth 100000 in
set_option maxHeartbeats 2000000 in
theorem doers_any (w : World) : Calls Tryz.prog 71 #[] w fun e w' => e = .returned (.agg ways) ∧ Below w.heap.size w w' := by
  go_enter Tryz.func71, Tryz.ntmps71
  go_wp2_with fail
  refine bodyPost_ret_by (v := .agg ways) ?_ rfl ⟨rfl, ?_⟩
  · rw [W07.results_cell_one rfl]
    go_simp
    rfl
  · exact (Below.refl _ _).alloc (Nat.le_refl _) _

set_option maxRecDepth 100000 in
set_option maxHeartbeats 4000000 in
theorem doerOf_any (k : Int) (h : 1 ≤ k ∧ k ≤ 6) (w : World) : Calls Tryz.prog 54 #[.int .i64 k] w fun e w' => (∃ v, e = .returned v ∧ ways[k.toNat]? = some v) ∧ Below w.heap.size w w' := by
  have HD := Lib.hid doers_any
  have hk : k = 1 ∨ k = 2 ∨ k = 3 ∨ k = 4 ∨ k = 5 ∨ k = 6 := by omega
  clear h
  rcases hk with rfl | rfl | rfl | rfl | rfl | rfl
  all_goals (
    go_enter Tryz.func54, Tryz.ntmps54
    go_wp2_with fail
    refine (HD.out _).mono ?_
    rintro e w1 ⟨rfl, hb⟩
    have hb1 := hb.alloc hb.size (.cells ways 120)
    unfold ways at hb1 ⊢
    go_wp2_with fail
    go_ret
    exact ⟨⟨_, rfl, rfl⟩, hb1⟩)
set_option maxRecDepth 100000 in
set_option maxHeartbeats 4000000 in
theorem doerOf_none (k : Int) (h : ¬ (1 ≤ k ∧ k ≤ 6)) (w : World) : Calls Tryz.prog 54 #[.int .i64 k] w fun e w' => e = .returned .nilFunc ∧ Below w.heap.size w w' := by
  have HD := Lib.hid doers_any
  by_cases h0 : k = 0
  · subst h0
    clear h
    go_enter Tryz.func54, Tryz.ntmps54
    go_wp2_with fail
    refine (HD.out _).mono ?_
    rintro e w1 ⟨rfl, hb⟩
    have hb1 := hb.alloc hb.size (.cells ways 120)
    unfold ways at hb1 ⊢
    go_wp2_with fail
    go_ret
    exact ⟨rfl, hb1⟩
  · by_cases h1 : k < 0
    · have t1 : decide (k < 0) = true := decide_eq_true h1
      clear h h0
      go_enter Tryz.func54, Tryz.ntmps54
      go_wp2_with fail
      refine (HD.out _).mono ?_
      rintro e w1 ⟨rfl, hb⟩
      have hb1 := hb.alloc hb.size (.cells ways 120)
      unfold ways at hb1 ⊢
      go_wp2_with fail
      go_ret
      exact ⟨rfl, hb1⟩
    · have h7 : (7 : Int) ≤ k := by omega
      have t1 : decide (k < 0) = false := decide_eq_false h1
      have t2 : decide ((7 : Int) ≤ k) = true := decide_eq_true h7
      clear h h0
      go_enter Tryz.func54, Tryz.ntmps54
      go_wp2_with fail
      refine (HD.out _).mono ?_
      rintro e w1 ⟨rfl, hb⟩
      have hb1 := hb.alloc hb.size (.cells ways 120)
      unfold ways at hb1 ⊢
      go_wp2_with fail
      go_ret
      exact ⟨rfl, hb1⟩
section
variable {Rep : (Nat → Prop) → World → Value → Tr → Prop} {F : Nat → Prop} {w : World} {v : Value} {t : Tr}
/-- what a call does that does the task x of a kind -/
abbrev Does (Rep : (Nat → Prop) → World → Value → Tr → Prop) (g : Nat) (k : Int) : Prop := ∀ {F : Nat → Prop} {w : World} {v : Value} {t : Tr}, Rep F w v t → W09.Good t → ∀ (p x : ByteArray), p.size ≤ 1048576 → x.size ≤ 1048576 →
  Calls Tryz.prog g #[v, .agg #[.int .i64 k, .string p, .string x]] w fun e w' => e = .returned (.int .i64 (doTask t k p.data.toList x.data.toList).2) ∧ Wrote Rep F v (doTask t k p.data.toList x.data.toList).1 w w'
set_option maxHeartbeats 2000000 in
theorem does1_any (C : Trees Rep) (S : Posix Rep) : Does Rep 86 1 := by
  intro F w v t P G p x hp hx
  obtain ⟨w1, hw1⟩ : ∃ w1 : World, w.alloc (.cells #[.int .i64 1, .string p, .string x] 59) = w1 := ⟨_, rfl⟩
  have B1 : Hid (Below w.heap.size w w1) := by show Below _ _ _; rw [← hw1]; exact W07.below_one _ _
  have TB : Hid (TaskBox w1 w.heap.size 1 p x) := by show TaskBox _ _ _ _ _; rw [← hw1]; exact heap_top _ _
  have t1 := TB.out.c1
  have t2 := TB.out.c2
  have P1 := Lib.hid (C.below P B1.out)
  have HG := Lib.hid G
  have HX : Hid (doTask t 1 p.data.toList x.data.toList = putAt t p.data.toList 1 []) := by show _ = _; unfold doTask; simp
  rw [HX.out]
  have HC := Lib.hid (S.mkdir P1.out HG.out p hp)
  clear P G HX
  generalize putAt t p.data.toList 1 [] = Q at *
  go_enter Tryz.func86, Tryz.ntmps86
  go_wp2_with fail
  clear hw1
  refine HC.out.mono ?_
  rintro e w2 ⟨rfl, hwr⟩
  have W2 := Lib.hid (wrote_after B1.out hwr)
  clear hwr
  go_wp2_with fail
  go_ret
  exact ⟨rfl, W2.out⟩
set_option maxHeartbeats 2000000 in
theorem does2_any (C : Trees Rep) (S : Posix Rep) : Does Rep 88 2 := by
  intro F w v t P G p x hp hx
  obtain ⟨w1, hw1⟩ : ∃ w1 : World, w.alloc (.cells #[.int .i64 2, .string p, .string x] 59) = w1 := ⟨_, rfl⟩
  have B1 : Hid (Below w.heap.size w w1) := by show Below _ _ _; rw [← hw1]; exact W07.below_one _ _
  have TB : Hid (TaskBox w1 w.heap.size 2 p x) := by show TaskBox _ _ _ _ _; rw [← hw1]; exact heap_top _ _
  have t1 := TB.out.c1
  have t2 := TB.out.c2
  have P1 := Lib.hid (C.below P B1.out)
  have HG := Lib.hid G
  have HX : Hid (doTask t 2 p.data.toList x.data.toList = cutAt t p.data.toList true) := by show _ = _; unfold doTask; simp
  rw [HX.out]
  have HC := Lib.hid (S.rmdir P1.out HG.out p hp)
  clear P G HX
  generalize cutAt t p.data.toList true = Q at *
  go_enter Tryz.func88, Tryz.ntmps88
  go_wp2_with fail
  clear hw1
  refine HC.out.mono ?_
  rintro e w2 ⟨rfl, hwr⟩
  have W2 := Lib.hid (wrote_after B1.out hwr)
  clear hwr
  go_wp2_with fail
  go_ret
  exact ⟨rfl, W2.out⟩
set_option maxHeartbeats 2000000 in
theorem does3_any (C : Trees Rep) (S : Posix Rep) : Does Rep 90 3 := by
  intro F w v t P G p x hp hx
  obtain ⟨w1, hw1⟩ : ∃ w1 : World, w.alloc (.cells #[.int .i64 3, .string p, .string x] 59) = w1 := ⟨_, rfl⟩
  have B1 : Hid (Below w.heap.size w w1) := by show Below _ _ _; rw [← hw1]; exact W07.below_one _ _
  have TB : Hid (TaskBox w1 w.heap.size 3 p x) := by show TaskBox _ _ _ _ _; rw [← hw1]; exact heap_top _ _
  have t1 := TB.out.c1
  have t2 := TB.out.c2
  have P1 := Lib.hid (C.below P B1.out)
  have HG := Lib.hid G
  have HX : Hid (doTask t 3 p.data.toList x.data.toList = putAt t p.data.toList 3 x.data.toList) := by show _ = _; unfold doTask; simp
  rw [HX.out]
  have HC := Lib.hid (S.symlink P1.out HG.out x p hx hp)
  clear P G HX
  generalize putAt t p.data.toList 3 x.data.toList = Q at *
  go_enter Tryz.func90, Tryz.ntmps90
  go_wp2_with fail
  clear hw1
  refine HC.out.mono ?_
  rintro e w2 ⟨rfl, hwr⟩
  have W2 := Lib.hid (wrote_after B1.out hwr)
  clear hwr
  go_wp2_with fail
  go_ret
  exact ⟨rfl, W2.out⟩
set_option maxHeartbeats 2000000 in
theorem does4_any (C : Trees Rep) (S : Posix Rep) : Does Rep 92 4 := by
  intro F w v t P G p x hp hx
  obtain ⟨w1, hw1⟩ : ∃ w1 : World, w.alloc (.cells #[.int .i64 4, .string p, .string x] 59) = w1 := ⟨_, rfl⟩
  have B1 : Hid (Below w.heap.size w w1) := by show Below _ _ _; rw [← hw1]; exact W07.below_one _ _
  have TB : Hid (TaskBox w1 w.heap.size 4 p x) := by show TaskBox _ _ _ _ _; rw [← hw1]; exact heap_top _ _
  have t1 := TB.out.c1
  have t2 := TB.out.c2
  have P1 := Lib.hid (C.below P B1.out)
  have HG := Lib.hid G
  have HX : Hid (doTask t 4 p.data.toList x.data.toList = cutAt t p.data.toList false) := by show _ = _; unfold doTask; simp
  rw [HX.out]
  have HC := Lib.hid (S.unlink P1.out HG.out p hp)
  clear P G HX
  generalize cutAt t p.data.toList false = Q at *
  go_enter Tryz.func92, Tryz.ntmps92
  go_wp2_with fail
  clear hw1
  refine HC.out.mono ?_
  rintro e w2 ⟨rfl, hwr⟩
  have W2 := Lib.hid (wrote_after B1.out hwr)
  clear hwr
  go_wp2_with fail
  go_ret
  exact ⟨rfl, W2.out⟩
set_option maxHeartbeats 2000000 in
theorem does5_any (C : Trees Rep) (S : Posix Rep) : Does Rep 94 5 := by
  intro F w v t P G p x hp hx
  obtain ⟨w1, hw1⟩ : ∃ w1 : World, w.alloc (.cells #[.int .i64 5, .string p, .string x] 59) = w1 := ⟨_, rfl⟩
  have B1 : Hid (Below w.heap.size w w1) := by show Below _ _ _; rw [← hw1]; exact W07.below_one _ _
  have TB : Hid (TaskBox w1 w.heap.size 5 p x) := by show TaskBox _ _ _ _ _; rw [← hw1]; exact heap_top _ _
  have t1 := TB.out.c1
  have t2 := TB.out.c2
  have P1 := Lib.hid (C.below P B1.out)
  have HG := Lib.hid G
  have HX : Hid (doTask t 5 p.data.toList x.data.toList = M09.rename t p.data.toList x.data.toList) := by show _ = _; unfold doTask; simp
  rw [HX.out]
  have HC := Lib.hid (S.rename P1.out HG.out p x hp hx)
  clear P G HX
  generalize M09.rename t p.data.toList x.data.toList = Q at *
  go_enter Tryz.func94, Tryz.ntmps94
  go_wp2_with fail
  clear hw1
  refine HC.out.mono ?_
  rintro e w2 ⟨rfl, hwr⟩
  have W2 := Lib.hid (wrote_after B1.out hwr)
  clear hwr
  go_wp2_with fail
  go_ret
  exact ⟨rfl, W2.out⟩
set_option maxHeartbeats 2000000 in
theorem does6_any (C : Trees Rep) (S : Posix Rep) : Does Rep 96 6 := by
  intro F w v t P G p x hp hx
  obtain ⟨w1, hw1⟩ : ∃ w1 : World, w.alloc (.cells #[.int .i64 6, .string p, .string x] 59) = w1 := ⟨_, rfl⟩
  have B1 : Hid (Below w.heap.size w w1) := by show Below _ _ _; rw [← hw1]; exact W07.below_one _ _
  have TB : Hid (TaskBox w1 w.heap.size 6 p x) := by show TaskBox _ _ _ _ _; rw [← hw1]; exact heap_top _ _
  have t1 := TB.out.c1
  have t2 := TB.out.c2
  have P1 := Lib.hid (C.below P B1.out)
  have HG := Lib.hid G
  have HX : Hid (doTask t 6 p.data.toList x.data.toList = M09.write t p.data.toList x.data.toList) := by show _ = _; unfold doTask; simp
  rw [HX.out]
  have HC := Lib.hid (S.write P1.out HG.out p x hp hx)
  clear P G HX
  generalize M09.write t p.data.toList x.data.toList = Q at *
  go_enter Tryz.func96, Tryz.ntmps96
  go_wp2_with fail
  clear hw1
  refine HC.out.mono ?_
  rintro e w2 ⟨rfl, hwr⟩
  have W2 := Lib.hid (wrote_after B1.out hwr)
  clear hwr
  go_wp2_with fail
  go_ret
  exact ⟨rfl, W2.out⟩
end
end Go.Proofs.YtmbpgjncioegdaaGreatDoor.W10
/-
  Layer 10 (fs): what the landed code's FS is in memory: a box with the tree, the table of the faults, the count and whether it is down; what becomes of it when its box is written, or its tree. Plain lemmas on worlds; no condition but those that each theorem bears.
-/
namespace Go.Proofs.YtmbpgjncioegdaaGreatDoor.W10
open Go Go.RowKit Go.Proofs.YtmbpgjncioegdaaGreatDoor.Strs Go.Proofs.YtmbpgjncioegdaaGreatDoor.Recs Go.Proofs.YtmbpgjncioegdaaGreatDoor.Range Go.Proofs.YtmbpgjncioegdaaGreatDoor.Maps
open Go.Proofs.YtmbpgjncioegdaaGreatDoor.M07 (Tr nodeAt Right)
open Go.Proofs.YtmbpgjncioegdaaGreatDoor.M09 Go.Proofs.YtmbpgjncioegdaaGreatDoor.M10
open Go.Proofs.YtmbpgjncioegdaaGreatDoor.W07 (Small Trees Wrote heap_top set_heap)
open Go.Proofs.YtmbpgjncioegdaaGreatDoor.Kit (ret_str ret_bool ret_int mk_of mk_bytes ba_ext below_draws on)

def FsBox (w : World) (p : Nat) (tv mv : Value) (c : Int) (d : Bool) : Prop := w.heap[p]? = some (.cells #[tv, mv, .int .i64 c, .bool d] 79 (0, 0))
section
variable {w w' : World} {p : Nat} {tv mv : Value} {c : Int} {d : Bool}
theorem FsBox.lt (h : FsBox w p tv mv c d) : p < w.heap.size := (Array.getElem?_eq_some_iff.1 h).1
theorem FsBox.below (h : FsBox w p tv mv c d) (hb : Below w.heap.size w w') : FsBox w' p tv mv c d := (hb.block _ h.lt).trans h
theorem FsBox.turns {T : Nat → Prop} (h : FsBox w p tv mv c d) (ht : Turns T w w') (hp : ¬ T p) : FsBox w' p tv mv c d := ht.keeps h hp
theorem FsBox.new (w : World) (tv mv : Value) (c : Int) (d : Bool) : FsBox (w.alloc (.cells #[tv, mv, .int .i64 c, .bool d] 79)) w.heap.size tv mv c d := heap_top _ _
theorem FsBox.c0 (h : FsBox w p tv mv c d) : w.cell? ⟨p, 0, none⟩ = some tv := cell_of_row w _ 0 _ _ (0, 0) h
theorem FsBox.c1 (h : FsBox w p tv mv c d) : w.cell? ⟨p, 1, none⟩ = some mv := cell_of_row w _ 1 _ _ (0, 0) h
theorem FsBox.c2 (h : FsBox w p tv mv c d) : w.cell? ⟨p, 2, none⟩ = some (.int .i64 c) := cell_of_row w _ 2 _ _ (0, 0) h
theorem FsBox.c3 (h : FsBox w p tv mv c d) : w.cell? ⟨p, 3, none⟩ = some (.bool d) := cell_of_row w _ 3 _ _ (0, 0) h
theorem FsBox.fr (h : FsBox w p tv mv c d) (j : Nat) : w.frozen? ⟨p, j, none⟩ = false := frozen_of_row w _ j _ _ h
theorem FsBox.set1 (h : FsBox w p tv mv c d) (m : Value) : FsBox (w.setCell ⟨p, 1, none⟩ m) p tv m c d := set_heap h 1 m
theorem FsBox.set2 (h : FsBox w p tv mv c d) (n : Int) : FsBox (w.setCell ⟨p, 2, none⟩ (.int .i64 n)) p tv mv n d := set_heap h 2 (.int .i64 n)
theorem FsBox.set3 (h : FsBox w p tv mv c d) (b : Bool) : FsBox (w.setCell ⟨p, 3, none⟩ (.bool b)) p tv mv c b := set_heap h 3 (.bool b)
end
/-- the table of the faults: none, or a map that lies in F beside the tree and the box -/
def Marks (F Ft : Blocks) (w : World) (p : Nat) (mv : Value) (L : List Fl) : Prop :=
  (mv = .map none ∧ ∀ n, tab L n = none) ∨ ∃ b m, mv = .map (some b) ∧ F b ∧ ¬ Ft b ∧ b ≠ p ∧ Table w b L m
theorem Marks.keep {F Ft : Blocks} {w w' : World} {p : Nat} {mv : Value} {L : List Fl} (h : Marks F Ft w p mv L) (hk : ∀ b, F b → ¬ Ft b → b ≠ p → w'.heap[b]? = w.heap[b]?) : Marks F Ft w' p mv L := by
  rcases h with h | ⟨b, m, e, h1, h2, h3, h4⟩
  · exact Or.inl h
  · exact Or.inr ⟨b, m, e, h1, h2, h3, h4.keep (hk b h1 h2 h3)⟩
theorem Marks.ask {F Ft : Blocks} {w : World} {p : Nat} {mv : Value} {L : List Fl} (h : Marks F Ft w p mv L) {n : Int} (hn : 1 ≤ n) (nq : Nat) :
    (Instr.lookup 77 mv (.int .i64 n) true).run Tryz.prog (w.drewN nq) = .ok (.tuple #[.int .i64 (fault L n), .bool (decide (fault L n ≠ 0))]) (w.drewN nq) := by
  obtain ⟨a1, a2⟩ := tab_at (l := L) hn
  rcases h with ⟨rfl, h⟩ | ⟨b, m, rfl, -, -, -, h4⟩
  · have := nil_ask (P := Tryz.prog) (w := w.drewN nq) keyE mapE (zeroE _) n
    rw [h n] at a1 a2
    rw [← a2, ← a1]
    exact this
  · have h5 : Table (w.drewN nq) b L m := h4.keep rfl
    have := h5.ask keyE mapE (zeroE _) n
    rw [a1, a2] at this
    exact this
structure FsAt (Rep : Blocks → World → Value → Tr → Prop) (F Ft : Blocks) (w : World) (p : Nat) (tv mv : Value) (x : Fs) : Prop where
  box : FsBox w p tv mv x.count x.down
  tree : Rep Ft w tv x.t
  marks : Marks F Ft w p mv x.faults
  fp : F p
  tp : ¬ Ft p
  sub : ∀ k, Ft k → F k
  low : ∀ k, F k → k < w.heap.size
/-- v leads to an FS that reads as x and lies in the blocks F -/
def RepF (Rep : Blocks → World → Value → Tr → Prop) (F : Blocks) (w : World) (v : Value) (x : Fs) : Prop := ∃ Ft p tv mv, v = .pointer (some ⟨p, 0, none⟩) ∧ FsAt Rep F Ft w p tv mv x
section
variable {Rep : Blocks → World → Value → Tr → Prop} {F Ft : Blocks} {w w' w2 : World} {p : Nat} {tv mv mv' : Value} {x x' : Fs}
theorem FsAt.keep (C : Trees Rep) (h : FsAt Rep F Ft w p tv mv x) (hk : ∀ k, F k → w'.heap[k]? = w.heap[k]?) (hs : w.heap.size ≤ w'.heap.size) : FsAt Rep F Ft w' p tv mv x where
  box := (hk _ h.fp).trans h.box
  tree := C.keep h.tree (fun k hf => hk k (h.sub k hf)) hs
  marks := h.marks.keep fun b hb _ _ => hk b hb
  fp := h.fp
  tp := h.tp
  sub := h.sub
  low := fun k hf => Nat.lt_of_lt_of_le (h.low k hf) hs
theorem FsAt.below (C : Trees Rep) (h : FsAt Rep F Ft w p tv mv x) (hb : Below w.heap.size w w') : FsAt Rep F Ft w' p tv mv x := h.keep C (fun k hf => hb.block k (h.low k hf)) hb.size
/-- the box was written -/
theorem FsAt.stored (C : Trees Rep) (h : FsAt Rep F Ft w p tv mv x) (ht : Turns (fun k => k = p) w w') (hb : FsBox w' p tv mv' x'.count x'.down) (hx : x'.t = x.t) (hm : Marks F Ft w' p mv' x'.faults) : FsAt Rep F Ft w' p tv mv' x' where
  box := hb
  tree := by rw [hx]; exact C.keep h.tree (fun k hf => ht.block k (h.low k (h.sub k hf)) (fun e => h.tp (by have : k = p := e; rw [← this]; exact hf))) ht.size
  marks := hm
  fp := h.fp
  tp := h.tp
  sub := h.sub
  low := fun k hf => Nat.lt_of_lt_of_le (h.low k hf) ht.size
theorem FsAt.marks_turns (h : FsAt Rep F Ft w p tv mv x) (ht : Turns (fun k => k = p) w w') : Marks F Ft w' p mv x.faults := h.marks.keep fun b hb _ hp => ht.block b (h.low b hb) hp
theorem FsAt.turned (h : FsAt Rep F Ft w2 p tv mv x) (ht : Turns F w w2) : Turned (RepF Rep) F (.pointer (some ⟨p, 0, none⟩)) x w w2 := ⟨F, ⟨Ft, p, tv, mv, rfl, h⟩, ht, fun _ => Or.inl⟩
/-- the tree was written -/
theorem FsAt.wrote (C : Trees Rep) (h : FsAt Rep F Ft w p tv mv x) {t : Tr} (hw : Wrote Rep Ft tv t w w') : ∃ F', RepF Rep F' w' (.pointer (some ⟨p, 0, none⟩)) { x with t := t } ∧ Turns F w w' ∧ ∀ k, F' k → F k ∨ w.heap.size ≤ k := by
  obtain ⟨Ft', h1, h2, h3⟩ := hw
  have hp := h.box.lt
  refine ⟨fun k => F k ∨ Ft' k, ⟨Ft', p, tv, mv, rfl, ?_⟩, h2.wider h.sub, fun k hk => hk.elim Or.inl (fun hk => (h3 k hk).imp (h.sub k) id)⟩
  exact {
    box := h.box.turns h2 h.tp
    tree := h1
    marks := by
      rcases h.marks with e | ⟨b, m, e, e1, e2, e3, e4⟩
      · exact Or.inl e
      · exact Or.inr ⟨b, m, e, Or.inl e1, fun hb => (h3 b hb).elim e2 (fun hb => by have := h.low b e1; omega), e3, e4.keep (h2.block b (h.low b e1) e2)⟩
    fp := Or.inl h.fp
    tp := fun hb => (h3 p hb).elim h.tp (fun hb => by omega)
    sub := fun _ => Or.inr
    low := fun k hk => hk.elim (fun hk => Nat.lt_of_lt_of_le (h.low k hk) h2.size) (C.low h1 k) }
/-- a map that lies beside all that was there -/
theorem FsAt.wider (h : FsAt Rep F Ft w p tv mv x) {b : Nat} (hb : b < w.heap.size) : FsAt Rep (fun k => F k ∨ k = b) Ft w p tv mv x where
  box := h.box
  tree := h.tree
  marks := by
    rcases h.marks with e | ⟨b, m, e, e1, e2, e3, e4⟩
    · exact Or.inl e
    · exact Or.inr ⟨b, m, e, Or.inl e1, e2, e3, e4⟩
  fp := Or.inl h.fp
  tp := h.tp
  sub := fun k hk => Or.inl (h.sub k hk)
  low := fun k hk => hk.elim (h.low k) (fun e => by omega)
theorem Table.lt {w : World} {b m : Nat} {L : List Fl} (h : Table w b L m) : b < w.heap.size := by
  obtain ⟨es, clock, hm⟩ := h.at_
  exact (Array.getElem?_eq_some_iff.1 hm).1
theorem turns_one (w : World) (p j : Nat) (u : Value) : Turns (fun k => k = p) w (w.setCell ⟨p, j, none⟩ u) := Turns.setCell u rfl
theorem Turned.from (hb : Turns F w w2) {RF : Blocks → World → Value → Fs → Prop} {v : Value} (h : Turned RF F v x w2 w') : Turned RF F v x w w' := by
  obtain ⟨F', h1, h2, h3⟩ := h
  exact ⟨F', h1, hb.trans h2, fun k hk => (h3 k hk).imp id (fun h => Nat.le_trans hb.size h)⟩
end
end Go.Proofs.YtmbpgjncioegdaaGreatDoor.W10
