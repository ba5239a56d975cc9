/-
  Texts joined, in build order, each with its own comment and its own conditions: W08Asks2, W08Code, W09Code, W09Laws.
-/
import Derived.Test.YtdnedeeocpaolaaDoorJ25
import Derived.Test.YtdnedeeocpaolaaDoorJ27
import Derived.Test.YtdnedeeocpaolaaDoorJ10
import Derived.BigQuiet
import Derived.Test.YtdnedeeocpaolaaDoorJ20
import Derived.Test.YtdnedeeocpaolaaDoorJ23
import Derived.Test.YtdnedeeocpaolaaDoorJ14
import Derived.Test.YtdnedeeocpaolaaDoorJ17
import Derived.Test.YtdnedeeocpaolaaDoorJ18
/-
  Layer 8 (seek): Find and Spot; nothing that was there is changed. The conditions stand in the statements.
-/
namespace Go.Proofs.YtdnedeeocpaolaaDoor.W08
set_option maxRecDepth 100000
open Go Go.RowKit Go.Proofs.YtdnedeeocpaolaaDoor.Strs Go.Proofs.YtdnedeeocpaolaaDoor.Recs Go.Proofs.YtdnedeeocpaolaaDoor.Range
open Go.Proofs.YtdnedeeocpaolaaDoor.M07 (Tr Nd nodeAt inDir Right)
open Go.Proofs.YtdnedeeocpaolaaDoor.M08 Go.Proofs.YtdnedeeocpaolaaDoor.M04
open Go.Proofs.YtdnedeeocpaolaaDoor.M03 (check)
open Go.Proofs.YtdnedeeocpaolaaDoor.W07 (Small Trees trees)
open Go.Proofs.YtdnedeeocpaolaaDoor.Kit (ret_str ret_bool ret_int mk_of mk_bytes ba_ext below_draws on list_full list_ne list_none list_nil bytes_nil bytes_ne)

/-- what is told of a path ahead of its parts -/
def asked (p : Bytes) : Int := if p = [] then 5 else if 1024 < p.length then 11 else 0
theorem asked_any (sb : Nat) (p : ByteArray) (w : World) : Calls Tryd.prog 40 #[.pointer (some ⟨sb, 0, none⟩), .string p] w fun e w' => e = .returned (.int .i64 (asked p.data.toList)) ∧ Below w.heap.size w w' := by
  by_cases h0 : 0 < p.size
  · have e1 := list_full h0
    have e2 := list_ne h0
    by_cases h1 : p.size ≤ 1024
    · have HX : Hid (asked p.data.toList = 0) := by show _ = _; unfold asked; rw [if_neg (bytes_ne h0), if_neg (by rw [← Lib.size_eq]; omega)]
      rw [HX.out]
      go_enter Tryd.func40, Tryd.ntmps40
      go_wp2_with fail
      go_ret
      exact ⟨rfl, Below.refl _ _⟩
    · have HX : Hid (asked p.data.toList = 11) := by show _ = _; unfold asked; rw [if_neg (bytes_ne h0), if_pos (by rw [← Lib.size_eq]; omega)]
      rw [HX.out]
      have tl : (1024 : Int) < p.size := by omega
      go_enter Tryd.func40, Tryd.ntmps40
      go_wp2_with fail
      go_ret
      exact ⟨rfl, Below.refl _ _⟩
  · have e1 := list_none h0
    have e2 := list_nil h0
    have HX : Hid (asked p.data.toList = 5) := by show _ = _; unfold asked; rw [if_pos (bytes_nil h0)]
    rw [HX.out]
    go_enter Tryd.func40, Tryd.ntmps40
    go_wp2_with fail
    go_ret
    exact ⟨rfl, Below.refl _ _⟩
theorem find_asked (t : Tr) (p : Bytes) (last : Bool) : M08.find t p last = if asked p ≠ 0 then (0, asked p) else ((goTo t 1 (parts p) last 0).1, (goTo t 1 (parts p) last 0).2.2) := by
  unfold M08.find asked
  by_cases h : p = []
  · rw [if_pos h, if_pos h, if_pos (by decide)]
  · rw [if_neg h, if_neg h]
    by_cases h2 : 1024 < p.length
    · rw [if_pos h2, if_pos h2, if_pos (by decide)]
    · rw [if_neg h2, if_neg h2, if_neg (by decide)]
set_option maxHeartbeats 2000000 in
theorem seekFind_any {F : Nat → Prop} {w : World} {v : Value} {t : Tr} (P : W07.Rep F w v t) (G : Good t) (p : ByteArray) (last : Bool) (hp : p.size ≤ 1048576) : Calls Tryd.prog 39 #[v, .string p, .bool last] w fun e w' => e = .returned (.tuple #[.int .i64 (M08.find t p.data.toList last).1, .int .i64 (M08.find t p.data.toList last).2]) ∧ Below w.heap.size w w' := by
  have HP := Lib.hid P
  have HG := Lib.hid G
  obtain ⟨sb, rfl⟩ := rep_form P
  have HC := Lib.hid (asked_any sb p w)
  have HX := Lib.hid (find_asked t p.data.toList last)
  rw [HX.out]
  have HPT := Lib.hid (fun w' => W04.parts_any p (by omega) w')
  by_cases ha : asked p.data.toList = 0
  · have hl : (parts p.data.toList).length ≤ 70000 := by
      have h1 := parts_len p.data.toList
      have h2 : ¬ 1024 < p.data.toList.length := by
        intro h3
        have h4 : p.data.toList ≠ [] := by intro e; rw [e] at h3; simp at h3
        unfold asked at ha
        rw [if_neg h4, if_pos h3] at ha
        cases ha
      omega
    rw [ha] at HC ⊢
    rw [if_neg (by decide)]
    have HW := Lib.hid (fun (w' : World) (u : Value) (hb : Below w.heap.size w w') (ht : Texts w'.heap.size w' u (parts p.data.toList)) => walk_any trees (trees.below HP.out hb) HG.out u _ hl (parts_are _) (fun q hq => Nat.le_trans (parts_each _ q hq) (by rw [← Lib.size_eq]; exact hp)) ht last)
    generalize goTo t 1 (parts p.data.toList) last 0 = R at *
    generalize parts p.data.toList = PL at *
    clear ha HX P G
    go_enter Tryd.func39, Tryd.ntmps39
    go_wp2_with fail
    refine HC.out.mono ?_
    rintro e w1 ⟨rfl, hb1⟩
    go_wp2_with fail
    refine (HPT.out _).mono ?_
    rintro e w2 ⟨u2, rfl, ht2, hb2⟩
    have B2 := Lib.hid (on hb1 hb2)
    go_wp2_with fail
    refine (HW.out _ u2 B2.out ht2).mono ?_
    rintro e w3 ⟨rfl, hb3⟩
    go_wp2_with fail
    go_ret2
    exact ⟨rfl, on B2.out hb3⟩
  · rw [if_pos ha]
    have ta : (asked p.data.toList != 0) = true := by simpa using ha
    generalize asked p.data.toList = R at *
    clear ha HX P G
    go_enter Tryd.func39, Tryd.ntmps39
    go_wp2_with fail
    refine HC.out.mono ?_
    rintro e w1 ⟨rfl, hb1⟩
    go_wp2_with fail
    go_ret2
    exact ⟨rfl, hb1⟩
/-- what is told of a name in a node -/
def spotted (t : Tr) (n : Int) (s : Bytes) : Int := if (nodeAt t.L n).kind ≠ 1 then 7 else check s
theorem spotted_any {F : Nat → Prop} {w : World} {v : Value} {t : Tr} (P : W07.Rep F w v t) (G : Good t) (n : Int) (s : ByteArray) : Calls Tryd.prog 43 #[v, .int .i64 n, .string s] w fun e w' => e = .returned (.int .i64 (spotted t n s.data.toList)) ∧ Below w.heap.size w w' := by
  have HK := Lib.hid (trees.kind P G.small n)
  obtain ⟨sb, rfl⟩ := rep_form P
  have HCH := Lib.hid (fun w' => W03.check_free s w')
  by_cases hk : (nodeAt t.L n).kind = 1
  · have HX : Hid (spotted t n s.data.toList = check s.data.toList) := if_neg (fun h => h hk)
    rw [HX.out]
    have tk : ((nodeAt t.L n).kind != 1) = false := by simp [hk]
    generalize nodeAt t.L n = x at *
    generalize check s.data.toList = ce at *
    clear hk P G HX
    go_enter Tryd.func43, Tryd.ntmps43
    go_wp2_with fail
    refine HK.out.mono ?_
    rintro e w1 ⟨rfl, hb1⟩
    go_wp2_with fail
    refine (HCH.out _).mono ?_
    rintro e w2 ⟨rfl, hb2⟩
    go_wp2_with fail
    go_ret
    exact ⟨rfl, on hb1 hb2⟩
  · have HX : Hid (spotted t n s.data.toList = 7) := if_pos hk
    rw [HX.out]
    have tk : ((nodeAt t.L n).kind != 1) = true := by simpa using hk
    generalize nodeAt t.L n = x at *
    clear hk P G HX
    go_enter Tryd.func43, Tryd.ntmps43
    go_wp2_with fail
    refine HK.out.mono ?_
    rintro e w1 ⟨rfl, hb1⟩
    go_wp2_with fail
    go_ret
    exact ⟨rfl, hb1⟩
theorem spot_asked (t : Tr) (p : Bytes) : spot t p = if asked p ≠ 0 then (0, [], asked p) else if parts p = [] ∨ (parts p).getLastD [] = [46, 46] then (0, [], 6) else
    let g := goTo t 1 (parts p).dropLast true 0
    let e := if g.2.2 ≠ 0 then g.2.2 else if (nodeAt t.L g.1).kind ≠ 1 then 7 else check ((parts p).getLastD [])
    if e ≠ 0 then (0, [], e) else (g.1, (parts p).getLastD [], 0) := by
  unfold spot asked
  by_cases h : p = []
  · rw [if_pos h, if_pos h, if_pos (by decide)]
  · rw [if_neg h, if_neg h]
    by_cases h2 : 1024 < p.length
    · rw [if_pos h2, if_pos h2, if_pos (by decide)]
    · rw [if_neg h2, if_neg h2, if_neg (show ¬ (0 : Int) ≠ 0 by decide)]
set_option maxHeartbeats 8000000 in
theorem seekSpot_any {F : Nat → Prop} {w : World} {v : Value} {t : Tr} (P : W07.Rep F w v t) (G : Good t) (p : ByteArray) (hp : p.size ≤ 1048576) : Calls Tryd.prog 18 #[v, .string p] w fun e w' => e = .returned (.tuple #[.int .i64 (spot t p.data.toList).1, .string ⟨(spot t p.data.toList).2.1.toArray⟩, .int .i64 (spot t p.data.toList).2.2]) ∧ Below w.heap.size w w' := by
  have HP := Lib.hid P
  have HG := Lib.hid G
  obtain ⟨sb, rfl⟩ := rep_form P
  have HC := Lib.hid (asked_any sb p w)
  have HF := Lib.hid (spot_asked t p.data.toList)
  have HPT := Lib.hid (fun w' => W04.parts_makes p (by omega) w')
  generalize spot t p.data.toList = R at *
  by_cases ha : asked p.data.toList = 0
  · have hl : (parts p.data.toList).length ≤ 1025 := by
      have h1 := parts_len p.data.toList
      have h2 : ¬ 1024 < p.data.toList.length := by
        intro h3
        have h4 : p.data.toList ≠ [] := by intro e; rw [e] at h3; simp at h3
        unfold asked at ha
        rw [if_neg h4, if_pos h3] at ha
        cases ha
      omega
    rw [ha] at HC HF
    rw [if_neg (by decide)] at HF
    have HW := Lib.hid (fun (w' : World) (u : Value) (hb : Below w.heap.size w w') (ht : Texts w'.heap.size w' u (parts p.data.toList).dropLast) => walk_any trees (trees.below HP.out hb) HG.out u _ (by rw [List.length_dropLast]; omega) (fun q hq => parts_are _ q ((List.dropLast_sublist _).subset hq)) (fun q hq => Nat.le_trans (parts_each _ q ((List.dropLast_sublist _).subset hq)) (by rw [← Lib.size_eq]; exact hp)) ht true)
    have HSP := Lib.hid (fun (n : Int) (s : ByteArray) (w' : World) (hb : Below w.heap.size w w') => spotted_any (trees.below HP.out hb) HG.out n s)
    generalize parts p.data.toList = PL at *
    clear ha P G
    go_enter Tryd.func18, Tryd.ntmps18
    go_wp2_with fail
    refine HC.out.mono ?_
    rintro e w1 ⟨rfl, hb1⟩
    have B1 := Lib.hid hb1
    clear hb1
    go_wp2_with fail
    refine (HPT.out _).mono ?_
    rintro e w2 ⟨v2, rfl, hown2, hb2⟩
    have B2 := Lib.hid (on B1.out hb2)
    have T2 := Lib.hid (Texts.of_own hown2)
    by_cases h0 : 0 < PL.length
    · obtain ⟨m, hm1⟩ : ∃ m, PL.length = m + 1 := ⟨PL.length - 1, by omega⟩
      rw [hm1] at hown2
      obtain ⟨g, cc, rfl, hc1, hc2, hless⟩ := own_less hown2
      rw [W04.take_drop_map hm1] at hless
      have T : Hid (Texts w2.heap.size w2 (.slice (some ⟨g, 0, none⟩) m cc) PL.dropLast) := by
        have e := drop_len hm1
        exact Texts.of_own (by rw [← e] at hless; rw [← e]; exact hless)
      obtain ⟨ad, q, hA, hbl, hcell, hq⟩ := T2.out.at_ (k := m) (by omega)
      cases hA
      rw [Addr.add_lit, Nat.zero_add] at hcell
      have HQ : Hid (PL.getLastD [] = q.data.toList) := by
        show _ = _
        rw [hq, List.getLastD_eq_getLast?, List.getLast?_eq_getElem?, List.getD_eq_getElem?_getD, hm1, Nat.add_sub_cancel]
      rw [HQ.out] at HF
      have hPn : PL ≠ [] := fun e => by rw [e] at h0; simp at h0
      clear hless hown2 hb2 hq T2
      unfold maxLen at hc2
      have q6 : IntKind.i64.wrap (m : Int) = m := by rw [IntKind.wrap_i64]; omega
      have q1 : (0 : Int) ≤ (m : Int) := by omega
      have q2 : (m : Int) ≤ (cc : Int) := by omega
      by_cases hdd : q.data.toList = [46, 46]
      · have HX : Hid (R = (0, [], 6)) := HF.out.trans (if_pos (Or.inr hdd))
        have ts : (q.toList == [46, 46]) = true := by rw [Lib.toList_data, hdd]; rfl
        clear HF hdd
        go_wp2_with fail
        go_ret3
        exact ⟨ret_spot (b := ⟨#[]⟩) HX.out, B2.out⟩
      · have HX := Lib.hid (HF.out.trans (if_neg (by rintro (e | e); exact hPn e; exact hdd e)))
        have ts : (q.toList == [46, 46]) = false := by rw [Lib.toList_data, beq_eq_false_iff_ne]; exact hdd
        generalize goTo t 1 PL.dropLast true 0 = G at *
        obtain ⟨gn, gh, ge⟩ := G
        have HY : Hid (R = if (if ge ≠ 0 then ge else spotted t gn q.data.toList) ≠ 0 then (0, [], if ge ≠ 0 then ge else spotted t gn q.data.toList) else (gn, q.data.toList, 0)) := HX.out
        clear HX
        have HSP := Lib.hid (HSP.out gn q)
        generalize spotted t gn q.data.toList = ce at *
        clear HF hdd
        go_wp2_with fail
        go_quiet (fail)
        go_wp2_with fail
        refine (HW.out _ _ (on B2.out (below_draws w2 nq)) T.out).mono ?_
        rintro e w3 ⟨rfl, hb3⟩
        have B3 := Lib.hid (on (on B2.out (below_draws w2 nq)) hb3)
        clear hb3
        by_cases hg0 : ge = 0
        · subst hg0
          have HX : Hid (R = if ce ≠ 0 then (0, [], ce) else (gn, q.data.toList, 0)) := HY.out
          by_cases hce : ce = 0
          · have HX : Hid (R = (gn, q.data.toList, 0)) := HX.out.trans (if_neg (show ¬ ce ≠ 0 from fun e => e hce))
            subst hce
            go_wp2_with fail
            refine (HSP.out _ B3.out).mono ?_
            rintro e w5 ⟨rfl, hb5⟩
            have B5 := Lib.hid (on B3.out hb5)
            clear hb5
            go_wp2_with fail
            go_ret3
            exact ⟨ret_spot HX.out, B5.out⟩
          · have HX : Hid (R = (0, [], ce)) := HX.out.trans (if_pos hce)
            have t1 : (ce != 0) = true := by simpa using hce
            go_wp2_with fail
            refine (HSP.out _ B3.out).mono ?_
            rintro e w5 ⟨rfl, hb5⟩
            have B5 := Lib.hid (on B3.out hb5)
            clear hb5
            go_wp2_with fail
            go_ret3
            exact ⟨ret_spot (b := ⟨#[]⟩) HX.out, B5.out⟩
        · have HX : Hid (R = (0, [], ge)) := by have := HY.out; rw [if_pos hg0, if_pos hg0] at this; exact this
          have t1 : (ge != 0) = true := by simpa using hg0
          have t2 : (ge == 0) = false := by simpa using hg0
          clear hg0
          go_wp2_with fail
          go_ret3
          exact ⟨ret_spot (b := ⟨#[]⟩) HX.out, B3.out⟩
    · have e0 : PL = [] := W04.flat_none h0
      subst e0
      have HX : Hid (R = (0, [], 6)) := HF.out.trans (if_pos (Or.inl rfl))
      obtain ⟨A, cc, rfl, -, -⟩ := T2.out.form
      clear hown2 hb2 h0 HF T2
      go_wp2_with fail
      go_ret3
      exact ⟨ret_spot (b := ⟨#[]⟩) HX.out, B2.out⟩
  · have HX : Hid (R = (0, [], asked p.data.toList)) := by have := HF.out; rw [if_pos ha] at this; exact this
    have ta : (asked p.data.toList != 0) = true := by simpa using ha
    generalize asked p.data.toList = q at *
    clear ha HF P G
    go_enter Tryd.func18, Tryd.ntmps18
    go_wp2_with fail
    refine HC.out.mono ?_
    rintro e w1 ⟨rfl, hb1⟩
    go_wp2_with fail
    go_ret3
    exact ⟨ret_spot (b := ⟨#[]⟩) HX.out, hb1⟩
end Go.Proofs.YtdnedeeocpaolaaDoor.W08
/-
  Layer 8 (seek): the code keeps the contracts that the laws ask. Conditions: none but those that each theorem bears.
-/
namespace Go.Proofs.YtdnedeeocpaolaaDoor.W08
set_option maxRecDepth 100000
open Go Go.RowKit Go.Proofs.YtdnedeeocpaolaaDoor.Strs
open Go.Proofs.YtdnedeeocpaolaaDoor.M07 (Tr)
open Go.Proofs.YtdnedeeocpaolaaDoor.Kit (on)

theorem seeks : Seeks W07.Rep where
  find := fun P G p last hp => seekFind_any P G p last hp
  spot := fun P G p hp => seekSpot_any P G p hp
theorem asked_nil (p : ByteArray) (w : World) : Calls Tryd.prog 40 #[.pointer none, .string p] w fun e w' => e = .returned (.int .i64 1) ∧ Below w.heap.size w w' := by
  go_enter Tryd.func40, Tryd.ntmps40
  go_wp2_with fail
  go_ret
  exact ⟨rfl, Below.refl _ _⟩
theorem find_nil (w : World) (p : ByteArray) (last : Bool) : Calls Tryd.prog 39 #[.pointer none, .string p, .bool last] w fun e w' => e = .returned (.tuple #[.int .i64 0, .int .i64 1]) ∧ Below w.heap.size w w' := by
  have HC := Lib.hid (asked_nil p w)
  go_enter Tryd.func39, Tryd.ntmps39
  go_wp2_with fail
  refine HC.out.mono ?_
  rintro e w1 ⟨rfl, hb⟩
  go_wp2_with fail
  go_ret2
  exact ⟨rfl, hb⟩
theorem spot_nil (w : World) (p : ByteArray) : Calls Tryd.prog 18 #[.pointer none, .string p] w fun e w' => e = .returned (.tuple #[.int .i64 0, .string ⟨#[]⟩, .int .i64 1]) ∧ Below w.heap.size w w' := by
  have HC := Lib.hid (asked_nil p w)
  go_enter Tryd.func18, Tryd.ntmps18
  go_wp2_with fail
  refine HC.out.mono ?_
  rintro e w1 ⟨rfl, hb⟩
  go_wp2_with fail
  go_ret3
  exact ⟨rfl, hb⟩
theorem noSeek : NoSeek where
  find := find_nil
  spot := spot_nil
end Go.Proofs.YtdnedeeocpaolaaDoor.W08
/-
  Layer 9 (posix): the landed code keeps the contracts that the laws ask ('Posix', 'NoPosix'). Conditions: none but those that each theorem bears.
-/
namespace Go.Proofs.YtdnedeeocpaolaaDoor.W09
set_option maxRecDepth 100000
open Go Go.RowKit Go.Proofs.YtdnedeeocpaolaaDoor.Strs Go.Proofs.YtdnedeeocpaolaaDoor.Recs Go.Proofs.YtdnedeeocpaolaaDoor.Range
open Go.Proofs.YtdnedeeocpaolaaDoor.M07 (Tr Nd nodeAt inDir Right listDir)
open Go.Proofs.YtdnedeeocpaolaaDoor.M08 Go.Proofs.YtdnedeeocpaolaaDoor.M09
open Go.Proofs.YtdnedeeocpaolaaDoor.W07 (Small Trees Wrote listed heap_top)
open Go.Proofs.YtdnedeeocpaolaaDoor.W08 (Seeks NoSeek)
open Go.Proofs.YtdnedeeocpaolaaDoor.Kit (ret_str ret_bool ret_int mk_of mk_bytes ba_ext below_draws on)

theorem rep_form {F : Nat → Prop} {w : World} {v : Value} {t : Tr} (P : W07.Rep F w v t) : ∃ a, v = .pointer a := by
  obtain ⟨-, sb, mb, lv, rfl, -⟩ := P
  exact ⟨_, rfl⟩
theorem posix : Posix W07.Rep where
  lstat := fun P G p hp => by obtain ⟨a, rfl⟩ := rep_form P; exact lstat_over W07.trees W08.seeks P G p hp
  stat := fun P G p hp => by obtain ⟨a, rfl⟩ := rep_form P; exact stat_over W07.trees W08.seeks P G p hp
  readlink := fun P G p hp => by obtain ⟨a, rfl⟩ := rep_form P; exact readlink_over W07.trees W08.seeks P G p hp
  list := fun P G p hp => by obtain ⟨a, rfl⟩ := rep_form P; exact list_over W07.trees W08.seeks P G p hp
  read := fun P G p hp => by obtain ⟨a, rfl⟩ := rep_form P; exact read_over W07.trees W08.seeks P G p hp
  same := fun P G p q hp hq => same_over W07.trees W08.seeks P G p q hp hq
  rename := fun P G a b ha hb => rename_over W07.trees W08.seeks P G a b ha hb
  write := fun P G p x hp hx => write_over W07.trees W08.seeks P G p x hp hx

/-! the calls of a nil pointer -/
theorem stat_nil (N : NoSeek) (w : World) (p : ByteArray) (last : Bool) : Calls Tryd.prog 28 #[.pointer none, .string p, .bool last] w (Tells (.tuple #[statV (0, 0, 0), .int .i64 1]) w) := by
  obtain ⟨w1, hw1⟩ : ∃ w1 : World, (w.alloc (.cells #[.pointer none] 25)).alloc (.cells #[.int .i64 0, .int .i64 0, .int .i64 0] 32) = w1 := ⟨_, rfl⟩
  have B1 : Hid (Below w.heap.size w w1) := by show Below _ _ _; rw [← hw1]; exact W07.below_two _ _ _
  have CB : Hid (Caught w1 w.heap.size (.pointer none)) := by show Caught _ _ _; rw [← hw1]; exact (Caught.new _ _ _).below (W07.below_one _ _)
  have SB : Hid (StatBox w1 (w.heap.size + 1) 0 0 0) := by show StatBox _ _ _ _ _; rw [← hw1]; exact W07.heap_two_b _ _ _
  have c0 := CB.out.1
  have HA := Lib.hid (fun fv => ask_no_stat (v := .pointer none) (fv := fv) (p := p) (last := last) (w := w1) (fun w' _ => N.find w' p last) (show (1 : Int) ≠ 0 by decide))
  unfold Sta statV at HA
  unfold Tells statV
  clear CB
  go_enter Tryd.func28, Tryd.ntmps28
  go_wp2_with fail
  clear hw1
  refine (HA.out _).mono ?_
  rintro e w2 ⟨rfl, hb2⟩
  clear c0
  have SB2 := SB.out.below hb2
  have B2 := Lib.hid (on B1.out hb2)
  have s0 := SB2.c0
  have s1 := SB2.c1
  have s2 := SB2.c2
  have f0 := SB2.fr 0
  have f1 := SB2.fr 1
  have f2 := SB2.fr 2
  clear hb2 SB SB2 HA
  go_wp2_with fail
  refine bodyPost_ret_by (v := .tuple #[.agg #[.int .i64 0, .int .i64 0, .int .i64 0], .int .i64 1]) ?_ rfl ?_
  · rw [results_cell_tmp rfl]
    go_simp
  · exact ⟨rfl, stored3 _ _ _ B2.out (by omega)⟩
theorem lstat_nil (N : NoSeek) (w : World) (p : ByteArray) : Calls Tryd.prog 8 #[.pointer none, .string p] w (Tells (.tuple #[statV (0, 0, 0), .int .i64 1]) w) := by
  obtain ⟨w1, hw1⟩ : ∃ w1 : World, w.alloc (.cells #[.int .i64 0, .int .i64 0, .int .i64 0] 32) = w1 := ⟨_, rfl⟩
  have B1 : Hid (Below w.heap.size w w1) := by show Below _ _ _; rw [← hw1]; exact W07.below_one _ _
  have SB : Hid (StatBox w1 w.heap.size 0 0 0) := by show StatBox _ _ _ _ _; rw [← hw1]; exact heap_top _ _
  have HA := Lib.hid (stat_nil N w1 p false)
  unfold Tells statV at HA ⊢
  go_enter Tryd.func8, Tryd.ntmps8
  go_wp2_with fail
  clear hw1
  refine HA.out.mono ?_
  rintro e w2 ⟨rfl, hb2⟩
  have SB2 := SB.out.below hb2
  have B2 := Lib.hid (on B1.out hb2)
  have s0 := SB2.c0
  have s1 := SB2.c1
  have s2 := SB2.c2
  have f0 := SB2.fr 0
  have f1 := SB2.fr 1
  have f2 := SB2.fr 2
  clear hb2 SB SB2 HA
  go_wp2_with fail
  refine bodyPost_ret_by (v := .tuple #[.agg #[.int .i64 0, .int .i64 0, .int .i64 0], .int .i64 1]) ?_ rfl ?_
  · rw [results_cell_tmp rfl]
    go_simp
  · exact ⟨rfl, stored3 _ _ _ B2.out (by omega)⟩
theorem readlink_nil (N : NoSeek) (w : World) (p : ByteArray) : Calls Tryd.prog 11 #[.pointer none, .string p] w (Tells (.tuple #[.string ⟨#[]⟩, .int .i64 1]) w) := by
  obtain ⟨w1, hw1⟩ : ∃ w1 : World, w.alloc (.cells #[.pointer none] 25) = w1 := ⟨_, rfl⟩
  have B1 : Hid (Below w.heap.size w w1) := by show Below _ _ _; rw [← hw1]; exact W07.below_one _ _
  have CB : Hid (Caught w1 w.heap.size (.pointer none)) := by show Caught _ _ _; rw [← hw1]; exact Caught.new _ _ _
  have c0 := CB.out.1
  have HA := Lib.hid (fun fv => ask_no_string (v := .pointer none) (fv := fv) (p := p) (last := false) (w := w1) (fun w' _ => N.find w' p false) (show (1 : Int) ≠ 0 by decide))
  unfold Txt at HA
  clear CB
  go_enter Tryd.func11, Tryd.ntmps11
  go_wp2_with fail
  clear hw1
  refine (HA.out _).mono ?_
  rintro e w2 ⟨rfl, hb2⟩
  go_wp2_with fail
  go_ret2
  exact ⟨rfl, on B1.out hb2⟩
theorem read_nil (N : NoSeek) (w : World) (p : ByteArray) : Calls Tryd.prog 13 #[.pointer none, .string p] w (Tells (.tuple #[.string ⟨#[]⟩, .int .i64 1]) w) := by
  obtain ⟨w1, hw1⟩ : ∃ w1 : World, w.alloc (.cells #[.pointer none] 25) = w1 := ⟨_, rfl⟩
  have B1 : Hid (Below w.heap.size w w1) := by show Below _ _ _; rw [← hw1]; exact W07.below_one _ _
  have CB : Hid (Caught w1 w.heap.size (.pointer none)) := by show Caught _ _ _; rw [← hw1]; exact Caught.new _ _ _
  have c0 := CB.out.1
  have HA := Lib.hid (fun fv => ask_no_string (v := .pointer none) (fv := fv) (p := p) (last := true) (w := w1) (fun w' _ => N.find w' p true) (show (1 : Int) ≠ 0 by decide))
  unfold Txt at HA
  clear CB
  go_enter Tryd.func13, Tryd.ntmps13
  go_wp2_with fail
  clear hw1
  refine (HA.out _).mono ?_
  rintro e w2 ⟨rfl, hb2⟩
  go_wp2_with fail
  go_ret2
  exact ⟨rfl, on B1.out hb2⟩
theorem list_nil (N : NoSeek) (w : World) (p : ByteArray) : Calls Tryd.prog 14 #[.pointer none, .string p] w (HandsT w ([], 1)) := by
  obtain ⟨w1, hw1⟩ : ∃ w1 : World, w.alloc (.cells #[.pointer none] 25) = w1 := ⟨_, rfl⟩
  have B1 : Hid (Below w.heap.size w w1) := by show Below _ _ _; rw [← hw1]; exact W07.below_one _ _
  have CB : Hid (Caught w1 w.heap.size (.pointer none)) := by show Caught _ _ _; rw [← hw1]; exact Caught.new _ _ _
  have c0 := CB.out.1
  have HA := Lib.hid (fun fv => ask_no_list (v := .pointer none) (fv := fv) (p := p) (last := true) (w := w1) (fun w' _ => N.find w' p true) (show (1 : Int) ≠ 0 by decide))
  unfold Lst at HA
  clear CB
  go_enter Tryd.func14, Tryd.ntmps14
  go_wp2_with fail
  clear hw1
  refine (HA.out _).mono ?_
  rintro e w2 ⟨u, rfl, hu, hb2⟩
  go_wp2_with fail
  go_ret2
  exact ⟨u, rfl, hu, on B1.out hb2⟩
theorem same_nil (N : NoSeek) (w : World) (p q : ByteArray) : Calls Tryd.prog 17 #[.pointer none, .string p, .string q] w (Tells (.bool false) w) := by
  have HA := Lib.hid (N.find w p true)
  unfold Tells
  go_enter Tryd.func17, Tryd.ntmps17
  go_wp2_with fail
  refine HA.out.mono ?_
  rintro e w1 ⟨rfl, hb1⟩
  go_wp2_with fail
  go_ret
  exact ⟨rfl, hb1⟩
theorem rename_nil (N : NoSeek) (w : World) (a b : ByteArray) : Calls Tryd.prog 19 #[.pointer none, .string a, .string b] w (Tells (.int .i64 1) w) := by
  have HA := Lib.hid (N.spot w a)
  unfold Tells
  go_enter Tryd.func19, Tryd.ntmps19
  go_wp2_with fail
  refine HA.out.mono ?_
  rintro e w1 ⟨rfl, hb1⟩
  go_wp2_with fail
  go_ret
  exact ⟨rfl, hb1⟩
theorem write_nil (N : NoSeek) (w : World) (p x : ByteArray) : Calls Tryd.prog 23 #[.pointer none, .string p, .string x] w (Tells (.int .i64 1) w) := by
  have HA := Lib.hid (N.find w p true)
  unfold Tells
  go_enter Tryd.func23, Tryd.ntmps23
  go_wp2_with fail
  refine HA.out.mono ?_
  rintro e w1 ⟨rfl, hb1⟩
  go_wp2_with fail
  go_ret
  exact ⟨rfl, hb1⟩
theorem noPosix : NoPosix where
  lstat := fun w p => lstat_nil W08.noSeek w p
  readlink := fun w p => readlink_nil W08.noSeek w p
  list := fun w p => list_nil W08.noSeek w p
  read := fun w p => read_nil W08.noSeek w p
  same := fun w p q => same_nil W08.noSeek w p q
  rename := fun w a b => rename_nil W08.noSeek w a b
  write := fun w p x => write_nil W08.noSeek w p x
end Go.Proofs.YtdnedeeocpaolaaDoor.W09
/-
  Layer 9 (posix): the landed code keeps the contracts that the laws ask ('Posix', 'NoPosix': XW09Code); so the laws hold. Conditions: none but those that each theorem bears.
-/
namespace Go.Proofs.YtdnedeeocpaolaaDoor.W09
open Go Go.RowKit Go.Proofs.YtdnedeeocpaolaaDoor.Strs Go.Proofs.YtdnedeeocpaolaaDoor.Recs
open Go.Proofs.YtdnedeeocpaolaaDoor.W07 (trees)
open Go.Proofs.YtdnedeeocpaolaaDoor.W08 (Sn Snodes)

theorem posixAsks_law (w : World) (v : Value) (L : List Sn) (h : Snodes w.heap.size w v L) (p : ByteArray) (_ : p.size ≤ 140737488351232) (q : ByteArray) (_ : q.size ≤ 140737488351232) :
    Calls Tryd.prog 3 #[v, .string p, .string q] w fun e w' => e = .returned (.bool true) ∧ Below w.heap.size w w' := posixAsks_over trees posix w v L h p q
theorem posixMoves_law (w : World) (v : Value) (L : List Sn) (h : Snodes w.heap.size w v L) (p : ByteArray) (_ : p.size ≤ 140737488351232) (q : ByteArray) (_ : q.size ≤ 140737488351232) :
    Calls Tryd.prog 4 #[v, .string p, .string q] w fun e w' => e = .returned (.bool true) ∧ Below w.heap.size w w' := posixMoves_over trees W08.seeks posix w v L h p q
end Go.Proofs.YtdnedeeocpaolaaDoor.W09
