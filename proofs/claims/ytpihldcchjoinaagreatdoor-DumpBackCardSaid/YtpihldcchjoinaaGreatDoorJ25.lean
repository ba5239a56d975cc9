/-
  Texts joined, in build order, each with its own comment and its own conditions: W08Asks2, W08Code, W09Told, W09Ways, W09Cuts, W09Code, W12Inst, W12LawN.
-/
import Derived.Test.YtpihldcchjoinaaGreatDoorJ22
import Derived.Test.YtpihldcchjoinaaGreatDoorJ24
import Derived.Test.YtpihldcchjoinaaGreatDoorJ13
import Derived.BigQuiet
import Derived.Test.YtpihldcchjoinaaGreatDoorJ14
import Derived.Test.YtpihldcchjoinaaGreatDoorJ10
import Derived.Test.YtpihldcchjoinaaGreatDoorJ16
import Derived.Test.YtpihldcchjoinaaGreatDoorJ21
/-
  Layer 8 (seek): Find and Spot; nothing that was there is changed. The conditions stand in the statements.
-/
namespace Go.Proofs.YtpihldcchjoinaaGreatDoor.W08
set_option maxRecDepth 100000
open Go Go.RowKit Go.Proofs.YtpihldcchjoinaaGreatDoor.Strs Go.Proofs.YtpihldcchjoinaaGreatDoor.Recs Go.Proofs.YtpihldcchjoinaaGreatDoor.Range
open Go.Proofs.YtpihldcchjoinaaGreatDoor.M07 (Tr Nd nodeAt inDir Right)
open Go.Proofs.YtpihldcchjoinaaGreatDoor.M08 Go.Proofs.YtpihldcchjoinaaGreatDoor.M04
open Go.Proofs.YtpihldcchjoinaaGreatDoor.M03 (check)
open Go.Proofs.YtpihldcchjoinaaGreatDoor.W07 (Small Trees trees)
open Go.Proofs.YtpihldcchjoinaaGreatDoor.Kit (ret_str ret_bool ret_int mk_of mk_bytes ba_ext below_draws on list_full list_ne list_none list_nil bytes_nil bytes_ne)

/-- what is told of a path ahead of its parts -/
def asked (p : Bytes) : Int := if p = [] then 5 else if 1024 < p.length then 11 else 0
theorem asked_any (sb : Nat) (p : ByteArray) (w : World) : Calls Tryz.prog 58 #[.pointer (some ⟨sb, 0, none⟩), .string p] w fun e w' => e = .returned (.int .i64 (asked p.data.toList)) ∧ Below w.heap.size w w' := by
  by_cases h0 : 0 < p.size
  · have e1 := list_full h0
    have e2 := list_ne h0
    by_cases h1 : p.size ≤ 1024
    · have HX : Hid (asked p.data.toList = 0) := by show _ = _; unfold asked; rw [if_neg (bytes_ne h0), if_neg (by rw [← Lib.size_eq]; omega)]
      rw [HX.out]
      go_enter Tryz.func58, Tryz.ntmps58
      go_wp2_with fail
      go_ret
      exact ⟨rfl, Below.refl _ _⟩
    · have HX : Hid (asked p.data.toList = 11) := by show _ = _; unfold asked; rw [if_neg (bytes_ne h0), if_pos (by rw [← Lib.size_eq]; omega)]
      rw [HX.out]
      have tl : (1024 : Int) < p.size := by omega
      go_enter Tryz.func58, Tryz.ntmps58
      go_wp2_with fail
      go_ret
      exact ⟨rfl, Below.refl _ _⟩
  · have e1 := list_none h0
    have e2 := list_nil h0
    have HX : Hid (asked p.data.toList = 5) := by show _ = _; unfold asked; rw [if_pos (bytes_nil h0)]
    rw [HX.out]
    go_enter Tryz.func58, Tryz.ntmps58
    go_wp2_with fail
    go_ret
    exact ⟨rfl, Below.refl _ _⟩
theorem find_asked (t : Tr) (p : Bytes) (last : Bool) : M08.find t p last = if asked p ≠ 0 then (0, asked p) else ((goTo t 1 (parts p) last 0).1, (goTo t 1 (parts p) last 0).2.2) := by
  unfold M08.find asked
  by_cases h : p = []
  · rw [if_pos h, if_pos h, if_pos (by decide)]
  · rw [if_neg h, if_neg h]
    by_cases h2 : 1024 < p.length
    · rw [if_pos h2, if_pos h2, if_pos (by decide)]
    · rw [if_neg h2, if_neg h2, if_neg (by decide)]
set_option maxHeartbeats 2000000 in
theorem seekFind_any {F : Nat → Prop} {w : World} {v : Value} {t : Tr} (P : W07.Rep F w v t) (G : Good t) (p : ByteArray) (last : Bool) (hp : p.size ≤ 1048576) : Calls Tryz.prog 28 #[v, .string p, .bool last] w fun e w' => e = .returned (.tuple #[.int .i64 (M08.find t p.data.toList last).1, .int .i64 (M08.find t p.data.toList last).2]) ∧ Below w.heap.size w w' := by
  have HP := Lib.hid P
  have HG := Lib.hid G
  obtain ⟨sb, rfl⟩ := rep_form P
  have HC := Lib.hid (asked_any sb p w)
  have HX := Lib.hid (find_asked t p.data.toList last)
  rw [HX.out]
  have HPT := Lib.hid (fun w' => W04.parts_any p (by omega) w')
  by_cases ha : asked p.data.toList = 0
  · have hl : (parts p.data.toList).length ≤ 70000 := by
      have h1 := parts_len p.data.toList
      have h2 : ¬ 1024 < p.data.toList.length := by
        intro h3
        have h4 : p.data.toList ≠ [] := by intro e; rw [e] at h3; simp at h3
        unfold asked at ha
        rw [if_neg h4, if_pos h3] at ha
        cases ha
      omega
    rw [ha] at HC ⊢
    rw [if_neg (by decide)]
    have HW := Lib.hid (fun (w' : World) (u : Value) (hb : Below w.heap.size w w') (ht : Texts w'.heap.size w' u (parts p.data.toList)) => walk_any trees (trees.below HP.out hb) HG.out u _ hl (parts_are _) (fun q hq => Nat.le_trans (parts_each _ q hq) (by rw [← Lib.size_eq]; exact hp)) ht last)
    generalize goTo t 1 (parts p.data.toList) last 0 = R at *
    generalize parts p.data.toList = PL at *
    clear ha HX P G
    go_enter Tryz.func28, Tryz.ntmps28
    go_wp2_with fail
    refine HC.out.mono ?_
    rintro e w1 ⟨rfl, hb1⟩
    go_wp2_with fail
    refine (HPT.out _).mono ?_
    rintro e w2 ⟨u2, rfl, ht2, hb2⟩
    have B2 := Lib.hid (on hb1 hb2)
    go_wp2_with fail
    refine (HW.out _ u2 B2.out ht2).mono ?_
    rintro e w3 ⟨rfl, hb3⟩
    go_wp2_with fail
    go_ret2
    exact ⟨rfl, on B2.out hb3⟩
  · rw [if_pos ha]
    have ta : (asked p.data.toList != 0) = true := by simpa using ha
    generalize asked p.data.toList = R at *
    clear ha HX P G
    go_enter Tryz.func28, Tryz.ntmps28
    go_wp2_with fail
    refine HC.out.mono ?_
    rintro e w1 ⟨rfl, hb1⟩
    go_wp2_with fail
    go_ret2
    exact ⟨rfl, hb1⟩
/-- what is told of a name in a node -/
def spotted (t : Tr) (n : Int) (s : Bytes) : Int := if (nodeAt t.L n).kind ≠ 1 then 7 else check s
theorem spotted_any {F : Nat → Prop} {w : World} {v : Value} {t : Tr} (P : W07.Rep F w v t) (G : Good t) (n : Int) (s : ByteArray) : Calls Tryz.prog 137 #[v, .int .i64 n, .string s] w fun e w' => e = .returned (.int .i64 (spotted t n s.data.toList)) ∧ Below w.heap.size w w' := by
  have HK := Lib.hid (trees.kind P G.small n)
  obtain ⟨sb, rfl⟩ := rep_form P
  have HCH := Lib.hid (fun w' => W03.check_free s w')
  by_cases hk : (nodeAt t.L n).kind = 1
  · have HX : Hid (spotted t n s.data.toList = check s.data.toList) := if_neg (fun h => h hk)
    rw [HX.out]
    have tk : ((nodeAt t.L n).kind != 1) = false := by simp [hk]
    generalize nodeAt t.L n = x at *
    generalize check s.data.toList = ce at *
    clear hk P G HX
    go_enter Tryz.func137, Tryz.ntmps137
    go_wp2_with fail
    refine HK.out.mono ?_
    rintro e w1 ⟨rfl, hb1⟩
    go_wp2_with fail
    refine (HCH.out _).mono ?_
    rintro e w2 ⟨rfl, hb2⟩
    go_wp2_with fail
    go_ret
    exact ⟨rfl, on hb1 hb2⟩
  · have HX : Hid (spotted t n s.data.toList = 7) := if_pos hk
    rw [HX.out]
    have tk : ((nodeAt t.L n).kind != 1) = true := by simpa using hk
    generalize nodeAt t.L n = x at *
    clear hk P G HX
    go_enter Tryz.func137, Tryz.ntmps137
    go_wp2_with fail
    refine HK.out.mono ?_
    rintro e w1 ⟨rfl, hb1⟩
    go_wp2_with fail
    go_ret
    exact ⟨rfl, hb1⟩
theorem spot_asked (t : Tr) (p : Bytes) : spot t p = if asked p ≠ 0 then (0, [], asked p) else if parts p = [] ∨ (parts p).getLastD [] = [46, 46] then (0, [], 6) else
    let g := goTo t 1 (parts p).dropLast true 0
    let e := if g.2.2 ≠ 0 then g.2.2 else if (nodeAt t.L g.1).kind ≠ 1 then 7 else check ((parts p).getLastD [])
    if e ≠ 0 then (0, [], e) else (g.1, (parts p).getLastD [], 0) := by
  unfold spot asked
  by_cases h : p = []
  · rw [if_pos h, if_pos h, if_pos (by decide)]
  · rw [if_neg h, if_neg h]
    by_cases h2 : 1024 < p.length
    · rw [if_pos h2, if_pos h2, if_pos (by decide)]
    · rw [if_neg h2, if_neg h2, if_neg (show ¬ (0 : Int) ≠ 0 by decide)]
set_option maxHeartbeats 8000000 in
theorem seekSpot_any {F : Nat → Prop} {w : World} {v : Value} {t : Tr} (P : W07.Rep F w v t) (G : Good t) (p : ByteArray) (hp : p.size ≤ 1048576) : Calls Tryz.prog 123 #[v, .string p] w fun e w' => e = .returned (.tuple #[.int .i64 (spot t p.data.toList).1, .string ⟨(spot t p.data.toList).2.1.toArray⟩, .int .i64 (spot t p.data.toList).2.2]) ∧ Below w.heap.size w w' := by
  have HP := Lib.hid P
  have HG := Lib.hid G
  obtain ⟨sb, rfl⟩ := rep_form P
  have HC := Lib.hid (asked_any sb p w)
  have HF := Lib.hid (spot_asked t p.data.toList)
  have HPT := Lib.hid (fun w' => W04.parts_makes p (by omega) w')
  generalize spot t p.data.toList = R at *
  by_cases ha : asked p.data.toList = 0
  · have hl : (parts p.data.toList).length ≤ 1025 := by
      have h1 := parts_len p.data.toList
      have h2 : ¬ 1024 < p.data.toList.length := by
        intro h3
        have h4 : p.data.toList ≠ [] := by intro e; rw [e] at h3; simp at h3
        unfold asked at ha
        rw [if_neg h4, if_pos h3] at ha
        cases ha
      omega
    rw [ha] at HC HF
    rw [if_neg (by decide)] at HF
    have HW := Lib.hid (fun (w' : World) (u : Value) (hb : Below w.heap.size w w') (ht : Texts w'.heap.size w' u (parts p.data.toList).dropLast) => walk_any trees (trees.below HP.out hb) HG.out u _ (by rw [List.length_dropLast]; omega) (fun q hq => parts_are _ q ((List.dropLast_sublist _).subset hq)) (fun q hq => Nat.le_trans (parts_each _ q ((List.dropLast_sublist _).subset hq)) (by rw [← Lib.size_eq]; exact hp)) ht true)
    have HSP := Lib.hid (fun (n : Int) (s : ByteArray) (w' : World) (hb : Below w.heap.size w w') => spotted_any (trees.below HP.out hb) HG.out n s)
    generalize parts p.data.toList = PL at *
    clear ha P G
    go_enter Tryz.func123, Tryz.ntmps123
    go_wp2_with fail
    refine HC.out.mono ?_
    rintro e w1 ⟨rfl, hb1⟩
    have B1 := Lib.hid hb1
    clear hb1
    go_wp2_with fail
    refine (HPT.out _).mono ?_
    rintro e w2 ⟨v2, rfl, hown2, hb2⟩
    have B2 := Lib.hid (on B1.out hb2)
    have T2 := Lib.hid (Texts.of_own hown2)
    by_cases h0 : 0 < PL.length
    · obtain ⟨m, hm1⟩ : ∃ m, PL.length = m + 1 := ⟨PL.length - 1, by omega⟩
      rw [hm1] at hown2
      obtain ⟨g, cc, rfl, hc1, hc2, hless⟩ := own_less hown2
      rw [W04.take_drop_map hm1] at hless
      have T : Hid (Texts w2.heap.size w2 (.slice (some ⟨g, 0, none⟩) m cc) PL.dropLast) := by
        have e := drop_len hm1
        exact Texts.of_own (by rw [← e] at hless; rw [← e]; exact hless)
      obtain ⟨ad, q, hA, hbl, hcell, hq⟩ := T2.out.at_ (k := m) (by omega)
      cases hA
      rw [Addr.add_lit, Nat.zero_add] at hcell
      have HQ : Hid (PL.getLastD [] = q.data.toList) := by
        show _ = _
        rw [hq, List.getLastD_eq_getLast?, List.getLast?_eq_getElem?, List.getD_eq_getElem?_getD, hm1, Nat.add_sub_cancel]
      rw [HQ.out] at HF
      have hPn : PL ≠ [] := fun e => by rw [e] at h0; simp at h0
      clear hless hown2 hb2 hq T2
      unfold maxLen at hc2
      have q6 : IntKind.i64.wrap (m : Int) = m := by rw [IntKind.wrap_i64]; omega
      have q1 : (0 : Int) ≤ (m : Int) := by omega
      have q2 : (m : Int) ≤ (cc : Int) := by omega
      by_cases hdd : q.data.toList = [46, 46]
      · have HX : Hid (R = (0, [], 6)) := HF.out.trans (if_pos (Or.inr hdd))
        have ts : (q.toList == [46, 46]) = true := by rw [Lib.toList_data, hdd]; rfl
        clear HF hdd
        go_wp2_with fail
        go_ret3
        exact ⟨ret_spot (b := ⟨#[]⟩) HX.out, B2.out⟩
      · have HX := Lib.hid (HF.out.trans (if_neg (by rintro (e | e); exact hPn e; exact hdd e)))
        have ts : (q.toList == [46, 46]) = false := by rw [Lib.toList_data, beq_eq_false_iff_ne]; exact hdd
        generalize goTo t 1 PL.dropLast true 0 = G at *
        obtain ⟨gn, gh, ge⟩ := G
        have HY : Hid (R = if (if ge ≠ 0 then ge else spotted t gn q.data.toList) ≠ 0 then (0, [], if ge ≠ 0 then ge else spotted t gn q.data.toList) else (gn, q.data.toList, 0)) := HX.out
        clear HX
        have HSP := Lib.hid (HSP.out gn q)
        generalize spotted t gn q.data.toList = ce at *
        clear HF hdd
        go_wp2_with fail
        go_quiet (fail)
        go_wp2_with fail
        refine (HW.out _ _ (on B2.out (below_draws w2 nq)) T.out).mono ?_
        rintro e w3 ⟨rfl, hb3⟩
        have B3 := Lib.hid (on (on B2.out (below_draws w2 nq)) hb3)
        clear hb3
        by_cases hg0 : ge = 0
        · subst hg0
          have HX : Hid (R = if ce ≠ 0 then (0, [], ce) else (gn, q.data.toList, 0)) := HY.out
          by_cases hce : ce = 0
          · have HX : Hid (R = (gn, q.data.toList, 0)) := HX.out.trans (if_neg (show ¬ ce ≠ 0 from fun e => e hce))
            subst hce
            go_wp2_with fail
            refine (HSP.out _ B3.out).mono ?_
            rintro e w5 ⟨rfl, hb5⟩
            have B5 := Lib.hid (on B3.out hb5)
            clear hb5
            go_wp2_with fail
            go_ret3
            exact ⟨ret_spot HX.out, B5.out⟩
          · have HX : Hid (R = (0, [], ce)) := HX.out.trans (if_pos hce)
            have t1 : (ce != 0) = true := by simpa using hce
            go_wp2_with fail
            refine (HSP.out _ B3.out).mono ?_
            rintro e w5 ⟨rfl, hb5⟩
            have B5 := Lib.hid (on B3.out hb5)
            clear hb5
            go_wp2_with fail
            go_ret3
            exact ⟨ret_spot (b := ⟨#[]⟩) HX.out, B5.out⟩
        · have HX : Hid (R = (0, [], ge)) := by have := HY.out; rw [if_pos hg0, if_pos hg0] at this; exact this
          have t1 : (ge != 0) = true := by simpa using hg0
          have t2 : (ge == 0) = false := by simpa using hg0
          clear hg0
          go_wp2_with fail
          go_ret3
          exact ⟨ret_spot (b := ⟨#[]⟩) HX.out, B3.out⟩
    · have e0 : PL = [] := W04.flat_none h0
      subst e0
      have HX : Hid (R = (0, [], 6)) := HF.out.trans (if_pos (Or.inl rfl))
      obtain ⟨A, cc, rfl, -, -⟩ := T2.out.form
      clear hown2 hb2 h0 HF T2
      go_wp2_with fail
      go_ret3
      exact ⟨ret_spot (b := ⟨#[]⟩) HX.out, B2.out⟩
  · have HX : Hid (R = (0, [], asked p.data.toList)) := by have := HF.out; rw [if_pos ha] at this; exact this
    have ta : (asked p.data.toList != 0) = true := by simpa using ha
    generalize asked p.data.toList = q at *
    clear ha HF P G
    go_enter Tryz.func123, Tryz.ntmps123
    go_wp2_with fail
    refine HC.out.mono ?_
    rintro e w1 ⟨rfl, hb1⟩
    go_wp2_with fail
    go_ret3
    exact ⟨ret_spot (b := ⟨#[]⟩) HX.out, hb1⟩
end Go.Proofs.YtpihldcchjoinaaGreatDoor.W08
/-
  Layer 8 (seek): the code keeps the contracts that the laws ask. Conditions: none but those that each theorem bears.
-/
namespace Go.Proofs.YtpihldcchjoinaaGreatDoor.W08
set_option maxRecDepth 100000
open Go Go.RowKit Go.Proofs.YtpihldcchjoinaaGreatDoor.Strs
open Go.Proofs.YtpihldcchjoinaaGreatDoor.M07 (Tr)
open Go.Proofs.YtpihldcchjoinaaGreatDoor.Kit (on)

theorem seeks : Seeks W07.Rep where
  find := fun P G p last hp => seekFind_any P G p last hp
  spot := fun P G p hp => seekSpot_any P G p hp
  real := fun P G n => real_any P G n
theorem asked_nil (p : ByteArray) (w : World) : Calls Tryz.prog 58 #[.pointer none, .string p] w fun e w' => e = .returned (.int .i64 1) ∧ Below w.heap.size w w' := by
  go_enter Tryz.func58, Tryz.ntmps58
  go_wp2_with fail
  go_ret
  exact ⟨rfl, Below.refl _ _⟩
theorem find_nil (w : World) (p : ByteArray) (last : Bool) : Calls Tryz.prog 28 #[.pointer none, .string p, .bool last] w fun e w' => e = .returned (.tuple #[.int .i64 0, .int .i64 1]) ∧ Below w.heap.size w w' := by
  have HC := Lib.hid (asked_nil p w)
  go_enter Tryz.func28, Tryz.ntmps28
  go_wp2_with fail
  refine HC.out.mono ?_
  rintro e w1 ⟨rfl, hb⟩
  go_wp2_with fail
  go_ret2
  exact ⟨rfl, hb⟩
theorem spot_nil (w : World) (p : ByteArray) : Calls Tryz.prog 123 #[.pointer none, .string p] w fun e w' => e = .returned (.tuple #[.int .i64 0, .string ⟨#[]⟩, .int .i64 1]) ∧ Below w.heap.size w w' := by
  have HC := Lib.hid (asked_nil p w)
  go_enter Tryz.func123, Tryz.ntmps123
  go_wp2_with fail
  refine HC.out.mono ?_
  rintro e w1 ⟨rfl, hb⟩
  go_wp2_with fail
  go_ret3
  exact ⟨rfl, hb⟩
theorem real_nil (w : World) (n : Int) : Calls Tryz.prog 29 #[.pointer none, .int .i64 n] w fun e w' => e = .returned (.tuple #[.string ⟨#[]⟩, .bool false]) ∧ Below w.heap.size w w' := by
  have HK := Lib.hid (W07.kind_nil w n)
  go_enter Tryz.func29, Tryz.ntmps29
  go_wp2_with fail
  refine HK.out.mono ?_
  rintro e w1 ⟨rfl, hb⟩
  go_wp2_with fail
  go_ret2
  exact ⟨rfl, hb⟩
theorem noSeek : NoSeek where
  find := find_nil
  spot := spot_nil
  real := real_nil
end Go.Proofs.YtpihldcchjoinaaGreatDoor.W08
/-
  Layer 9 (posix), walks of the landed code: what is asked of a node by a function that is handed on (ask): Lstat, Stat, Readlink, Read, List; Same. New memory may be laid, nothing that was there is changed. The conditions stand in the statements.
-/
namespace Go.Proofs.YtpihldcchjoinaaGreatDoor.W09
set_option maxRecDepth 100000
open Go Go.RowKit Go.Proofs.YtpihldcchjoinaaGreatDoor.Strs Go.Proofs.YtpihldcchjoinaaGreatDoor.Recs Go.Proofs.YtpihldcchjoinaaGreatDoor.Range
open Go.Proofs.YtpihldcchjoinaaGreatDoor.M07 (Tr Nd nodeAt inDir Right listDir)
open Go.Proofs.YtpihldcchjoinaaGreatDoor.M08 Go.Proofs.YtpihldcchjoinaaGreatDoor.M09
open Go.Proofs.YtpihldcchjoinaaGreatDoor.W07 (Small Trees Wrote listed heap_top)
open Go.Proofs.YtpihldcchjoinaaGreatDoor.W08 (Seeks)
open Go.Proofs.YtpihldcchjoinaaGreatDoor.Kit (ret_str ret_bool ret_int mk_of mk_bytes ba_ext below_draws on)

/-- a box holds a value -/
def Caught (w : World) (b : Nat) (v : Value) : Prop := w.cell? ⟨b, 0, none⟩ = some v ∧ b < w.heap.size
theorem Caught.below {w w' : World} {b : Nat} {v : Value} (h : Caught w b v) (hb : Below w.heap.size w w') : Caught w' b v := ⟨(hb.cell h.2).trans h.1, Nat.lt_of_lt_of_le h.2 hb.size⟩
theorem Caught.new (w : World) (v : Value) (t : TypeId) : Caught (w.alloc (.cells #[v] t)) w.heap.size v := ⟨(Boxed.new w t v).cell, by simp⟩
/-- Find's answer -/
def Finds (v : Value) (p : ByteArray) (last : Bool) (w : World) (n f : Int) : Prop := Calls Tryz.prog 28 #[v, .string p, .bool last] w fun e w' => e = .returned (.tuple #[.int .i64 n, .int .i64 f]) ∧ Below w.heap.size w w'
/-- what a question of a node, whose box is b, is answered with -/
def Says (f : Nat) (n : Int) (b : Nat) (w : World) (Q : World → Ending → World → Prop) : Prop := Calls Tryz.prog f #[.int .i64 n, .pointer (some ⟨b, 0, none⟩)] w (Q w)
def Txt (x : Bytes × Int) (w : World) (e : Ending) (w' : World) : Prop := e = .returned (.tuple #[.string ⟨x.1.toArray⟩, .int .i64 x.2]) ∧ Below w.heap.size w w'
def Sta (x : (Int × Int × Int) × Int) (w : World) (e : Ending) (w' : World) : Prop := e = .returned (.tuple #[statV x.1, .int .i64 x.2]) ∧ Below w.heap.size w w'
def Lst (x : List Bytes × Int) (w : World) : Ending → World → Prop := HandsT w x
theorem Txt.on {x : Bytes × Int} {w w1 w2 : World} {e : Ending} (hb : Below w.heap.size w w1) (h : Txt x w1 e w2) : Txt x w e w2 := ⟨h.1, Kit.on hb h.2⟩
theorem Sta.on {x : (Int × Int × Int) × Int} {w w1 w2 : World} {e : Ending} (hb : Below w.heap.size w w1) (h : Sta x w1 e w2) : Sta x w e w2 := ⟨h.1, Kit.on hb h.2⟩
theorem Lst.on {x : List Bytes × Int} {w w1 w2 : World} {e : Ending} (hb : Below w.heap.size w w1) (h : Lst x w1 e w2) : Lst x w e w2 := by
  obtain ⟨u, h1, h2, h3⟩ := h
  exact ⟨u, h1, h2, Kit.on hb h3⟩
theorem ask_no_stat {v fv : Value} {p : ByteArray} {last : Bool} {n f : Int} {w : World} (h : ∀ w', Below w.heap.size w w' → Finds v p last w' n f) (hf : f ≠ 0) :
    Calls Tryz.prog 121 #[v, .string p, .bool last, fv] w (Sta ((((0 : Int), (0 : Int), (0 : Int)), f) : (Int × Int × Int) × Int) w) := by
  obtain ⟨w1, hw1⟩ : ∃ w1 : World, w.alloc (.cells #[.int .i64 0, .int .i64 0, .int .i64 0] 119) = w1 := ⟨_, rfl⟩
  have B1 : Hid (Below w.heap.size w w1) := by show Below _ _ _; rw [← hw1]; exact W07.below_one _ _
  have SB : Hid (StatBox w1 w.heap.size 0 0 0) := by show StatBox _ _ _ _ _; rw [← hw1]; exact heap_top _ _
  have HF := Lib.hid (h w1 B1.out)
  unfold Finds at HF
  have tf : (f != 0) = true := by simpa using hf
  clear h hf
  go_enter Tryz.func121, Tryz.ntmps121
  go_wp2_with fail
  refine HF.out.mono ?_
  rintro e w2 ⟨rfl, hb2⟩
  have B2 := Lib.hid (on B1.out hb2)
  have SB2 := Lib.hid (SB.out.below hb2)
  clear hb2 SB HF
  obtain ⟨w3, hw3⟩ : ∃ w3 : World, w2.alloc (.cells #[.int .i64 0, .int .i64 0, .int .i64 0] 119) = w3 := ⟨_, rfl⟩
  have hb3 : Below w2.heap.size w2 w3 := by rw [← hw3]; exact (Below.refl _ _).alloc (Nat.le_refl _) _
  have SB3 := Lib.hid (show StatBox w3 w2.heap.size 0 0 0 by rw [← hw3]; exact heap_top _ _)
  have SB2 := Lib.hid (SB2.out.below hb3)
  have B3 := Lib.hid (on B2.out hb3)
  clear hb3
  have s0 := SB2.out.c0
  have s1 := SB2.out.c1
  have s2 := SB2.out.c2
  have f0 := SB2.out.fr 0
  have f1 := SB2.out.fr 1
  have f2 := SB2.out.fr 2
  have r0 := SB3.out.c0
  have r1 := SB3.out.c1
  have r2 := SB3.out.c2
  go_wp2_with fail
  refine bodyPost_ret_by (v := .tuple #[.agg #[.int .i64 0, .int .i64 0, .int .i64 0], .int .i64 f]) ?_ rfl ?_
  · rw [results_cell_tmp rfl]
    go_simp
  · exact ⟨rfl, stored3 _ _ _ B3.out (Nat.le_refl _)⟩
theorem size_bytes (x : Nd) : ((⟨x.data.toArray⟩ : ByteArray).size : Int) = (x.data.length : Int) := by rw [Lib.size_eq]
theorem stored_stat {w' : World} {p : Nat} {a b c x y z : Int} (h : StatBox w' p a b c) : StatBox (((w'.setCell ⟨p, 0, none⟩ (.int .i64 x)).setCell ⟨p, 1, none⟩ (.int .i64 y)).setCell ⟨p, 2, none⟩ (.int .i64 z)) p x y z :=
  W07.set_heap (W07.set_heap (W07.set_heap h 0 (.int .i64 x)) 1 (.int .i64 y)) 2 (.int .i64 z)
theorem stored_size {w' : World} {p : Nat} {a b c z : Int} (h : StatBox w' p a b c) : StatBox (w'.setCell ⟨p, 2, none⟩ (.int .i64 z)) p a b z := W07.set_heap h 2 (.int .i64 z)
set_option maxHeartbeats 4000000 in
theorem stat1_any {Rep : (Nat → Prop) → World → Value → Tr → Prop} (C : Trees Rep) {F : Nat → Prop} {w : World} {a : Option Addr} {t : Tr} (P : Rep F w (.pointer a) t) (hs : Small t) {b : Nat} (hb : Caught w b (.pointer a)) (n : Int) :
    Says 122 n b w (Sta ((n, (nodeAt t.L n).kind, M09.sizeOf t n), 0)) := by
  have HSZ : Hid (M09.sizeOf t n = if (nodeAt t.L n).kind = 1 then ((listed t n).length : Int) else ((nodeAt t.L n).data.length : Int)) := by show _ = _; rw [W08.listed_is (C.right P)]; rfl
  have HTX := Lib.hid (size_bytes (nodeAt t.L n))
  have HLL := W08.listed_len hs n
  have HKK := Lib.hid (fun w' (h : Below w.heap.size w w') => C.kind (C.below P h) hs n)
  have HDD := Lib.hid (fun w' (h : Below w.heap.size w w') => C.data (C.below P h) hs n)
  have HLI := Lib.hid (fun w' (h : Below w.heap.size w w') => C.list (C.below P h) hs n)
  have HB := Lib.hid hb
  have hbl := hb.2
  clear P hb
  unfold Says Sta statV
  generalize M09.sizeOf t n = SZ at *
  generalize listed t n = LS at *
  generalize nodeAt t.L n = x at *
  obtain ⟨xb, hxb⟩ : ∃ d : ByteArray, (⟨x.data.toArray⟩ : ByteArray) = d := ⟨_, rfl⟩
  rw [hxb] at HTX HDD
  clear hxb
  obtain ⟨w1, hw1⟩ : ∃ w1 : World, w.alloc (.cells #[.int .i64 0, .int .i64 0, .int .i64 0] 119) = w1 := ⟨_, rfl⟩
  have B1 : Hid (Below w.heap.size w w1) := by show Below _ _ _; rw [← hw1]; exact W07.below_one _ _
  have RB : Hid (StatBox w1 w.heap.size 0 0 0) := by show StatBox _ _ _ _ _; rw [← hw1]; exact heap_top _ _
  have z1 : Hid (w1.heap.size = w.heap.size + 1) := by show _ = _; rw [← hw1]; exact World.size_alloc _ _
  obtain ⟨wA, hwA⟩ : ∃ wA : World, w1.alloc (.cells #[.int .i64 0, .int .i64 0, .int .i64 0] 119) = wA := ⟨_, rfl⟩
  have bA : Hid (Below w1.heap.size w1 wA) := by show Below _ _ _; rw [← hwA]; exact W07.below_one _ _
  have SA : Hid (StatBox wA w1.heap.size 0 0 0) := by show StatBox _ _ _ _ _; rw [← hwA]; exact heap_top _ _
  have cW : w1.cell? ⟨b, 0, none⟩ = some (.pointer a) := (HB.out.below B1.out).1
  have cA : wA.cell? ⟨b, 0, none⟩ = some (.pointer a) := ((HB.out.below B1.out).below bA.out).1
  have HKW := Lib.hid (HKK.out (w1.drewN 1) (B1.out.trans ((below_draws w1 1).mono B1.out.size)))
  have HKA := Lib.hid (HKK.out (wA.drewN 1) (on B1.out (on bA.out (below_draws wA 1))))
  have hbs := build_stat
  obtain ⟨pA, hpA⟩ : ∃ p, w1.heap.size = p := ⟨_, rfl⟩
  have HPA : Hid (w.heap.size + 1 ≤ pA) := by have := z1.out; show _ ≤ _; omega
  rw [hpA] at SA
  go_enter Tryz.func122, Tryz.ntmps122
  go_wp2_with fail
  clear hw1
  go_region_held3 (fun w' => w'.cell? ⟨b, 0, none⟩ = some (.pointer a))
    (first | exact cz | exact c3N | exact c3 | exact c2A | exact c2 | exact cX | exact cA | exact cW | go_keep)
    (first
      | (go_at_call 42; refine HKA.out.mono ?_; rintro e xA ⟨rfl, hbx⟩; have BX : Below w1.heap.size w1 xA := on bA.out ((below_draws wA 1).trans hbx); have SX := Lib.hid (SA.out.below ((below_draws wA 1).trans hbx)); have cX := ((HB.out.below B1.out).below BX).1; have HDA := Lib.hid (HDD.out xA (on B1.out BX)))
      | (go_at_call 42; refine HKW.out.mono ?_; rintro e x2 ⟨rfl, hbx⟩; have BX : Below w1.heap.size w1 x2 := (below_draws w1 1).trans hbx; have c2 := ((HB.out.below B1.out).below BX).1; have HDW := Lib.hid (HDD.out x2 (on B1.out BX)); obtain ⟨p2, hp2⟩ : ∃ p, x2.heap.size = p := ⟨_, rfl⟩; obtain ⟨x2A, h2A⟩ : ∃ w', x2.alloc (.cells #[.int .i64 0, .int .i64 0, .int .i64 0] 119) = w' := ⟨_, rfl⟩; have b2A : Below x2.heap.size x2 x2A := (by rw [← h2A]; exact W07.below_one _ _); have S2A := Lib.hid (show StatBox x2A p2 0 0 0 by rw [← hp2, ← h2A]; exact heap_top _ _); have c2A := ((HB.out.below B1.out).below (on BX b2A)).1; have HDX := Lib.hid (HDD.out x2A (on B1.out (on BX b2A))); have BX2 := on BX b2A)
      | (go_at_call 43; refine HDA.out.mono ?_; rintro e x3 ⟨rfl, hb3⟩; have B3 := on BX hb3; have S3 := Lib.hid (SX.out.below hb3); have c3 := ((HB.out.below B1.out).below B3).1; have m0 := S3.out.c0; have m1 := S3.out.c1; have m2 := S3.out.c2; have v0 := S3.out.fr 0; have v1 := S3.out.fr 1; have v2 := S3.out.fr 2; obtain ⟨wz, hwz⟩ : ∃ w', (((x3.setCell ⟨pA, 0, none⟩ (.int .i64 n)).setCell ⟨pA, 1, none⟩ (.int .i64 x.kind)).setCell ⟨pA, 2, none⟩ (.int .i64 (xb.size : Int))) = w' := ⟨_, rfl⟩; have SZB := Lib.hid (show StatBox wz pA n x.kind (xb.size : Int) by rw [← hwz]; exact stored_stat S3.out); have BZ := Lib.hid (show Below w1.heap.size w1 wz by rw [← hwz]; exact stored3 _ _ _ (B3) (by omega)); have cz := ((HB.out.below B1.out).below BZ.out).1)
      | (go_at_call 43; refine HDW.out.mono ?_; rintro e x3 ⟨rfl, hb3⟩; have B3 := on BX hb3; have c3 := ((HB.out.below B1.out).below B3).1; obtain ⟨p3, hp3⟩ : ∃ p, x3.heap.size = p := ⟨_, rfl⟩; obtain ⟨x3N, h3N⟩ : ∃ w', x3.alloc (.cells #[.int .i64 0, .int .i64 0, .int .i64 0] 119) = w' := ⟨_, rfl⟩; have b3N : Below x3.heap.size x3 x3N := (by rw [← h3N]; exact W07.below_one _ _); have S3N := Lib.hid (show StatBox x3N p3 0 0 0 by rw [← hp3, ← h3N]; exact heap_top _ _); have B3N := on B3 b3N; have hz3 := B3.size; have c3N := ((HB.out.below B1.out).below B3N).1; have m0 := S3N.out.c0; have m1 := S3N.out.c1; have m2 := S3N.out.c2; have v0 := S3N.out.fr 0; have v1 := S3N.out.fr 1; have v2 := S3N.out.fr 2; obtain ⟨wz, hwz⟩ : ∃ w', (((x3N.setCell ⟨p3, 0, none⟩ (.int .i64 n)).setCell ⟨p3, 1, none⟩ (.int .i64 x.kind)).setCell ⟨p3, 2, none⟩ (.int .i64 (xb.size : Int))) = w' := ⟨_, rfl⟩; have SZB := Lib.hid (show StatBox wz p3 n x.kind (xb.size : Int) by rw [← hwz]; exact stored_stat S3N.out); have BZ := Lib.hid (show Below w1.heap.size w1 wz by rw [← hwz]; exact stored3 _ _ _ (B3N) (by omega)); have cz := ((HB.out.below B1.out).below BZ.out).1)
      | (go_at_call 43; refine HDX.out.mono ?_; rintro e x3 ⟨rfl, hb3⟩; have B3 := on BX2 hb3; have S3 := Lib.hid (S2A.out.below hb3); have hz2 := BX.size; have c3 := ((HB.out.below B1.out).below B3).1; have m0 := S3.out.c0; have m1 := S3.out.c1; have m2 := S3.out.c2; have v0 := S3.out.fr 0; have v1 := S3.out.fr 1; have v2 := S3.out.fr 2; obtain ⟨wz, hwz⟩ : ∃ w', (((x3.setCell ⟨p2, 0, none⟩ (.int .i64 n)).setCell ⟨p2, 1, none⟩ (.int .i64 x.kind)).setCell ⟨p2, 2, none⟩ (.int .i64 (xb.size : Int))) = w' := ⟨_, rfl⟩; have SZB := Lib.hid (show StatBox wz p2 n x.kind (xb.size : Int) by rw [← hwz]; exact stored_stat S3.out); have BZ := Lib.hid (show Below w1.heap.size w1 wz by rw [← hwz]; exact stored3 _ _ _ (B3) (by omega)); have cz := ((HB.out.below B1.out).below BZ.out).1))
  all_goals (
    clear m0 m1 m2 v0 v1 v2 hwz cz cW cA
    first
      | (obtain ⟨pz, hpz⟩ : ∃ p, p = p3 := ⟨_, rfl⟩; subst hpz; have HPZ : Hid (w1.heap.size ≤ pz) := (by show _ ≤ _; omega))
      | (obtain ⟨pz, hpz⟩ : ∃ p, p = p2 := ⟨_, rfl⟩; subst hpz; have HPZ : Hid (w1.heap.size ≤ pz) := (by show _ ≤ _; omega))
      | (obtain ⟨pz, hpz⟩ : ∃ p, p = pA := ⟨_, rfl⟩; subst hpz; have HPZ : Hid (w1.heap.size ≤ pz) := (by show _ ≤ _; omega))
    by_cases hk : x.kind = 1
    · have tk : (x.kind == 1) = true := by simp [hk]
      have HX : Hid (SZ = (LS.length : Int)) := HSZ.out.trans (if_pos hk)
      have HL := Lib.hid (HLI.out wz (on B1.out BZ.out))
      have m1 := SZB.out.c1
      have c0 := ((HB.out.below B1.out).below BZ.out).1
      clear hk
      go_wp2_with fail
      refine HL.out.mono ?_
      rintro e w4 ⟨u, rfl, hu, hb4⟩
      obtain ⟨A4, c4, rfl, -, -⟩ := hu.form
      have S4 := SZB.out.below hb4
      have B4 := Lib.hid (show Below w1.heap.size w1 w4 from on BZ.out hb4)
      clear hu hb4 HL m1 c0
      have n2 := S4.c2
      have f2 := S4.fr 2
      obtain ⟨w5, hw5⟩ : ∃ w', w4.setCell ⟨pz, 2, none⟩ (.int .i64 (LS.length : Int)) = w' := ⟨_, rfl⟩
      have S5 := Lib.hid (show StatBox w5 pz n x.kind (LS.length : Int) by rw [← hw5]; exact stored_size S4)
      have B5 := Lib.hid (show Below w1.heap.size w1 w5 by rw [← hw5]; exact B4.out.setCell HPZ.out _)
      have R5 := RB.out.below B5.out
      have s0 := S5.out.c0
      have s1 := S5.out.c1
      have s2 := S5.out.c2
      have r0 := R5.c0
      have r1 := R5.c1
      have r2 := R5.c2
      have g0 := R5.fr 0
      have g1 := R5.fr 1
      have g2 := R5.fr 2
      clear S4 R5
      go_wp2_with fail
      refine bodyPost_ret_by (v := .tuple #[.agg #[.int .i64 n, .int .i64 x.kind, .int .i64 (LS.length : Int)], .int .i64 0]) ?_ rfl ?_
      · rw [results_cell_tmp rfl]
        go_simp
      · rw [HX.out]
        exact ⟨rfl, stored3 _ _ _ (on B1.out B5.out) (Nat.le_refl _)⟩
    · have tk : (x.kind == 1) = false := by simpa using hk
      have HX : Hid (SZ = (xb.size : Int)) := HSZ.out.trans ((if_neg hk).trans HTX.out.symm)
      have RZ := RB.out.below BZ.out
      have s0 := SZB.out.c0
      have s1 := SZB.out.c1
      have s2 := SZB.out.c2
      have r0 := RZ.c0
      have r1 := RZ.c1
      have r2 := RZ.c2
      have g0 := RZ.fr 0
      have g1 := RZ.fr 1
      have g2 := RZ.fr 2
      clear hk RZ
      go_wp2_with fail
      refine bodyPost_ret_by (v := .tuple #[.agg #[.int .i64 n, .int .i64 x.kind, .int .i64 (xb.size : Int)], .int .i64 0]) ?_ rfl ?_
      · rw [results_cell_tmp rfl]
        go_simp
      · rw [HX.out]
        exact ⟨rfl, stored3 _ _ _ (on B1.out BZ.out) (Nat.le_refl _)⟩)
theorem ask_stat1 {v : Value} {p : ByteArray} {last : Bool} {n : Int} {w : World} {b : Nat} {x : (Int × Int × Int) × Int} (h : ∀ w', Below w.heap.size w w' → Finds v p last w' n 0) (hq : ∀ w', Below w.heap.size w w' → Says 122 n b w' (Sta x)) :
    Calls Tryz.prog 121 #[v, .string p, .bool last, .func (.func 122) #[] #[.pointer (some ⟨b, 0, none⟩)]] w (Sta x w) := by
  obtain ⟨⟨x1, x2, x3⟩, x4⟩ := x
  obtain ⟨w1, hw1⟩ : ∃ w1 : World, w.alloc (.cells #[.int .i64 0, .int .i64 0, .int .i64 0] 119) = w1 := ⟨_, rfl⟩
  have B1 : Hid (Below w.heap.size w w1) := by show Below _ _ _; rw [← hw1]; exact W07.below_one _ _
  have SB : Hid (StatBox w1 w.heap.size 0 0 0) := by show StatBox _ _ _ _ _; rw [← hw1]; exact heap_top _ _
  have HF := Lib.hid (h w1 B1.out)
  have HQ := Lib.hid hq
  unfold Finds at HF
  unfold Says Sta statV at HQ
  clear h hq
  go_enter Tryz.func121, Tryz.ntmps121
  go_wp2_with fail
  refine HF.out.mono ?_
  rintro e w2 ⟨rfl, hb2⟩
  have B2 := Lib.hid (on B1.out hb2)
  have SB2 := Lib.hid (SB.out.below hb2)
  clear hb2 SB HF hw1
  go_wp2_with fail
  refine (HQ.out w2 B2.out).mono ?_
  rintro e w3 ⟨rfl, hb3⟩
  have SB3 := Lib.hid (SB2.out.below hb3)
  have B3 := Lib.hid (on B2.out hb3)
  clear hb3
  have s0 := SB3.out.c0
  have s1 := SB3.out.c1
  have s2 := SB3.out.c2
  have f0 := SB3.out.fr 0
  have f1 := SB3.out.fr 1
  have f2 := SB3.out.fr 2
  go_wp2_with fail
  refine bodyPost_ret_by (v := .tuple #[.agg #[.int .i64 x1, .int .i64 x2, .int .i64 x3], .int .i64 x4]) ?_ rfl ?_
  · rw [results_cell_tmp rfl]
    go_simp
  · exact ⟨rfl, stored3 _ _ _ B3.out (Nat.le_refl _)⟩
theorem stats_over {Rep : (Nat → Prop) → World → Value → Tr → Prop} (C : Trees Rep) (S : Seeks Rep) {F : Nat → Prop} {w : World} {a : Option Addr} {t : Tr} (P : Rep F w (.pointer a) t) (G : Good t) (p : ByteArray) (last : Bool) (hp : p.size ≤ 1048576) :
    Calls Tryz.prog 98 #[.pointer a, .string p, .bool last] w (Sta (M09.stat t p.data.toList last) w) := by
  have HX : Hid (M09.stat t p.data.toList last = if (M08.find t p.data.toList last).2 ≠ 0 then ((0, 0, 0), (M08.find t p.data.toList last).2) else (((M08.find t p.data.toList last).1, (nodeAt t.L (M08.find t p.data.toList last).1).kind, M09.sizeOf t (M08.find t p.data.toList last).1), 0)) := rfl
  obtain ⟨w1, hw1⟩ : ∃ w1 : World, (w.alloc (.cells #[.pointer a] 25)).alloc (.cells #[.int .i64 0, .int .i64 0, .int .i64 0] 119) = w1 := ⟨_, rfl⟩
  have B1 : Hid (Below w.heap.size w w1) := by show Below _ _ _; rw [← hw1]; exact W07.below_two _ _ _
  have CB : Hid (Caught w1 w.heap.size (.pointer a)) := by show Caught _ _ _; rw [← hw1]; exact (Caught.new _ _ _).below (W07.below_one _ _)
  have SB : Hid (StatBox w1 (w.heap.size + 1) 0 0 0) := by show StatBox _ _ _ _ _; rw [← hw1]; exact W07.heap_two_b _ _ _
  have P1 := Lib.hid (C.below P B1.out)
  have HS := Lib.hid (fun w' (h : Below w1.heap.size w1 w') => S.find (C.below P1.out h) G p last hp)
  have HC := Lib.hid (fun w' (h : Below w1.heap.size w1 w') => stat1_any C (C.below P1.out h) G.small (CB.out.below h) (M08.find t p.data.toList last).1)
  have c0 := CB.out.1
  clear P G hp
  generalize M09.stat t p.data.toList last = R at *
  generalize M08.find t p.data.toList last = X at *
  obtain ⟨n, f⟩ := X
  dsimp only at HS HC HX
  have HA : Hid (Calls Tryz.prog 121 #[.pointer a, .string p, .bool last, .func (.func 122) #[] #[.pointer (some ⟨w.heap.size, 0, none⟩)]] w1 (Sta R w1)) := by
    by_cases hf : f = 0
    · subst hf
      replace HX := HX.out.trans (if_neg (by simp))
      rw [← HX] at HC
      exact Lib.hid (ask_stat1 HS.out HC.out)
    · replace HX := HX.out.trans (if_pos hf)
      have := ask_no_stat (fv := .func (.func 122) #[] #[.pointer (some ⟨w.heap.size, 0, none⟩)]) HS.out hf
      rw [← HX] at this
      exact Lib.hid this
  clear HX HS HC
  obtain ⟨⟨x1, x2, x3⟩, x4⟩ := R
  unfold Sta statV at HA ⊢
  go_enter Tryz.func98, Tryz.ntmps98
  go_wp2_with fail
  clear hw1
  refine HA.out.mono ?_
  rintro e w2 ⟨rfl, hb2⟩
  have SB2 := SB.out.below hb2
  have B2 := Lib.hid (on B1.out hb2)
  have s0 := SB2.c0
  have s1 := SB2.c1
  have s2 := SB2.c2
  have f0 := SB2.fr 0
  have f1 := SB2.fr 1
  have f2 := SB2.fr 2
  clear hb2 SB SB2 HA c0
  go_wp2_with fail
  refine bodyPost_ret_by (v := .tuple #[.agg #[.int .i64 x1, .int .i64 x2, .int .i64 x3], .int .i64 x4]) ?_ rfl ?_
  · rw [results_cell_tmp rfl]
    go_simp
  · exact ⟨rfl, stored3 _ _ _ B2.out (by omega)⟩
theorem lstat_over {Rep : (Nat → Prop) → World → Value → Tr → Prop} (C : Trees Rep) (S : Seeks Rep) {F : Nat → Prop} {w : World} {a : Option Addr} {t : Tr} (P : Rep F w (.pointer a) t) (G : Good t) (p : ByteArray) (hp : p.size ≤ 1048576) :
    Calls Tryz.prog 71 #[.pointer a, .string p] w (Sta (M09.stat t p.data.toList false) w) := by
  obtain ⟨w1, hw1⟩ : ∃ w1 : World, w.alloc (.cells #[.int .i64 0, .int .i64 0, .int .i64 0] 119) = w1 := ⟨_, rfl⟩
  have B1 : Hid (Below w.heap.size w w1) := by show Below _ _ _; rw [← hw1]; exact W07.below_one _ _
  have SB : Hid (StatBox w1 w.heap.size 0 0 0) := by show StatBox _ _ _ _ _; rw [← hw1]; exact heap_top _ _
  have HA := Lib.hid (stats_over C S (C.below P B1.out) G p false hp)
  clear P G hp
  generalize M09.stat t p.data.toList false = R at *
  obtain ⟨⟨x1, x2, x3⟩, x4⟩ := R
  unfold Sta statV at HA ⊢
  go_enter Tryz.func71, Tryz.ntmps71
  go_wp2_with fail
  clear hw1
  refine HA.out.mono ?_
  rintro e w2 ⟨rfl, hb2⟩
  have SB2 := SB.out.below hb2
  have B2 := Lib.hid (on B1.out hb2)
  have s0 := SB2.c0
  have s1 := SB2.c1
  have s2 := SB2.c2
  have f0 := SB2.fr 0
  have f1 := SB2.fr 1
  have f2 := SB2.fr 2
  clear hb2 SB SB2 HA
  go_wp2_with fail
  refine bodyPost_ret_by (v := .tuple #[.agg #[.int .i64 x1, .int .i64 x2, .int .i64 x3], .int .i64 x4]) ?_ rfl ?_
  · rw [results_cell_tmp rfl]
    go_simp
  · exact ⟨rfl, stored3 _ _ _ B2.out (Nat.le_refl _)⟩
end Go.Proofs.YtpihldcchjoinaaGreatDoor.W09
/-
  Layer 9 (posix), over the contracts of tree and seek: what changes do that find their spots first. Conditions: those that each theorem bears.
-/
namespace Go.Proofs.YtpihldcchjoinaaGreatDoor.W09
set_option maxRecDepth 100000
open Go Go.RowKit Go.Proofs.YtpihldcchjoinaaGreatDoor.Strs Go.Proofs.YtpihldcchjoinaaGreatDoor.Recs Go.Proofs.YtpihldcchjoinaaGreatDoor.Range
open Go.Proofs.YtpihldcchjoinaaGreatDoor.M07 (Tr Nd nodeAt inDir Right listDir)
open Go.Proofs.YtpihldcchjoinaaGreatDoor.M08 Go.Proofs.YtpihldcchjoinaaGreatDoor.M09
open Go.Proofs.YtpihldcchjoinaaGreatDoor.W07 (Small Trees Wrote)
open Go.Proofs.YtpihldcchjoinaaGreatDoor.W08 (Seeks)
open Go.Proofs.YtpihldcchjoinaaGreatDoor.Kit (ret_str ret_bool ret_int mk_of mk_bytes ba_ext below_draws on)

theorem text_of (s : List UInt8) : ∃ d : ByteArray, d.data.toList = s := ⟨⟨s.toArray⟩, rfl⟩
theorem wrote_none {Rep : (Nat → Prop) → World → Value → Tr → Prop} (C : Trees Rep) {F : Nat → Prop} {w w' : World} {v : Value} {t : Tr} (P : Rep F w v t) (hb : Below w.heap.size w w') : Wrote Rep F v t w w' :=
  ⟨F, C.below P hb, Turns.new hb, fun _ h => Or.inl h⟩
theorem put_over {Rep : (Nat → Prop) → World → Value → Tr → Prop} (C : Trees Rep) (S : Seeks Rep) {F : Nat → Prop} {w : World} {v : Value} {t : Tr} (P : Rep F w v t) (G : Good t) (p x : ByteArray) (k : Int) (hp : p.size ≤ 1048576) (hx : x.size ≤ 1048576) :
    Calls Tryz.prog 99 #[v, .string p, .int .i64 k, .string x] w fun e w' => e = .returned (.int .i64 (putAt t p.data.toList k x.data.toList).2) ∧ Wrote Rep F v (putAt t p.data.toList k x.data.toList).1 w w' := by
  have HA := Lib.hid (S.spot P G p hp)
  have HX : Hid (putAt t p.data.toList k x.data.toList = if (spot t p.data.toList).2.2 ≠ 0 then (t, (spot t p.data.toList).2.2) else ((M07.put t (spot t p.data.toList).1 (spot t p.data.toList).2.1 k x.data.toList).1, (M07.put t (spot t p.data.toList).1 (spot t p.data.toList).2.1 k x.data.toList).2.2)) := rfl
  have HM := Lib.hid (fun w' (h : Below w.heap.size w w') => C.put (C.below P h) G.small)
  have HN := Lib.hid (fun w' (h : Below w.heap.size w w') => wrote_none C P h)
  clear P G hp
  generalize putAt t p.data.toList k x.data.toList = R at *
  generalize spot t p.data.toList = X at *
  obtain ⟨d, s, f⟩ := X
  obtain ⟨sb, rfl⟩ := text_of s
  rw [mk_bytes] at HA
  dsimp only at HA HX
  by_cases h1 : f = 0
  · subst h1
    have HM := Lib.hid (fun w' h => HM.out w' h d sb k x (by unfold maxLen; omega))
    replace HX := Lib.hid (HX.out.trans (if_neg (by simp)))
    generalize M07.put t d sb.data.toList k x.data.toList = Q at *
    go_enter Tryz.func99, Tryz.ntmps99
    go_wp2_with fail
    refine HA.out.mono ?_
    rintro e w1 ⟨rfl, hb1⟩
    go_wp2_with fail
    refine (HM.out w1 hb1).mono ?_
    rintro e w3 ⟨rfl, hwr⟩
    have W3 := Lib.hid (wrote_after hb1 hwr)
    clear hwr
    go_wp2_with fail
    go_ret
    rw [HX.out]
    exact ⟨rfl, W3.out⟩
  · have t1 : (f == 0) = false := by simpa using h1
    replace HX := Lib.hid (HX.out.trans (if_pos h1))
    clear h1 HM
    go_enter Tryz.func99, Tryz.ntmps99
    go_wp2_with fail
    refine HA.out.mono ?_
    rintro e w1 ⟨rfl, hb1⟩
    go_wp2_with fail
    go_ret
    rw [HX.out]
    exact ⟨rfl, HN.out w1 hb1⟩
end Go.Proofs.YtpihldcchjoinaaGreatDoor.W09
/-
  Layer 9 (posix), walks of the landed code: the place of a path's last part (spot), and what is asked of the node there ahead of Cut. New memory may be laid, nothing that was there is changed. The conditions stand in the statements.
-/
namespace Go.Proofs.YtpihldcchjoinaaGreatDoor.W09
set_option maxRecDepth 100000
open Go Go.RowKit Go.Proofs.YtpihldcchjoinaaGreatDoor.Strs Go.Proofs.YtpihldcchjoinaaGreatDoor.Recs Go.Proofs.YtpihldcchjoinaaGreatDoor.Range
open Go.Proofs.YtpihldcchjoinaaGreatDoor.M07 (Tr Nd nodeAt inDir Right listDir)
open Go.Proofs.YtpihldcchjoinaaGreatDoor.M08 Go.Proofs.YtpihldcchjoinaaGreatDoor.M09
open Go.Proofs.YtpihldcchjoinaaGreatDoor.W07 (Small Trees Wrote listed heap_top)
open Go.Proofs.YtpihldcchjoinaaGreatDoor.W08 (Seeks)
open Go.Proofs.YtpihldcchjoinaaGreatDoor.Kit (ret_str ret_bool ret_int mk_of mk_bytes ba_ext below_draws on)

/-- a box of a place -/
def PlaceBox (w : World) (p : Nat) (d : Int) (s : ByteArray) (n : Int) : Prop := w.heap[p]? = some (.cells #[.int .i64 d, .string s, .int .i64 n] 175 (0, 0))
section
variable {w w' : World} {p : Nat} {d n : Int} {s : ByteArray}
theorem PlaceBox.lt (h : PlaceBox w p d s n) : p < w.heap.size := (Array.getElem?_eq_some_iff.1 h).1
theorem PlaceBox.below (h : PlaceBox w p d s n) (hb : Below w.heap.size w w') : PlaceBox w' p d s n := (hb.block _ h.lt).trans h
theorem PlaceBox.c0 (h : PlaceBox w p d s n) : w.cell? ⟨p, 0, none⟩ = some (.int .i64 d) := cell_of_row w _ 0 _ _ (0, 0) h
theorem PlaceBox.c1 (h : PlaceBox w p d s n) : w.cell? ⟨p, 1, none⟩ = some (.string s) := cell_of_row w _ 1 _ _ (0, 0) h
theorem PlaceBox.c2 (h : PlaceBox w p d s n) : w.cell? ⟨p, 2, none⟩ = some (.int .i64 n) := cell_of_row w _ 2 _ _ (0, 0) h
theorem PlaceBox.fr (h : PlaceBox w p d s n) (j : Nat) : w.frozen? ⟨p, j, none⟩ = false := frozen_of_row w _ j _ _ h
end
theorem build_place (d : Int) (s : ByteArray) (n : Int) (w : World) : (Instr.build 175 #[(0, .int .i64 d), (1, .string s), (2, .int .i64 n)]).run Tryz.prog w = .ok (.agg #[.int .i64 d, .string s, .int .i64 n]) w := by kernel_rfl
theorem build_noplace (w : World) : (Instr.build 175 #[]).run Tryz.prog w = .ok (.agg #[.int .i64 0, .string ⟨#[]⟩, .int .i64 0]) w := by kernel_rfl
def Place (d : Int) (s : ByteArray) (n f : Int) (w : World) (e : Ending) (w' : World) : Prop := e = .returned (.tuple #[.agg #[.int .i64 d, .string s, .int .i64 n], .int .i64 f]) ∧ Below w.heap.size w w'
theorem spot_no {Rep : (Nat → Prop) → World → Value → Tr → Prop} (C : Trees Rep) (S : Seeks Rep) {F : Nat → Prop} {w : World} {v : Value} {t : Tr} (P : Rep F w v t) (G : Good t) (p : ByteArray) (hp : p.size ≤ 1048576) {d : Int} {s : Bytes} {f : Int} (h : M08.spot t p.data.toList = (d, s, f)) (hf : f ≠ 0) :
    Calls Tryz.prog 124 #[v, .string p] w (Place 0 ⟨#[]⟩ 0 f w) := by
  obtain ⟨w1, hw1⟩ : ∃ w1 : World, w.alloc (.cells #[.int .i64 0, .string ⟨#[]⟩, .int .i64 0] 175) = w1 := ⟨_, rfl⟩
  have B1 : Hid (Below w.heap.size w w1) := by show Below _ _ _; rw [← hw1]; exact W07.below_one _ _
  have PB : Hid (PlaceBox w1 w.heap.size 0 ⟨#[]⟩ 0) := by show PlaceBox _ _ _ _ _; rw [← hw1]; exact heap_top _ _
  have HA := Lib.hid (S.spot (C.below P B1.out) G p hp)
  rw [h] at HA
  have tf : (f != 0) = true := by simpa using hf
  have hbn := build_noplace
  clear P G hp h hf
  unfold Place
  go_enter Tryz.func124, Tryz.ntmps124
  go_wp2_with fail
  clear hw1
  refine HA.out.mono ?_
  rintro e w2 ⟨rfl, hb2⟩
  have PB2 := PB.out.below hb2
  have B2 := Lib.hid (on B1.out hb2)
  have s0 := PB2.c0
  have s1 := PB2.c1
  have s2 := PB2.c2
  have f0 := PB2.fr 0
  have f1 := PB2.fr 1
  have f2 := PB2.fr 2
  clear hb2 PB PB2 HA
  go_wp2_with fail
  refine bodyPost_ret_by (v := .tuple #[.agg #[.int .i64 0, .string ⟨#[]⟩, .int .i64 0], .int .i64 f]) ?_ rfl ?_
  · rw [results_cell_tmp rfl]
    go_simp
  · exact ⟨rfl, stored3 _ _ _ B2.out (Nat.le_refl _)⟩
theorem spot_at {Rep : (Nat → Prop) → World → Value → Tr → Prop} (C : Trees Rep) (S : Seeks Rep) {F : Nat → Prop} {w : World} {v : Value} {t : Tr} (P : Rep F w v t) (G : Good t) (p : ByteArray) (hp : p.size ≤ 1048576) {d : Int} {s : ByteArray} (h : M08.spot t p.data.toList = (d, s.data.toList, 0)) :
    Calls Tryz.prog 124 #[v, .string p] w (Place d s (inDir t.L d s.data.toList) 0 w) := by
  obtain ⟨w1, hw1⟩ : ∃ w1 : World, w.alloc (.cells #[.int .i64 0, .string ⟨#[]⟩, .int .i64 0] 175) = w1 := ⟨_, rfl⟩
  have B1 : Hid (Below w.heap.size w w1) := by show Below _ _ _; rw [← hw1]; exact W07.below_one _ _
  have PB : Hid (PlaceBox w1 w.heap.size 0 ⟨#[]⟩ 0) := by show PlaceBox _ _ _ _ _; rw [← hw1]; exact heap_top _ _
  have HA := Lib.hid (S.spot (C.below P B1.out) G p hp)
  rw [h] at HA
  simp only [mk_bytes] at HA
  have HL := Lib.hid (fun w' (h : Below w.heap.size w w') => C.list (C.below P h) G.small d)
  have HF := Lib.hid (fun u w' (hu : Recs W06.entC 2 w'.heap.size w' u (W07.listed t d)) => W08.near_any (C.right P) G.small d s (u := u) (w := w') hu)
  have hbp := build_place
  clear P G hp h
  generalize inDir t.L d s.data.toList = n at *
  unfold Place
  go_enter Tryz.func124, Tryz.ntmps124
  go_wp2_with fail
  clear hw1
  refine HA.out.mono ?_
  rintro e w2 ⟨rfl, hb2⟩
  have PB2 := Lib.hid (PB.out.below hb2)
  have B2 := Lib.hid (on B1.out hb2)
  clear hb2 PB HA
  go_wp2_with fail
  refine (HL.out w2 B2.out).mono ?_
  rintro e w3 ⟨u, rfl, hu, hb3⟩
  have PB3 := Lib.hid (PB2.out.below hb3)
  have B3 := Lib.hid (on B2.out hb3)
  clear hb3 PB2 HL
  go_wp2_with fail
  refine (HF.out u w3 hu).mono ?_
  rintro e w4 ⟨rfl, hb4⟩
  have PB4 := PB3.out.below hb4
  have B4 := Lib.hid (on B3.out hb4)
  have s0 := PB4.c0
  have s1 := PB4.c1
  have s2 := PB4.c2
  have f0 := PB4.fr 0
  have f1 := PB4.fr 1
  have f2 := PB4.fr 2
  clear hb4 PB3 PB4 HF hu
  go_wp2_with fail
  refine bodyPost_ret_by (v := .tuple #[.agg #[.int .i64 d, .string s, .int .i64 n], .int .i64 0]) ?_ rfl ?_
  · rw [results_cell_tmp rfl]
    go_simp
  · exact ⟨rfl, stored3 _ _ _ B4.out (Nat.le_refl _)⟩
/-- what Write comes to where nothing is found -/
def created (t : Tr) (p x : Bytes) : Tr × Int :=
  if (M08.spot t p).2.2 ≠ 0 then (t, (M08.spot t p).2.2) else if 0 < inDir t.L (M08.spot t p).1 (M08.spot t p).2.1 then (t, 5) else putAt t p 2 x
set_option maxHeartbeats 2000000 in
theorem create_over {Rep : (Nat → Prop) → World → Value → Tr → Prop} (C : Trees Rep) (S : Seeks Rep) {F : Nat → Prop} {w : World} {v : Value} {t : Tr} (P : Rep F w v t) (G : Good t) (p x : ByteArray) (hp : p.size ≤ 1048576) (hx : x.size ≤ 1048576) :
    Calls Tryz.prog 101 #[v, .string p, .string x] w fun e w' => e = .returned (.int .i64 (created t p.data.toList x.data.toList).2) ∧ Wrote Rep F v (created t p.data.toList x.data.toList).1 w w' := by
  have HX : Hid (created t p.data.toList x.data.toList = if (spot t p.data.toList).2.2 ≠ 0 then (t, (spot t p.data.toList).2.2) else if 0 < inDir t.L (spot t p.data.toList).1 (spot t p.data.toList).2.1 then (t, 5) else putAt t p.data.toList 2 x.data.toList) := rfl
  have HY : Hid (putAt t p.data.toList 2 x.data.toList = if (spot t p.data.toList).2.2 ≠ 0 then (t, (spot t p.data.toList).2.2) else ((M07.put t (spot t p.data.toList).1 (spot t p.data.toList).2.1 2 x.data.toList).1, (M07.put t (spot t p.data.toList).1 (spot t p.data.toList).2.1 2 x.data.toList).2.2)) := rfl
  have HNO := Lib.hid (fun d s f (h : M08.spot t p.data.toList = (d, s, f)) hf => spot_no C S P G p hp h hf)
  have HAT := Lib.hid (fun d s (h : M08.spot t p.data.toList = (d, s.data.toList, 0)) => spot_at C S P G p hp (s := s) h)
  have HM := Lib.hid (fun w' (h : Below w.heap.size w w') => C.put (C.below P h) G.small)
  have HN := Lib.hid (fun w' (h : Below w.heap.size w w') => wrote_none C P h)
  have HP : ∀ d s, 0 ≤ inDir t.L d s := fun d s => M07.in_pos fun a ha => ((C.right P).ends a ha).1
  clear P G hp
  generalize created t p.data.toList x.data.toList = R at *
  generalize putAt t p.data.toList 2 x.data.toList = R2 at *
  generalize spot t p.data.toList = X at *
  obtain ⟨d, s, f⟩ := X
  obtain ⟨sb, rfl⟩ := text_of s
  dsimp only at HX HY
  unfold Place at HNO HAT
  by_cases h1 : f = 0
  · subst h1
    replace HX := Lib.hid (HX.out.trans (if_neg (by simp)))
    replace HY := Lib.hid (HY.out.trans (if_neg (by simp)))
    replace HM := Lib.hid (fun w' h => HM.out w' h d sb 2 x (by unfold maxLen; omega))
    have HS := Lib.hid (HAT.out d sb rfl)
    have HP := HP d sb.data.toList
    generalize inDir t.L d sb.data.toList = n at *
    generalize M07.put t d sb.data.toList 2 x.data.toList = Q at *
    clear HAT HNO
    by_cases h3 : n = 0
    · have tn : (n != 0) = false := by simp [h3]
      replace HX := Lib.hid ((HX.out.trans (if_neg (by omega))).trans HY.out)
      clear HP h3 HY
      go_enter Tryz.func101, Tryz.ntmps101
      go_wp2_with fail
      refine HS.out.mono ?_
      rintro e w1 ⟨rfl, hb1⟩
      obtain ⟨w2, hw2⟩ : ∃ w' : World, w1.alloc (.cells #[.int .i64 d, .string sb, .int .i64 n] 175) = w' := ⟨_, rfl⟩
      have hb2 : Below w1.heap.size w1 w2 := by rw [← hw2]; exact (Below.refl _ _).alloc (Nat.le_refl _) _
      have PB := Lib.hid (show PlaceBox w2 w1.heap.size d sb n by rw [← hw2]; exact heap_top _ _)
      have B2 := Lib.hid (on hb1 hb2)
      clear hb2
      have s0 := PB.out.c0
      have s1 := PB.out.c1
      have s2 := PB.out.c2
      go_wp2_with fail
      clear hw2
      clear s0 s1 s2
      refine (HM.out w2 B2.out).mono ?_
      rintro e w9 ⟨rfl, hwr⟩
      have W9 := Lib.hid (wrote_after B2.out hwr)
      clear hwr
      go_wp2_with fail
      go_ret
      rw [HX.out]
      exact ⟨rfl, W9.out⟩
    · have tn : (n != 0) = true := by simpa using h3
      replace HX := Lib.hid (HX.out.trans (if_pos (by omega)))
      clear HP h3 HY HM
      go_enter Tryz.func101, Tryz.ntmps101
      go_wp2_with fail
      refine HS.out.mono ?_
      rintro e w1 ⟨rfl, hb1⟩
      obtain ⟨w2, hw2⟩ : ∃ w' : World, w1.alloc (.cells #[.int .i64 d, .string sb, .int .i64 n] 175) = w' := ⟨_, rfl⟩
      have hb2 : Below w1.heap.size w1 w2 := by rw [← hw2]; exact (Below.refl _ _).alloc (Nat.le_refl _) _
      have PB := Lib.hid (show PlaceBox w2 w1.heap.size d sb n by rw [← hw2]; exact heap_top _ _)
      have B2 := Lib.hid (on hb1 hb2)
      clear hb2
      have s0 := PB.out.c0
      have s1 := PB.out.c1
      have s2 := PB.out.c2
      go_wp2_with fail
      go_ret
      rw [HX.out]
      exact ⟨rfl, HN.out w2 B2.out⟩
  · have tf : (f != 0) = true := by simpa using h1
    have HS := Lib.hid (HNO.out d sb.data.toList f rfl h1)
    replace HX := Lib.hid (HX.out.trans (if_pos h1))
    clear HAT HNO HM HY HP h1
    go_enter Tryz.func101, Tryz.ntmps101
    go_wp2_with fail
    refine HS.out.mono ?_
    rintro e w1 ⟨rfl, hb1⟩
    go_wp2_with fail
    go_ret
    rw [HX.out]
    exact ⟨rfl, HN.out _ (hb1.alloc hb1.size _)⟩
set_option maxHeartbeats 2000000 in
theorem write_over {Rep : (Nat → Prop) → World → Value → Tr → Prop} (C : Trees Rep) (S : Seeks Rep) {F : Nat → Prop} {w : World} {v : Value} {t : Tr} (P : Rep F w v t) (G : Good t) (p x : ByteArray) (hp : p.size ≤ 1048576) (hx : x.size ≤ 1048576) :
    Calls Tryz.prog 74 #[v, .string p, .string x] w fun e w' => e = .returned (.int .i64 (M09.write t p.data.toList x.data.toList).2) ∧ Wrote Rep F v (M09.write t p.data.toList x.data.toList).1 w w' := by
  have HA := Lib.hid (S.find P G p true hp)
  have HX : Hid (M09.write t p.data.toList x.data.toList = if (M08.find t p.data.toList true).2 = 0 then M07.set t (M08.find t p.data.toList true).1 x.data.toList else if (M08.find t p.data.toList true).2 ≠ 5 then (t, (M08.find t p.data.toList true).2) else created t p.data.toList x.data.toList) := rfl
  have HT := Lib.hid (fun w' (h : Below w.heap.size w w') => C.set (C.below P h) G.small)
  have HC := Lib.hid (fun w' (h : Below w.heap.size w w') => create_over C S (C.below P h) G p x hp hx)
  have HN := Lib.hid (fun w' (h : Below w.heap.size w w') => wrote_none C P h)
  clear P G hp
  generalize M09.write t p.data.toList x.data.toList = R at *
  generalize created t p.data.toList x.data.toList = R2 at *
  generalize M08.find t p.data.toList true = Y at *
  obtain ⟨n1, f1⟩ := Y
  dsimp only at HA HX
  by_cases h1 : f1 = 0
  · subst h1
    replace HX := Lib.hid (HX.out.trans (if_pos rfl))
    replace HT := Lib.hid (fun w' h => HT.out w' h n1 x (by unfold maxLen; omega))
    generalize M07.set t n1 x.data.toList = Q at *
    clear HC
    go_enter Tryz.func74, Tryz.ntmps74
    go_wp2_with fail
    refine HA.out.mono ?_
    rintro e w1 ⟨rfl, hb1⟩
    go_wp2_with fail
    refine (HT.out w1 hb1).mono ?_
    rintro e w9 ⟨rfl, hwr⟩
    have W9 := Lib.hid (wrote_after hb1 hwr)
    clear hwr
    go_wp2_with fail
    go_ret
    rw [HX.out]
    exact ⟨rfl, W9.out⟩
  · have t1 : (f1 == 0) = false := by simpa using h1
    replace HX := Lib.hid (HX.out.trans (if_neg h1))
    clear h1 HT
    by_cases h5 : f1 = 5
    · have t5 : (f1 == 5) = true := by simp [h5]
      replace HX := Lib.hid (HX.out.trans (if_neg (fun e => e h5)))
      clear h5
      go_enter Tryz.func74, Tryz.ntmps74
      go_wp2_with fail
      refine HA.out.mono ?_
      rintro e w1 ⟨rfl, hb1⟩
      go_wp2_with fail
      refine (HC.out w1 hb1).mono ?_
      rintro e w9 ⟨rfl, hwr⟩
      have W9 := Lib.hid (wrote_after hb1 hwr)
      clear hwr
      go_wp2_with fail
      go_ret
      rw [HX.out]
      exact ⟨rfl, W9.out⟩
    · have t5 : (f1 == 5) = false := by simpa using h5
      replace HX := Lib.hid (HX.out.trans (if_pos h5))
      clear h5 HC
      go_enter Tryz.func74, Tryz.ntmps74
      go_wp2_with fail
      refine HA.out.mono ?_
      rintro e w1 ⟨rfl, hb1⟩
      go_wp2_with fail
      go_ret
      rw [HX.out]
      exact ⟨rfl, HN.out w1 hb1⟩
end Go.Proofs.YtpihldcchjoinaaGreatDoor.W09
/-
  Layer 9 (posix): the landed code keeps the contracts that the laws ask ('Posix', 'NoPosix'). Conditions: none but those that each theorem bears.
-/
namespace Go.Proofs.YtpihldcchjoinaaGreatDoor.W09
set_option maxRecDepth 100000
open Go Go.RowKit Go.Proofs.YtpihldcchjoinaaGreatDoor.Strs Go.Proofs.YtpihldcchjoinaaGreatDoor.Recs Go.Proofs.YtpihldcchjoinaaGreatDoor.Range
open Go.Proofs.YtpihldcchjoinaaGreatDoor.M07 (Tr Nd nodeAt inDir Right listDir)
open Go.Proofs.YtpihldcchjoinaaGreatDoor.M08 Go.Proofs.YtpihldcchjoinaaGreatDoor.M09
open Go.Proofs.YtpihldcchjoinaaGreatDoor.W07 (Small Trees Wrote listed heap_top)
open Go.Proofs.YtpihldcchjoinaaGreatDoor.W08 (Seeks NoSeek)
open Go.Proofs.YtpihldcchjoinaaGreatDoor.Kit (ret_str ret_bool ret_int mk_of mk_bytes ba_ext below_draws on)

theorem rep_form {F : Nat → Prop} {w : World} {v : Value} {t : Tr} (P : W07.Rep F w v t) : ∃ a, v = .pointer a := by
  obtain ⟨-, sb, mb, lv, rfl, -⟩ := P
  exact ⟨_, rfl⟩
theorem mkdir_over {Rep : (Nat → Prop) → World → Value → Tr → Prop} (C : Trees Rep) (S : Seeks Rep) {F : Nat → Prop} {w : World} {v : Value} {t : Tr} (P : Rep F w v t) (G : Good t) (p : ByteArray) (hp : p.size ≤ 1048576) :
    Calls Tryz.prog 72 #[v, .string p] w fun e w' => e = .returned (.int .i64 (putAt t p.data.toList 1 []).2) ∧ Wrote Rep F v (putAt t p.data.toList 1 []).1 w w' := by
  have HA : Hid (Calls Tryz.prog 99 #[v, .string p, .int .i64 1, .string ⟨#[]⟩] w fun e w' => e = .returned (.int .i64 (putAt t p.data.toList 1 []).2) ∧ Wrote Rep F v (putAt t p.data.toList 1 []).1 w w') := put_over C S P G p ⟨#[]⟩ 1 hp (by decide)
  clear P G hp
  generalize putAt t p.data.toList 1 [] = R at *
  go_enter Tryz.func72, Tryz.ntmps72
  go_wp2_with fail
  refine HA.out.mono ?_
  rintro e w2 ⟨rfl, hwr⟩
  have W2 := Lib.hid hwr
  clear hwr
  go_wp2_with fail
  go_ret
  exact ⟨rfl, W2.out⟩
theorem symlink_over {Rep : (Nat → Prop) → World → Value → Tr → Prop} (C : Trees Rep) (S : Seeks Rep) {F : Nat → Prop} {w : World} {v : Value} {t : Tr} (P : Rep F w v t) (G : Good t) (x p : ByteArray) (hx : x.size ≤ 1048576) (hp : p.size ≤ 1048576) :
    Calls Tryz.prog 73 #[v, .string x, .string p] w fun e w' => e = .returned (.int .i64 (putAt t p.data.toList 3 x.data.toList).2) ∧ Wrote Rep F v (putAt t p.data.toList 3 x.data.toList).1 w w' := by
  have HA := Lib.hid (put_over C S P G p x 3 hp hx)
  clear P G hp
  generalize putAt t p.data.toList 3 x.data.toList = R at *
  go_enter Tryz.func73, Tryz.ntmps73
  go_wp2_with fail
  refine HA.out.mono ?_
  rintro e w2 ⟨rfl, hwr⟩
  have W2 := Lib.hid hwr
  clear hwr
  go_wp2_with fail
  go_ret
  exact ⟨rfl, W2.out⟩
theorem posix : Posix W07.Rep where
  lstat := fun P G p hp => by obtain ⟨a, rfl⟩ := rep_form P; exact lstat_over W07.trees W08.seeks P G p hp
  mkdir := fun P G p hp => mkdir_over W07.trees W08.seeks P G p hp
  symlink := fun P G x p hx hp => symlink_over W07.trees W08.seeks P G x p hx hp
  write := fun P G p x hp hx => write_over W07.trees W08.seeks P G p x hp hx

/-! the calls of a nil pointer -/
end Go.Proofs.YtpihldcchjoinaaGreatDoor.W09
/-
  Layer 12 (dump): what the landed code of the layers below keeps. No condition.
-/
namespace Go.Proofs.YtpihldcchjoinaaGreatDoor.W12
open Go Go.RowKit

theorem full_tree {F : Nat → Prop} {w : World} {v : Value} {t : M07.Tr} (h : W07.Rep F w v t) : ∃ a, v = .pointer (some a) := by
  obtain ⟨-, sb, mb, lv, rfl, -⟩ := h
  exact ⟨_, rfl⟩
end Go.Proofs.YtpihldcchjoinaaGreatDoor.W12
/-
  Layer 12 (dump): the landed code keeps the contracts that the law DumpNone asks; so the law holds. Conditions: none but those that the theorem bears.
-/
namespace Go.Proofs.YtpihldcchjoinaaGreatDoor.W12
open Go Go.RowKit Go.Proofs.YtpihldcchjoinaaGreatDoor.Strs Go.Proofs.YtpihldcchjoinaaGreatDoor.Recs
open Go.Proofs.YtpihldcchjoinaaGreatDoor.M12
open Go.Proofs.YtpihldcchjoinaaGreatDoor.W11
open Go.Proofs.YtpihldcchjoinaaGreatDoor.W08 (Sn Snodes)

theorem dumpNone_law (w : World) (p : ByteArray) (_ : p.size ≤ 140737488351232) (v : Value) (X : List Rw) (_ : RowList w.heap.size w v X) :
    Calls Tryz.prog 6 #[.string p, v] w fun e w' => e = .returned (.bool true) ∧ Below w.heap.size w w' := dumpNone_over W07.trees full_tree W08.seeks W09.posix W08.noSeek w p v
end Go.Proofs.YtpihldcchjoinaaGreatDoor.W12
