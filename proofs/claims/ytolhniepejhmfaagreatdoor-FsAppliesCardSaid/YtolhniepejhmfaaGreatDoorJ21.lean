/-
  Texts joined, in build order, each with its own comment and its own conditions: W03Check, W07Check, W07New2.
-/
import Derived.Test.YtolhniepejhmfaaGreatDoorJ20
import Derived.BigQuiet
/-
  Layer 3 (name), walks: what the program's Check, Right and Plain return. No condition but those that each theorem bears.
-/
namespace Go.Proofs.YtolhniepejhmfaaGreatDoor.W03
set_option maxRecDepth 100000
open Go Go.RowKit Go.Proofs.YtolhniepejhmfaaGreatDoor.Strs Go.Proofs.YtolhniepejhmfaaGreatDoor.M03
open Go.Proofs.YtolhniepejhmfaaGreatDoor.Kit (ret_str ret_bool ret_int mk_of below_draws on list_full list_ne list_none list_nil)

def isPts (l : List UInt8) : Bool := (l == [46]) || (l == [46, 46])
theorem isPoints_any (s : ByteArray) (w : World) :
    Calls Tryz.prog 75 #[.string s] w fun e w' => e = .returned (.bool (isPts s.data.toList)) ∧ w' = w := by
  have HE : Hid (isPts s.data.toList = ((s.toList == [46]) || (s.toList == [46, 46]))) := by
    show isPts _ = _
    rw [Lib.toList_data]; rfl
  cases t1 : (s.toList == [46]) with
  | true =>
    have HX : Hid (isPts s.data.toList = true) := by show isPts _ = _; rw [HE.out, t1]; rfl
    clear HE
    go_enter Tryz.func75, Tryz.ntmps75
    go_wp2
    go_ret
    exact ⟨ret_bool HX.out.symm, rfl⟩
  | false =>
    cases t2 : (s.toList == [46, 46]) with
    | true =>
      have HX : Hid (isPts s.data.toList = true) := by show isPts _ = _; rw [HE.out, t1, t2]; rfl
      clear HE
      go_enter Tryz.func75, Tryz.ntmps75
      go_wp2
      go_ret
      exact ⟨ret_bool HX.out.symm, rfl⟩
    | false =>
      have HX : Hid (isPts s.data.toList = false) := by show isPts _ = _; rw [HE.out, t1, t2]; rfl
      clear HE
      go_enter Tryz.func75, Tryz.ntmps75
      go_wp2
      go_ret
      exact ⟨ret_bool HX.out.symm, rfl⟩
theorem check_of {s : ByteArray} (h0 : 0 < s.size) (h : ¬ (64 : Int) < s.size) : check s.data.toList = if s.data.toList.all goodB = true then (if isPts s.data.toList = true then 6 else 0) else 11 := by
  unfold check
  rw [← Lib.size_eq, if_neg (by omega), if_neg (by omega)]
  have e : s.data.toList.any badByte = !(s.data.toList.all goodB) := by
    rw [List.all_eq_not_any_not, Bool.not_not]
    congr 1
    funext c; simp [goodB]
  rw [e]
  cases s.data.toList.all goodB with
  | false => simp
  | true => simp [isPts]
theorem check_free (s : ByteArray) (w : World) :
    Calls Tryz.prog 52 #[.string s] w fun e w' => e = .returned (.int .i64 (check s.data.toList)) ∧ Below w.heap.size w w' := by
  by_cases h0 : 0 < s.size
  · have z0 := list_full h0
    have z1 := list_ne h0
    by_cases h64 : (64 : Int) < s.size
    · have HE := Lib.hid (check_long h0 h64)
      go_enter Tryz.func52, Tryz.ntmps52
      go_wp2
      go_ret
      exact ⟨ret_int HE.out, Below.refl _ _⟩
    · have HE := Lib.hid (check_of h0 h64)
      have HA := Lib.hid (hasOnly_may s)
      have HP := Lib.hid (isPoints_any s)
      generalize s.data.toList.all goodB = a at *
      generalize isPts s.data.toList = b at *
      have h65 : (s.size : Int) ≤ 64 := by omega
      clear h64
      cases a with
      | false =>
        go_enter Tryz.func52, Tryz.ntmps52
        go_wp2_with fail
        refine (HA.out _).mono ?_
        rintro e w1 ⟨rfl, hb1⟩
        go_wp2
        go_ret
        exact ⟨ret_int (by rw [HE.out]; rfl), hb1⟩
      | true =>
        go_enter Tryz.func52, Tryz.ntmps52
        go_wp2_with fail
        refine (HA.out _).mono ?_
        rintro e w1 ⟨rfl, hb1⟩
        cases b with
        | false =>
          go_wp2_with fail
          refine (HP.out _).mono ?_
          rintro e w2 ⟨rfl, rfl⟩
          go_wp2
          go_ret
          exact ⟨ret_int (by rw [HE.out]; rfl), hb1⟩
        | true =>
          go_wp2_with fail
          refine (HP.out _).mono ?_
          rintro e w2 ⟨rfl, rfl⟩
          go_wp2
          go_ret
          exact ⟨ret_int (by rw [HE.out]; rfl), hb1⟩
  · have z0 := list_none h0
    have z1 := list_nil h0
    have HE := Lib.hid (check_empty h0)
    go_enter Tryz.func52, Tryz.ntmps52
    go_wp2
    go_ret
    exact ⟨ret_int HE.out, Below.refl _ _⟩
theorem check_any (s : ByteArray) (_hs : s.size ≤ 140737488351232) (w : World) :
    Calls Tryz.prog 52 #[.string s] w fun e w' => e = .returned (.int .i64 (check s.data.toList)) ∧ Below w.heap.size w w' := check_free s w
theorem check_full {s : ByteArray} (h : check s.data.toList = 0) : 0 < s.size := by
  rcases Nat.eq_zero_or_pos s.size with e | e
  · exfalso; revert h; unfold check; rw [← Lib.size_eq, if_pos e]; decide
  · exact e
end Go.Proofs.YtolhniepejhmfaaGreatDoor.W03
/-
  Layer 7 (tree), walks: the landed code's checks: checkDir, checkData, checkPlace, within, checkMove, checkReplace. The bounds stand in the statements.
-/
namespace Go.Proofs.YtolhniepejhmfaaGreatDoor.W07
set_option maxRecDepth 100000
open Go Go.RowKit Go.Proofs.YtolhniepejhmfaaGreatDoor.Strs Go.Proofs.YtolhniepejhmfaaGreatDoor.Recs Go.Proofs.YtolhniepejhmfaaGreatDoor.M07 Go.Proofs.YtolhniepejhmfaaGreatDoor.Maps Go.Proofs.YtolhniepejhmfaaGreatDoor.Range
open Go.Proofs.YtolhniepejhmfaaGreatDoor.M06 (Ent)
open Go.Proofs.YtolhniepejhmfaaGreatDoor.M03 (check)
open Go.Proofs.YtolhniepejhmfaaGreatDoor.W06 (Ents HandsE)
open Go.Proofs.YtolhniepejhmfaaGreatDoor.Kit (ret_str ret_bool ret_int mk_of mk_bytes ba_ext below_draws on list_full list_ne list_none list_nil bytes_nil)

section
variable {F : Nat → Prop} {w w1 w2 : World} {sb mb : Nat} {g : Int → Nod} {lv : Int → Value} {last : Int} {m : Nat}
/-- why nothing can stand in a node -/
def dirN (x : Nod) : Int := if x.kind = 0 then 5 else if x.kind = 1 then 0 else 7
set_option maxHeartbeats 1000000 in
theorem checkDir_any (h : Mem F w sb mb g lv last m) (n : Int) : Calls Tryz.prog 51 #[.pointer (some ⟨sb, 0, none⟩), .int .i64 n] w fun e w' => e = .returned (.int .i64 (dirN (g n))) ∧ Below w.heap.size w w' := by
  obtain ⟨A, c, -, hc⟩ := h.node_ n
  have HC := Lib.hid hc
  have hf := nod_kind (g n).kind (g n).up ⟨(g n).data.toArray⟩ A (g n).list.length c
  have HD : Hid (dirN (g n) = if (g n).kind = 0 then 5 else if (g n).kind = 1 then 0 else 7) := rfl
  clear hc h
  generalize dirN (g n) = r at *
  generalize (g n).kind = k at *
  generalize (g n).up = up at *
  generalize (g n).data = data at *
  generalize (g n).list.length = ln at *
  by_cases h0 : k = 0
  · have HX : Hid (r = 5) := HD.out.trans (if_pos h0)
    subst h0
    go_enter Tryz.func51, Tryz.ntmps51
    go_wp2_with fail
    refine HC.out.mono ?_
    rintro e w1 ⟨rfl, hb⟩
    go_wp2_with fail
    go_ret
    exact ⟨ret_int HX.out.symm, hb⟩
  · by_cases h1 : k = 1
    · have HX : Hid (r = 0) := HD.out.trans ((if_neg h0).trans (if_pos h1))
      subst h1
      go_enter Tryz.func51, Tryz.ntmps51
      go_wp2_with fail
      refine HC.out.mono ?_
      rintro e w1 ⟨rfl, hb⟩
      go_wp2_with fail
      go_ret
      exact ⟨ret_int HX.out.symm, hb⟩
    · have HX : Hid (r = 7) := HD.out.trans ((if_neg h0).trans (if_neg h1))
      have t0 : (k == 0) = false := by simpa using h0
      have t1 : (k == 1) = false := by simpa using h1
      clear h0 h1
      go_enter Tryz.func51, Tryz.ntmps51
      go_wp2_with fail
      refine HC.out.mono ?_
      rintro e w1 ⟨rfl, hb⟩
      go_wp2_with fail
      go_ret
      exact ⟨ret_int HX.out.symm, hb⟩
set_option maxHeartbeats 1000000 in
theorem checkData_any (kind : Int) (s : ByteArray) (w : World) :
    Calls Tryz.prog 37 #[.int .i64 kind, .string s] w fun e w' => e = .returned (.int .i64 (mayErr kind s.data.toList)) ∧ w' = w := by
  have HL := Lib.hid (Lib.size_eq s)
  by_cases hk : kind = 1 ∨ kind = 2 ∨ kind = 3
  · have HM : Hid (mayErr kind s.data.toList = if (kind = 1 ∧ s.data.toList ≠ []) ∨ (kind = 3 ∧ s.data.toList = []) then 3 else if 65536 < s.data.toList.length then 4 else 0) := if_neg (by omega)
    by_cases h0 : 0 < s.size
    · have hf := list_full h0
      have hn := list_ne h0
      have hne : s.data.toList ≠ [] := Kit.bytes_ne h0
      have HX : Hid (kind ≠ 1 → mayErr kind s.data.toList = if 65536 < s.data.toList.length then 4 else 0) := fun h1 => HM.out.trans (if_neg (by rintro (e | e); exact h1 e.1; exact hne e.2))
      have HY : Hid (kind = 1 → mayErr kind s.data.toList = 3) := fun h1 => HM.out.trans (if_pos (Or.inl ⟨h1, hne⟩))
      rw [← HL.out] at HX
      clear hne HM
      generalize mayErr kind s.data.toList = r at *
      rcases hk with rfl | rfl | rfl
      · go_enter Tryz.func37, Tryz.ntmps37
        go_wp2_with fail
        go_ret
        exact ⟨ret_int (HY.out (by trivial)).symm, rfl⟩
      all_goals
        by_cases hbig : (65536 : Int) < s.size
        · have HZ : Hid (r = 4) := (HX.out (by decide)).trans (if_pos (by omega))
          go_enter Tryz.func37, Tryz.ntmps37
          go_wp2_with fail
          go_ret
          exact ⟨ret_int HZ.out.symm, rfl⟩
        · have HZ : Hid (r = 0) := (HX.out (by decide)).trans (if_neg (by omega))
          go_enter Tryz.func37, Tryz.ntmps37
          go_wp2_with fail
          go_ret
          exact ⟨ret_int HZ.out.symm, rfl⟩
    · have hf := list_none h0
      have hn := list_nil h0
      have hne : s.data.toList = [] := bytes_nil h0
      have hz : ¬ (65536 : Int) < s.size := by omega
      have HX : Hid (kind ≠ 3 → mayErr kind s.data.toList = 0) := fun h1 => HM.out.trans ((if_neg (by rintro (e | e); exact e.2 hne; exact h1 e.1)).trans (if_neg (by rw [hne]; simp)))
      have HY : Hid (kind = 3 → mayErr kind s.data.toList = 3) := fun h1 => HM.out.trans (if_pos (Or.inr ⟨h1, hne⟩))
      clear hne HM HL
      generalize mayErr kind s.data.toList = r at *
      rcases hk with rfl | rfl | rfl
      all_goals
        go_enter Tryz.func37, Tryz.ntmps37
        go_wp2_with fail
        go_ret
        exact ⟨ret_int (by first | exact (HX.out (by decide)).symm | exact (HY.out (by trivial)).symm), rfl⟩
  · have HX : Hid (mayErr kind s.data.toList = 2) := if_pos (by omega)
    have t1 : (kind == 1) = false := by simp; omega
    have t2 : (kind == 2) = false := by simp; omega
    have t3 : (kind == 3) = false := by simp; omega
    have k1 : (kind != 1) = true := by simp; omega
    have k2 : (kind != 2) = true := by simp; omega
    have k3 : (kind != 3) = true := by simp; omega
    clear hk
    generalize mayErr kind s.data.toList = r at *
    go_enter Tryz.func37, Tryz.ntmps37
    go_wp2_with fail
    go_ret
    exact ⟨ret_int HX.out.symm, rfl⟩
/-- a node's list, as Find is asked for a name in it -/
theorem Mem.find_ (h : Mem F w sb mb g lv last m) (hs : Short g) (n : Int) (s : ByteArray) : ∃ A c, lv n = .slice A (g n).list.length c ∧
    (Calls Tryz.prog 48 #[.pointer (some ⟨sb, 0, none⟩), .int .i64 n] w fun e w' => e = .returned (.agg #[.int .i64 (g n).kind, .int .i64 (g n).up, .string ⟨(g n).data.toArray⟩, .slice A (g n).list.length c]) ∧ Below w.heap.size w w') ∧
    (∀ w', Below w.heap.size w w' → Calls Tryz.prog 53 #[.slice A (g n).list.length c, .string s] w' fun e w2 => e = .returned (.tuple #[.int .i64 (M06.find (M06.all (g n).list) s.data.toList).1, .bool (M06.find (M06.all (g n).list) s.data.toList).2]) ∧ Below w'.heap.size w' w2) ∧
    (∀ w, (Instr.field 89 (.agg #[.int .i64 (g n).kind, .int .i64 (g n).up, .string ⟨(g n).data.toArray⟩, .slice A (g n).list.length c]) 3).run Tryz.prog w = .ok (.slice A (g n).list.length c) w) := by
  obtain ⟨A, c, e, hc⟩ := h.node_ n
  have hE := h.list n
  rw [e] at hE
  have hl := hs n
  exact ⟨A, c, e, hc, fun w' hb => W06.find_any _ _ w' s ((hE.below hb).more hb.size) (by omega), nod_list _ _ _ _ _ _⟩
/-- why no new node can stand in a directory by a name -/
def placeN (x : Nod) (s : Bytes) : Int := if dirN x ≠ 0 then dirN x else if check s ≠ 0 then check s else if (M06.find (M06.all x.list) s).2 = true then 6 else 0
set_option maxHeartbeats 2000000 in
theorem checkPlace_any (h : Mem F w sb mb g lv last m) (hs : Short g) (n : Int) (s : ByteArray) : Calls Tryz.prog 36 #[.pointer (some ⟨sb, 0, none⟩), .int .i64 n, .string s] w fun e w' => e = .returned (.int .i64 (placeN (g n) s.data.toList)) ∧ Below w.heap.size w w' := by
  have HD := Lib.hid (checkDir_any h n)
  have HK := Lib.hid (fun w' : World => W03.check_free s w')
  have HF := Lib.hid (fun (w' : World) (hb : Below w.heap.size w w') => (h.below hb).find_ hs n s)
  have HP : Hid (placeN (g n) s.data.toList = if dirN (g n) ≠ 0 then dirN (g n) else if check s.data.toList ≠ 0 then check s.data.toList else if (M06.find (M06.all (g n).list) s.data.toList).2 = true then 6 else 0) := rfl
  clear h hs
  generalize placeN (g n) s.data.toList = r at *
  generalize (M06.find (M06.all (g n).list) s.data.toList).2 = fd at *
  generalize (M06.find (M06.all (g n).list) s.data.toList).1 = fn at *
  generalize dirN (g n) = rd at *
  generalize check s.data.toList = rc at *
  by_cases hd : rd = 0
  · have HP : Hid (r = if rc ≠ 0 then rc else if fd = true then 6 else 0) := HP.out.trans (if_neg (show ¬ rd ≠ 0 from fun e => e hd))
    subst hd
    by_cases hc : rc = 0
    · have HP : Hid (r = if fd = true then 6 else 0) := HP.out.trans (if_neg (show ¬ rc ≠ 0 from fun e => e hc))
      subst hc
      go_enter Tryz.func36, Tryz.ntmps36
      go_wp2_with fail
      refine HD.out.mono ?_
      rintro e w1 ⟨rfl, hb⟩
      have B1 := Lib.hid hb
      clear hb
      go_wp2_with fail
      refine (HK.out w1).mono ?_
      rintro e w2 ⟨rfl, hb⟩
      have B2 := Lib.hid (on B1.out hb)
      clear hb
      obtain ⟨A, c, -, hn, hfd, hfl⟩ := HF.out w2 B2.out
      have HN := Lib.hid hn
      have HFD := Lib.hid hfd
      clear hn hfd
      go_wp2_with fail
      refine HN.out.mono ?_
      rintro e w3 ⟨rfl, hb⟩
      have HFD := Lib.hid (HFD.out w3 hb)
      have B3 := Lib.hid (on B2.out hb)
      clear hb
      go_wp2_with fail
      refine HFD.out.mono ?_
      rintro e w4 ⟨rfl, hb⟩
      have B4 := Lib.hid (on B3.out hb)
      clear hb HN HFD hfl HF
      cases fd with
      | true =>
        have HX : Hid (r = 6) := HP.out
        go_wp2_with fail
        go_ret
        exact ⟨ret_int HX.out.symm, B4.out⟩
      | false =>
        have HX : Hid (r = 0) := HP.out
        go_wp2_with fail
        go_ret
        exact ⟨ret_int HX.out.symm, B4.out⟩
    · have HX : Hid (r = rc) := HP.out.trans (if_pos hc)
      have t1 : (rc == 0) = false := by simpa using hc
      go_enter Tryz.func36, Tryz.ntmps36
      go_wp2_with fail
      refine HD.out.mono ?_
      rintro e w1 ⟨rfl, hb⟩
      have B1 := Lib.hid hb
      clear hb
      go_wp2_with fail
      refine (HK.out w1).mono ?_
      rintro e w2 ⟨rfl, hb⟩
      have B2 := Lib.hid (on B1.out hb)
      clear hb
      go_wp2_with fail
      go_ret
      exact ⟨ret_int HX.out.symm, B2.out⟩
  · have HX : Hid (r = rd) := HP.out.trans (if_pos hd)
    have t1 : (rd == 0) = false := by simpa using hd
    go_enter Tryz.func36, Tryz.ntmps36
    go_wp2_with fail
    refine HD.out.mono ?_
    rintro e w1 ⟨rfl, hb⟩
    have B1 := Lib.hid hb
    clear hb
    go_wp2_with fail
    go_ret
    exact ⟨ret_int HX.out.symm, B1.out⟩
/-- whether a directory is a node, or stands in it -/
theorem within_any {t : Tr} (hR : Right t) (h : Mem F w sb mb (plainN t) lv last m) (dst n : Int) (hk : (nodeAt t.L dst).kind ≠ 0) : ∃ b, (b = true ↔ Inside t.L n dst) ∧
    Calls Tryz.prog 112 #[.pointer (some ⟨sb, 0, none⟩), .int .i64 dst, .int .i64 n] w fun e w' => e = .returned (.bool b) ∧ Below w.heap.size w w' := by
  classical
  obtain ⟨r, hr⟩ : ∃ r, decide (Inside t.L n dst) = r := ⟨_, rfl⟩
  refine ⟨r, by rw [← hr]; simp, ?_⟩
  have HX := Lib.hid hr
  clear hr
  have HR := Lib.hid (hR.reach hk)
  have HN := Lib.hid (fun (w' : World) (hb : Below w.heap.size w w') (k : Int) => (h.below hb).node_ k)
  clear h hk
  go_enter Tryz.func112, Tryz.ntmps112
  go_wp2_with fail
  go_loopw [1] (fun k5 wr => ∃ k : Int, k5 = .int .i64 k ∧ Hid (Inside t.L n dst ↔ Inside t.L n k) ∧ Hid (∃ j, upN t.L j k = 1) ∧ Hid (Below w.heap.size w wr)) (fun k5 _ => height t.L (intOf k5))
  case atStart => exact ⟨dst, rfl, Iff.rfl, HR.out, Below.refl _ _⟩
  case round =>
    clear HR
    obtain ⟨k, rfl, hin, hrch, hb⟩ := hrel
    by_cases kn : k = n
    · have HZ : Hid (r = true) := HX.out.symm.trans (decide_eq_true (hin.out.2 (by rw [kn]; exact inside_here _ _)))
      clear hin
      subst kn
      go_wp2_with fail
      go_ret
      exact ⟨ret_bool HZ.out.symm, hb.out⟩
    · have t1 : (k == n) = false := by simpa using kn
      have s1 : (k != n) = true := by simpa using kn
      by_cases kr : k = 1
      · have HZ : Hid (r = false) := HX.out.symm.trans (decide_eq_false fun e => by
          have e2 := hin.out.1 e
          rw [kr] at e2
          exact inside_root (fun e3 => kn (kr.trans e3.symm)) e2)
        clear hin hrch
        subst kr
        go_wp2_with fail
        go_ret
        exact ⟨ret_bool HZ.out.symm, hb.out⟩
      · have t2 : (k == 1) = false := by simpa using kr
        have s2 : (k != 1) = true := by simpa using kr
        have HIN := Lib.hid (hin.out.trans (inside_up kn kr))
        have HH := Lib.hid (height_up hrch.out kr)
        obtain ⟨A, c, -, hc⟩ := HN.out wr hb.out k
        have HC := Lib.hid hc
        have hf := nod_up (plainN t k).kind (plainN t k).up ⟨(plainN t k).data.toArray⟩ A (plainN t k).list.length c
        clear hc hin hrch
        go_wp2_with fail
        refine HC.out.mono ?_
        rintro e w1 ⟨rfl, hb2⟩
        have B2 := Lib.hid (on hb.out hb2)
        clear hb2
        go_wp2_with fail
        go_roundw
        case rel => exact ⟨(plainN t k).up, rfl, HIN, HH.out.1, B2⟩
        case measure => exact HH.out.2
set_option maxHeartbeats 1000000 in
theorem checkMove_any {t : Tr} (hR : Right t) (h : Mem F w sb mb (plainN t) lv last m) (n dst : Int) (s : ByteArray) (hk : (nodeAt t.L dst).kind ≠ 0) : ∃ r, (check s.data.toList ≠ 0 → r = check s.data.toList) ∧ (check s.data.toList = 0 → Inside t.L n dst → r = 14) ∧ (check s.data.toList = 0 → ¬ Inside t.L n dst → r = 0) ∧
    Calls Tryz.prog 103 #[.pointer (some ⟨sb, 0, none⟩), .int .i64 n, .int .i64 dst, .string s] w fun e w' => e = .returned (.int .i64 r) ∧ Below w.heap.size w w' := by
  have HK := Lib.hid (W03.check_free s w)
  by_cases hc : check s.data.toList = 0
  · rw [hc] at HK ⊢
    by_cases hi : Inside t.L n dst
    · refine ⟨14, fun e => absurd rfl e, fun _ _ => rfl, fun _ e => absurd hi e, ?_⟩
      have HW := Lib.hid (fun (w' : World) (hb : Below w.heap.size w w') => within_any hR (h.below hb) dst n hk)
      have HI := Lib.hid hi
      clear h hk hc hi
      go_enter Tryz.func103, Tryz.ntmps103
      go_wp2_with fail
      refine HK.out.mono ?_
      rintro e w1 ⟨rfl, hb⟩
      have B1 := Lib.hid hb
      clear hb
      obtain ⟨b, hb, hw⟩ := HW.out w1 B1.out
      have hb := hb.2 HI.out
      subst hb
      have HW := Lib.hid hw
      clear hw
      go_wp2_with fail
      refine HW.out.mono ?_
      rintro e w2 ⟨rfl, hb⟩
      have B2 := Lib.hid (on B1.out hb)
      clear hb
      go_wp2_with fail
      go_ret
      exact ⟨rfl, B2.out⟩
    · refine ⟨0, fun e => absurd rfl e, fun _ e => absurd e hi, fun _ _ => rfl, ?_⟩
      have HW := Lib.hid (fun (w' : World) (hb : Below w.heap.size w w') => within_any hR (h.below hb) dst n hk)
      have HI := Lib.hid hi
      clear h hk hc hi
      go_enter Tryz.func103, Tryz.ntmps103
      go_wp2_with fail
      refine HK.out.mono ?_
      rintro e w1 ⟨rfl, hb⟩
      have B1 := Lib.hid hb
      clear hb
      obtain ⟨b, hb, hw⟩ := HW.out w1 B1.out
      have hb : b = false := by
        cases b with
        | false => rfl
        | true => exact absurd (hb.1 rfl) HI.out
      subst hb
      have HW := Lib.hid hw
      clear hw
      go_wp2_with fail
      refine HW.out.mono ?_
      rintro e w2 ⟨rfl, hb⟩
      have B2 := Lib.hid (on B1.out hb)
      clear hb
      go_wp2_with fail
      go_ret
      exact ⟨rfl, B2.out⟩
  · refine ⟨check s.data.toList, fun _ => rfl, fun e => absurd e hc, fun e => absurd e hc, ?_⟩
    generalize check s.data.toList = rc at *
    have t1 : (rc == 0) = false := by simpa using hc
    have s1 : (rc != 0) = true := by simpa using hc
    clear h hk
    go_enter Tryz.func103, Tryz.ntmps103
    go_wp2_with fail
    refine HK.out.mono ?_
    rintro e w1 ⟨rfl, hb⟩
    go_wp2_with fail
    go_ret
    exact ⟨rfl, hb⟩
/-- why a node can't make room for another one -/
def replaceN (a b : Nod) : Int := if a.kind = 1 ∧ b.kind ≠ 1 then 8 else if a.kind ≠ 1 ∧ b.kind = 1 then 7 else if 0 < a.list.length then 9 else 0
set_option maxHeartbeats 2000000 in
theorem checkReplace_any (h : Mem F w sb mb g lv last m) (th n : Int) : Calls Tryz.prog 104 #[.pointer (some ⟨sb, 0, none⟩), .int .i64 th, .int .i64 n] w fun e w' => e = .returned (.int .i64 (replaceN (g th) (g n))) ∧ Below w.heap.size w w' := by
  obtain ⟨A, c, -, hc⟩ := h.node_ th
  have HC := Lib.hid hc
  have HN := Lib.hid (fun (w' : World) (hb : Below w.heap.size w w') => (h.below hb).node_ n)
  have HP : Hid (replaceN (g th) (g n) = if (g th).kind = 1 ∧ (g n).kind ≠ 1 then 8 else if (g th).kind ≠ 1 ∧ (g n).kind = 1 then 7 else if 0 < (g th).list.length then 9 else 0) := rfl
  clear hc h
  generalize replaceN (g th) (g n) = r at *
  generalize (g th).kind = ko at *
  generalize (g th).up = uo at *
  generalize (g th).data = dto at *
  generalize (g th).list.length = lo at *
  generalize (g n).kind = kn at *
  generalize (g n).up = un at *
  generalize (g n).data = dn at *
  have hfn := fun A2 c2 => nod_kind kn un ⟨dn.toArray⟩ A2 (g n).list.length c2
  have t1 : ∀ k : Int, (k != 1) = !(k == 1) := fun k => rfl
  cases ho : (ko == 1) with
  | true =>
    have e1 : ko = 1 := by simpa using ho
    subst e1
    clear ho
    cases hn : (kn == 1) with
    | true =>
      have e2 : kn = 1 := by simpa using hn
      subst e2
      clear hn
      have HP : Hid (r = if 0 < lo then 9 else 0) := HP.out.trans ((if_neg (by simp)).trans (if_neg (by simp)))
      by_cases hl : (0 : Int) < lo
      · have HX : Hid (r = 9) := HP.out.trans (if_pos (by omega))
        go_enter Tryz.func104, Tryz.ntmps104
        go_wp2_with fail
        refine HC.out.mono ?_
        rintro e w1 ⟨rfl, hb⟩
        have B1 := Lib.hid hb
        obtain ⟨A2, c2, -, hn2⟩ := HN.out w1 hb
        have HN := Lib.hid hn2
        have hf := hfn A2 c2
        clear hb hn2 hfn
        go_wp2_with fail
        refine HN.out.mono ?_
        rintro e w2 ⟨rfl, hb⟩
        have B2 := Lib.hid (on B1.out hb)
        clear hb
        go_wp2_with fail
        go_ret
        exact ⟨ret_int HX.out.symm, B2.out.alloc B2.out.size _⟩
      · have HX : Hid (r = 0) := HP.out.trans (if_neg (by omega))
        go_enter Tryz.func104, Tryz.ntmps104
        go_wp2_with fail
        refine HC.out.mono ?_
        rintro e w1 ⟨rfl, hb⟩
        have B1 := Lib.hid hb
        obtain ⟨A2, c2, -, hn2⟩ := HN.out w1 hb
        have HN := Lib.hid hn2
        have hf := hfn A2 c2
        clear hb hn2 hfn
        go_wp2_with fail
        refine HN.out.mono ?_
        rintro e w2 ⟨rfl, hb⟩
        have B2 := Lib.hid (on B1.out hb)
        clear hb
        go_wp2_with fail
        go_ret
        exact ⟨ret_int HX.out.symm, B2.out.alloc B2.out.size _⟩
    | false =>
      have e2 : kn ≠ 1 := by simpa using hn
      have HX : Hid (r = 8) := HP.out.trans (if_pos ⟨rfl, e2⟩)
      clear e2
      go_enter Tryz.func104, Tryz.ntmps104
      go_wp2_with fail
      refine HC.out.mono ?_
      rintro e w1 ⟨rfl, hb⟩
      have B1 := Lib.hid hb
      obtain ⟨A2, c2, -, hn2⟩ := HN.out w1 hb
      have HN := Lib.hid hn2
      have hf := hfn A2 c2
      clear hb hn2 hfn
      go_wp2_with fail
      refine HN.out.mono ?_
      rintro e w2 ⟨rfl, hb⟩
      have B2 := Lib.hid (on B1.out hb)
      clear hb
      go_wp2_with fail
      go_ret
      exact ⟨ret_int HX.out.symm, B2.out.alloc B2.out.size _⟩
  | false =>
    have e1 : ko ≠ 1 := by simpa using ho
    have s1 : (ko != 1) = true := by simpa using ho
    cases hn : (kn == 1) with
    | true =>
      have e2 : kn = 1 := by simpa using hn
      subst e2
      clear hn
      have HX : Hid (r = 7) := HP.out.trans ((if_neg (by simp)).trans (if_pos ⟨e1, rfl⟩))
      clear e1
      go_enter Tryz.func104, Tryz.ntmps104
      go_wp2_with fail
      refine HC.out.mono ?_
      rintro e w1 ⟨rfl, hb⟩
      have B1 := Lib.hid hb
      obtain ⟨A2, c2, -, hn2⟩ := HN.out w1 hb
      have HN := Lib.hid hn2
      have hf := hfn A2 c2
      clear hb hn2 hfn
      go_wp2_with fail
      refine HN.out.mono ?_
      rintro e w2 ⟨rfl, hb⟩
      have B2 := Lib.hid (on B1.out hb)
      clear hb
      go_wp2_with fail
      go_ret
      exact ⟨ret_int HX.out.symm, B2.out.alloc B2.out.size _⟩
    | false =>
      have e2 : kn ≠ 1 := by simpa using hn
      have HP : Hid (r = if 0 < lo then 9 else 0) := HP.out.trans ((if_neg (fun e => e1 e.1)).trans (if_neg (fun e => e2 e.2)))
      clear e1 e2
      by_cases hl : (0 : Int) < lo
      · have HX : Hid (r = 9) := HP.out.trans (if_pos (by omega))
        go_enter Tryz.func104, Tryz.ntmps104
        go_wp2_with fail
        refine HC.out.mono ?_
        rintro e w1 ⟨rfl, hb⟩
        have B1 := Lib.hid hb
        obtain ⟨A2, c2, -, hn2⟩ := HN.out w1 hb
        have HN := Lib.hid hn2
        have hf := hfn A2 c2
        clear hb hn2 hfn
        go_wp2_with fail
        refine HN.out.mono ?_
        rintro e w2 ⟨rfl, hb⟩
        have B2 := Lib.hid (on B1.out hb)
        clear hb
        go_wp2_with fail
        go_ret
        exact ⟨ret_int HX.out.symm, B2.out.alloc B2.out.size _⟩
      · have HX : Hid (r = 0) := HP.out.trans (if_neg (by omega))
        go_enter Tryz.func104, Tryz.ntmps104
        go_wp2_with fail
        refine HC.out.mono ?_
        rintro e w1 ⟨rfl, hb⟩
        have B1 := Lib.hid hb
        obtain ⟨A2, c2, -, hn2⟩ := HN.out w1 hb
        have HN := Lib.hid hn2
        have hf := hfn A2 c2
        clear hb hn2 hfn
        go_wp2_with fail
        refine HN.out.mono ?_
        rintro e w2 ⟨rfl, hb⟩
        have B2 := Lib.hid (on B1.out hb)
        clear hb
        go_wp2_with fail
        go_ret
        exact ⟨ret_int HX.out.symm, B2.out.alloc B2.out.size _⟩
end
end Go.Proofs.YtolhniepejhmfaaGreatDoor.W07
/-
  Layer 7 (tree), walks: the landed code's New and Set; what it is that a pointer leads to a tree. The bounds stand in the statements.
-/
namespace Go.Proofs.YtolhniepejhmfaaGreatDoor.W07
set_option maxRecDepth 100000
open Go Go.RowKit Go.Proofs.YtolhniepejhmfaaGreatDoor.Strs Go.Proofs.YtolhniepejhmfaaGreatDoor.Recs Go.Proofs.YtolhniepejhmfaaGreatDoor.M07 Go.Proofs.YtolhniepejhmfaaGreatDoor.Maps Go.Proofs.YtolhniepejhmfaaGreatDoor.Range
open Go.Proofs.YtolhniepejhmfaaGreatDoor.M06 (Ent)
open Go.Proofs.YtolhniepejhmfaaGreatDoor.M03 (check)
open Go.Proofs.YtolhniepejhmfaaGreatDoor.W06 (Ents HandsE)
open Go.Proofs.YtolhniepejhmfaaGreatDoor.Kit (ret_str ret_bool ret_int mk_of mk_bytes ba_ext below_draws on list_full list_ne list_none list_nil bytes_nil)

/-- in w the pointer v leads to a tree that reads as t and lies in the blocks of F -/
def Rep (F : Nat → Prop) (w : World) (v : Value) (t : Tr) : Prop := Right t ∧ ∃ sb mb lv, v = .pointer (some ⟨sb, 0, none⟩) ∧ Mem F w sb mb (plainN t) lv t.last t.L.length
section
variable {F : Nat → Prop} {w w' w1 w2 : World} {v : Value} {t : Tr}
theorem plain_short (hs : Small t) : Short (plainN t) := fun n => by
  show (listed t n).length ≤ _
  unfold listed
  have h1 := hs.1
  split
  · have := M07.list_len t.L n; omega
  · simp
theorem Rep.keep (h : Rep F w v t) (hk : ∀ k, F k → w'.heap[k]? = w.heap[k]?) (hs : w.heap.size ≤ w'.heap.size) : Rep F w' v t := by
  obtain ⟨hR, sb, mb, lv, e, h⟩ := h
  exact ⟨hR, sb, mb, lv, e, h.keep hk hs⟩
theorem Rep.low (h : Rep F w v t) : ∀ k, F k → k < w.heap.size := by
  obtain ⟨hR, sb, mb, lv, e, h⟩ := h
  exact h.low
/-- nothing but new memory has turned -/
theorem Rep.wrote (h : Rep F w v t) (hb : Below w.heap.size w w') : Wrote Rep F v t w w' :=
  ⟨F, h.keep (fun k hk => hb.block k (h.low k hk)) hb.size, Turns.new hb, fun _ => Or.inl⟩
theorem plain_new (n : Int) : plainN M07.new n = if n = 1 then ⟨1, 1, [], []⟩ else nod0 := by
  by_cases e : n = 1
  · subst e; rfl
  · rw [if_neg e]
    have h : nodeAt M07.new.L n = M07.zero := by
      show (if (1 : Int) = n then _ else _) = _
      rw [if_neg (fun h => e h.symm)]; rfl
    unfold plainN listed
    rw [h]; rfl
theorem mem_new {w w1 : World} {mb : Nat} (hmap : MapIs w1 Tryz.prog 3 mb (upd (fun _ => none) 1 (some (.agg #[.int .i64 1, .int .i64 1, .string ⟨#[]⟩, .slice none 0 0]))) 1) (hb : w.heap.size ≤ mb) :
    Mem (fun k => w.heap.size ≤ k ∧ k < w1.heap.size + 1) (w1.alloc (.cells #[.map (some mb), .int .i64 1] 87)) w1.heap.size mb (plainN M07.new) (fun _ => .slice none 0 0) 1 1 := by
  have hlt := hmap.lt
  refine ⟨heap_top _ _, ⟨by omega, by omega⟩, ⟨hb, by omega⟩, fun k hk => by rw [World.size_alloc]; exact hk.2, (hmap.alloc _).as (fun i => ?_) rfl, fun n hn => ⟨?_, rfl⟩, fun n => ?_, fun n b o c d _ e => by cases e⟩
  · unfold upd held
    rw [plain_new]
    by_cases e : i = 1
    · subst e; rfl
    · simp [e, nod0]
  · rw [plain_new] at hn ⊢
    by_cases e : n = 1
    · subst e; exact absurd hn (by decide)
    · rw [if_neg e]
  · rw [plain_new]
    by_cases e : n = 1
    · rw [if_pos e]; exact recs_nil _ _ _ _
    · rw [if_neg e]; exact recs_nil _ _ _ _
set_option maxHeartbeats 1000000 in
theorem new_any (w : World) : Calls Tryz.prog 22 #[] w fun e w' => ∃ v F, e = .returned v ∧ Rep F w' v M07.new ∧ (∀ k, F k → w.heap.size ≤ k) ∧ Below w.heap.size w w' := by
  have hmm := @run_makeMap Tryz.prog
  have hst := (map_made w Tryz.prog 3).store (t := 85) (e := 89) key_under map_under (by decide) (n := 1) (by decide) (.agg #[.int .i64 1, .int .i64 1, .string ⟨#[]⟩, .slice none 0 0])
  obtain ⟨w1, hrun, map1, turn1⟩ := hst
  have M1 := Lib.hid (mem_new (w := w) map1 (Nat.le_refl _))
  have B1 : Hid (Below w.heap.size w w1) := ((Below.refl w.heap.size w).alloc (Nat.le_refl _) _).grown turn1.grown (by simp) (fun k hk => by cases hk; exact Nat.le_refl _)
  clear map1 turn1
  go_enter Tryz.func22, Tryz.ntmps22
  go_wp2_with fail
  go_ret
  exact ⟨_, _, rfl, ⟨new_right, _, _, _, rfl, M1.out⟩, fun _ hk => hk.1, B1.out.alloc B1.out.size _⟩
theorem open_data {sb mb : Nat} {g : Int → Nod} {lv : Int → Value} {last : Int} {m : Nat} (h : Mem F w sb mb g lv last m) (x : Nod) (u : Value) (s : ByteArray) :
    Mem F ((w.alloc (.cells #[.int .i64 x.kind, .int .i64 x.up, .string ⟨x.data.toArray⟩, u] 89)).setCell ⟨w.heap.size, 2, none⟩ (.string s)) sb mb g lv last m ∧ NodBox ((w.alloc (.cells #[.int .i64 x.kind, .int .i64 x.up, .string ⟨x.data.toArray⟩, u] 89)).setCell ⟨w.heap.size, 2, none⟩ (.string s)) w.heap.size { x with data := s.data.toList } u ∧ Below w.heap.size w ((w.alloc (.cells #[.int .i64 x.kind, .int .i64 x.up, .string ⟨x.data.toArray⟩, u] 89)).setCell ⟨w.heap.size, 2, none⟩ (.string s)) := by
  have hB : Below w.heap.size w ((w.alloc (.cells #[.int .i64 x.kind, .int .i64 x.up, .string ⟨x.data.toArray⟩, u] 89)).setCell ⟨w.heap.size, 2, none⟩ (.string s)) := ((Below.refl _ _).alloc (Nat.le_refl _) _).setCell (Nat.le_refl _) _
  exact ⟨h.below hB, (NodBox.new w x u).set2 s, hB⟩
theorem with_len (t : Tr) (x : Nd) : (withNode t x).L.length = t.L.length := by show (t.L.map _).length = _; rw [List.length_map]
set_option maxHeartbeats 4000000 in
theorem set_any (h : Rep F w v t) (hs : Small t) (n : Int) (x : ByteArray) : Calls Tryz.prog 86 #[v, .int .i64 n, .string x] w fun e w' => e = .returned (.int .i64 (M07.set t n x.data.toList).2) ∧ Wrote Rep F v (M07.set t n x.data.toList).1 w w' := by
  have hR := Lib.hid h
  obtain ⟨hr, sb, mb, lv, rfl, hM⟩ := h
  have HR := Lib.hid hr
  have H := Lib.hid hM
  obtain ⟨A, c, e, hc⟩ := hM.node_ n
  have HC := Lib.hid hc
  have HS : Hid (M07.set t n x.data.toList = if (nodeAt t.L n).kind = 0 then (t, 5) else if (nodeAt t.L n).kind = 1 then (t, 8) else if mayErr (nodeAt t.L n).kind x.data.toList ≠ 0 then (t, mayErr (nodeAt t.L n).kind x.data.toList) else (withNode t { nodeAt t.L n with data := x.data.toList }, 0)) := rfl
  have HK : Hid ((nodeAt t.L n).kind = (plainN t n).kind) := rfl
  rw [HK.out] at HS
  have HE := Lib.hid e
  have hm := hs.1
  clear hr hM hc hs e
  have HL : Hid ((plainN t n).list.length = (plainN t n).list.length) := rfl
  generalize hln : (plainN t n).list.length = ln at HC HE
  have HLN := Lib.hid hln
  clear hln HL
  by_cases h0 : (plainN t n).kind = 0
  · have HX : Hid (M07.set t n x.data.toList = (t, 5)) := HS.out.trans (if_pos h0)
    rw [h0] at HC
    clear HS HK h0
    generalize (plainN t n).up = un at *
    generalize (plainN t n).data = dn at *
    go_enter Tryz.func86, Tryz.ntmps86
    go_wp2_with fail
    refine HC.out.mono ?_
    rintro e w1 ⟨rfl, hb⟩
    have B1 := Lib.hid hb
    clear hb
    go_wp2_with fail
    go_ret
    rw [HX.out]
    exact ⟨rfl, hR.out.wrote (B1.out.alloc B1.out.size _)⟩
  · by_cases h1 : (plainN t n).kind = 1
    · have HX : Hid (M07.set t n x.data.toList = (t, 8)) := HS.out.trans ((if_neg h0).trans (if_pos h1))
      rw [h1] at HC
      clear HS HK h0 h1
      generalize (plainN t n).up = un at *
      generalize (plainN t n).data = dn at *
      go_enter Tryz.func86, Tryz.ntmps86
      go_wp2_with fail
      refine HC.out.mono ?_
      rintro e w1 ⟨rfl, hb⟩
      have B1 := Lib.hid hb
      clear hb
      go_wp2_with fail
      go_ret
      rw [HX.out]
      exact ⟨rfl, hR.out.wrote (B1.out.alloc B1.out.size _)⟩
    · have HS : Hid (M07.set t n x.data.toList = if mayErr (plainN t n).kind x.data.toList ≠ 0 then (t, mayErr (plainN t n).kind x.data.toList) else (withNode t { nodeAt t.L n with data := x.data.toList }, 0)) := HS.out.trans ((if_neg h0).trans (if_neg h1))
      have HD := Lib.hid (fun w' : World => checkData_any (plainN t n).kind x w')
      have t0 : ((plainN t n).kind == 0) = false := by simpa using h0
      have t1 : ((plainN t n).kind == 1) = false := by simpa using h1
      by_cases hme : mayErr (plainN t n).kind x.data.toList = 0
      · have HX : Hid (M07.set t n x.data.toList = (withNode t { nodeAt t.L n with data := x.data.toList }, 0)) := HS.out.trans (if_neg (show ¬ mayErr (plainN t n).kind x.data.toList ≠ 0 from fun e => e hme))
        have HP := Lib.hid (set_plain HR.out (x := x.data.toList) h0 h1 hme)
        have HRR : Hid (Right (withNode t { nodeAt t.L n with data := x.data.toList })) := by
          have := set_right HR.out (n := n) (data := x.data.toList)
          rw [HX.out] at this
          exact this
        have H0 := Lib.hid h0
        rw [hme] at HD
        clear HS hme h0 h1
        obtain ⟨g, hg⟩ : ∃ g, plainN t = g := ⟨_, rfl⟩
        rw [hg] at HP HLN H H0 HC HD t0 t1
        clear hg HK
        have wfn := Lib.hid (H.out.wf H0.out)
        go_enter Tryz.func86, Tryz.ntmps86
        go_wp2_with fail
        refine HC.out.mono ?_
        rintro e w1 ⟨rfl, hb⟩
        have B1 := Lib.hid hb
        have M1 := Lib.hid (H.out.below hb)
        clear hb
        go_wp2_with fail
        refine (HD.out _).mono ?_
        rintro e w2 ⟨rfl, hw⟩
        have hw := hw.symm
        subst hw
        obtain ⟨q1, q2, q5⟩ := open_data M1.out (g n) (.slice A ln c) x
        obtain ⟨w3, hw3⟩ : ∃ w3, (w1.alloc (.cells #[.int .i64 (g n).kind, .int .i64 (g n).up, .string ⟨(g n).data.toArray⟩, .slice A ln c] 89)).setCell ⟨w1.heap.size, 2, none⟩ (.string x) = w3 := ⟨_, rfl⟩
        rw [hw3] at q1 q2 q5
        have M3 := Lib.hid q1
        have B3 := Lib.hid q5
        have y0 := q2.c0
        have y1 := q2.c1
        have y2 : w3.cell? ⟨w1.heap.size, 2, none⟩ = some (.string x) := by have := q2.c2; rw [show (⟨x.data.toList.toArray⟩ : ByteArray) = x from mk_bytes x] at this; exact this
        have y3 := q2.c3
        have c0 := q1.box.c0
        clear q1 q2 q5
        have hmp : MapIs w3.drew Tryz.prog 3 mb (held g lv) t.L.length := M3.out.map.keep rfl
        have hst := hmp.store (t := 85) (e := 89) key_under map_under (by unfold maxLen; omega) (n := n) wfn.out (.agg #[.int .i64 (g n).kind, .int .i64 (g n).up, .string x, .slice A ln c])
        obtain ⟨w4, hrun, map4, turn4⟩ := hst
        go_wp2_with fail
        clear hw3
        go_region
        go_wp2_with fail
        go_ret
        have e4 : (held g lv n).isSome = true := by rw [H.out.some_ H0.out]; rfl
        rw [if_pos e4] at map4
        rw [HX.out]
        have E3 := (H.out.list n).below (on B1.out B3.out)
        have A3 := H.out.at_ n
        rw [HE.out] at E3 A3
        have M4 := Mem.stored (M3.out.keep (w' := w3.drew) (fun _ _ => rfl) (Nat.le_refl _)) (n := n) (x := { g n with data := x.data.toList }) (u := .slice A ln c) H0.out (E3.more (on B1.out B3.out).size) A3 (by
          have e5 : nodV { g n with data := x.data.toList } (.slice A ln c) = .agg #[.int .i64 (g n).kind, .int .i64 (g n).up, .string x, .slice A ln c] := by
            unfold nodV
            rw [show (⟨x.data.toList.toArray⟩ : ByteArray) = x from mk_bytes x]
          rw [e5]; exact map4) turn4
        rw [← HP.out] at M4
        rw [← with_len t { nodeAt t.L n with data := x.data.toList }] at M4
        exact ⟨rfl, F, ⟨HRR.out, sb, mb, _, rfl, M4⟩, narrow (((Turns.new (on B1.out B3.out)).trans (drew_turns _ _)).trans (turned_turns turn4 (Or.inl H.out.fm))), fun _ => Or.inl⟩
      · have HX : Hid (M07.set t n x.data.toList = (t, mayErr (plainN t n).kind x.data.toList)) := HS.out.trans (if_pos hme)
        generalize mayErr (plainN t n).kind x.data.toList = rc at *
        have s2 : (rc != 0) = true := by simpa using hme
        have s3 : (rc == 0) = false := by simpa using hme
        clear HS HK h0 h1 H HLN HE hme
        generalize (plainN t n).up = un at *
        generalize (plainN t n).data = dn at *
        generalize (plainN t n).kind = kn at *
        go_enter Tryz.func86, Tryz.ntmps86
        go_wp2_with fail
        refine HC.out.mono ?_
        rintro e w1 ⟨rfl, hb⟩
        have B1 := Lib.hid hb
        clear hb
        go_wp2_with fail
        refine (HD.out _).mono ?_
        rintro e w2 ⟨rfl, hw⟩
        have B2 : Hid (Below w.heap.size w w2) := by rw [hw]; exact B1.out.alloc B1.out.size _
        clear hw
        go_wp2_with fail
        go_ret
        rw [HX.out]
        exact ⟨rfl, hR.out.wrote B2.out⟩
end
end Go.Proofs.YtolhniepejhmfaaGreatDoor.W07
