/-
  Texts joined, in build order, each with its own comment and its own conditions: W03Rune, W03May, W03Check, W07Check.
-/
import Derived.Test.YtdnedeeocpaolaaDoorJ02
import Derived.Laws.RangeAny
import Derived.LoopTactic
import Derived.Test.YtdnedeeocpaolaaDoorJ20
import Derived.BigQuiet
/-
  Layer 3 (name), walks over a text's runes: hasOnly asks of each rune what its function says; a byte below 128 is a rune by itself, and what isn't is told by bytes of 128 and above alone. So what hasOnly answers is told by the text's bytes. No condition but those that each theorem bears.
-/
namespace Go.Proofs.YtdnedeeocpaolaaDoor.W03
open Go Go.RowKit Go.Proofs.YtdnedeeocpaolaaDoor.Strs Go.Proofs.YtdnedeeocpaolaaDoor.M03
open Go.Proofs.YtdnedeeocpaolaaDoor.Kit (ret_str ret_bool ret_int mk_of below_draws on take_next take_end byte_eq byte_ne)

theorem get_bang (s : ByteArray) (k : Nat) (h : k < s.size) : s.get! k = s[k] := by
  simp [ByteArray.get!, getElem!_pos, h]; rfl
/-- a rune of 128 and above lies over bytes of 128 and above -/
theorem decode_cover (s : ByteArray) (pos : Nat) (h : pos < s.size) (ha : 128 ≤ (s[pos]).toNat) :
    pos + (Utf8.decode s pos).2 ≤ s.size ∧ ∀ j, j < (Utf8.decode s pos).2 → 128 ≤ (s.get! (pos + j)).toNat := by
  have hn : ¬ (s[pos]).toNat < 128 := by omega
  have h0 : 128 ≤ (s.get! (pos + 0)).toNat := by rw [get_at s pos h]; exact ha
  simp only [Utf8.decode, get_at s pos h, hn, if_false, Bool.and_eq_true, decide_eq_true_eq, beq_iff_eq]
  repeat' split
  all_goals first
    | (refine ⟨by simp only []; omega, fun j hj => ?_⟩
       simp only [] at hj
       have hj4 : j = 0 ∨ j = 1 ∨ j = 2 ∨ j = 3 := by omega
       rcases hj4 with rfl | rfl | rfl | rfl <;> omega)
/-- what is asked of a rune is asked of the bytes: p of a byte below 128 is q of it as a rune, and all above are hi -/
structure Alike (q : Nat → Bool) (p : UInt8 → Bool) (hi : Bool) : Prop where
  low : ∀ c : UInt8, c.toNat < 128 → p c = q c.toNat
  high : ∀ c : UInt8, 128 ≤ c.toNat → p c = hi
  rune : ∀ r, 128 ≤ r → q r = hi
theorem alike_no {q : Nat → Bool} {p : UInt8 → Bool} {hi : Bool} (A : Alike q p hi) {s : ByteArray} {pos : Nat} (h : pos < s.size) (hq : q (Utf8.decode s pos).1 = false) : s.data.toList.all p = false := by
  have hk2 : pos < s.data.toList.length := by rw [← Lib.size_eq]; exact h
  have hp : p s[pos] = false := by
    by_cases ha : (s[pos]).toNat < 128
    · rw [decode_ascii s pos h ha] at hq; rw [A.low _ ha]; exact hq
    · have hd := decode_high s pos h (by omega)
      rw [A.rune _ hd.1] at hq
      rw [A.high _ (by omega)]; exact hq
  rw [List.all_eq_false]
  exact ⟨s.data.toList[pos], List.getElem_mem hk2, by show ¬ p s[pos] = true; rw [hp]; decide⟩
theorem all_span {p : UInt8 → Bool} {s : ByteArray} : ∀ (n pos : Nat), pos + n ≤ s.size → (s.data.toList.take pos).all p = true → (∀ j, j < n → p (s.get! (pos + j)) = true) → (s.data.toList.take (pos + n)).all p = true
  | 0, pos, _, h, _ => h
  | n + 1, pos, hn, h, hj => by
    have h1 := all_span n pos (by omega) h (fun j hj2 => hj j (by omega))
    have hlt : pos + n < s.size := by omega
    rw [show pos + (n + 1) = (pos + n) + 1 by omega, take_next s _ hlt, List.all_append, h1]
    have := hj n (by omega)
    rw [get_bang s _ hlt] at this
    simp [this]
theorem alike_yes {q : Nat → Bool} {p : UInt8 → Bool} {hi : Bool} (A : Alike q p hi) {s : ByteArray} {pos : Nat} (h : pos < s.size) (hq : q (Utf8.decode s pos).1 = true) (ht : (s.data.toList.take pos).all p = true) :
    pos + (Utf8.decode s pos).2 ≤ s.size ∧ (s.data.toList.take (pos + (Utf8.decode s pos).2)).all p = true := by
  by_cases ha : (s[pos]).toNat < 128
  · rw [decode_ascii s pos h ha] at hq ⊢
    refine ⟨h, ?_⟩
    show (s.data.toList.take (pos + 1)).all p = true
    rw [take_next s pos h, List.all_append, ht]
    have : p s[pos] = true := by rw [A.low _ ha]; exact hq
    simp [this]
  · have hd := decode_high s pos h (by omega)
    have hc := decode_cover s pos h (by omega)
    rw [A.rune _ hd.1] at hq
    exact ⟨hc.1, all_span _ pos hc.1 ht (fun j hj => by rw [A.high _ (hc.2 j hj)]; exact hq)⟩
theorem width_pos (s : ByteArray) (pos : Nat) (h : pos < s.size) : 1 ≤ (Utf8.decode s pos).2 := by
  by_cases ha : (s[pos]'h).toNat < 128
  · rw [decode_ascii s pos h ha]
    exact Nat.le_refl _
  · exact (decode_high s pos h (by omega)).2
end Go.Proofs.YtdnedeeocpaolaaDoor.W03
/-
  Layer 3 (name), walks of what is asked of a rune (mayStand, isPlain), and of hasOnly with each. No condition but those that each theorem bears.
-/
namespace Go.Proofs.YtdnedeeocpaolaaDoor.W03
set_option maxRecDepth 100000
open Go Go.RowKit Go.Proofs.YtdnedeeocpaolaaDoor.Strs Go.Proofs.YtdnedeeocpaolaaDoor.M03
open Go.Proofs.YtdnedeeocpaolaaDoor.Kit (ret_str ret_bool ret_int mk_of below_draws on take_next take_end byte_eq byte_ne)

def mayR (r : Nat) : Bool := decide (r ≠ 0) && decide (r ≠ 47)
def plainR (r : Nat) : Bool := (decide (97 ≤ r) && decide (r ≤ 122)) || (decide (65 ≤ r) && decide (r ≤ 90)) || (decide (48 ≤ r) && decide (r ≤ 57)) || decide (r = 46) || decide (r = 95) || decide (r = 43) || decide (r = 45)
def goodB (c : UInt8) : Bool := !badByte c
theorem may_alike : Alike mayR goodB true where
  low := fun c hc => by
    have h0 : (c = 0) ↔ c.toNat = 0 := ⟨fun e => by rw [e]; rfl, fun e => UInt8.toNat_inj.1 e⟩
    have h1 : (c = 47) ↔ c.toNat = 47 := ⟨fun e => by rw [e]; rfl, fun e => UInt8.toNat_inj.1 e⟩
    simp only [goodB, badByte, mayR, h0, h1]
    by_cases a : c.toNat = 0 <;> by_cases b : c.toNat = 47 <;> simp [a, b]
  high := fun c hc => by
    have h0 : ¬ c = 0 := fun e => by rw [e] at hc; revert hc; decide
    have h1 : ¬ c = 47 := fun e => by rw [e] at hc; revert hc; decide
    simp [goodB, badByte, h0, h1]
  rune := fun r hr => by
    have h0 : ¬ r = 0 := by omega
    have h1 : ¬ r = 47 := by omega
    simp [mayR, h0, h1]
theorem may_any (r : Nat) (w : World) :
    Calls Tryd.prog 86 #[.int .i32 r] w fun e w' => e = .returned (.bool (mayR r)) ∧ w' = w := by
  by_cases h0 : r = 0
  · subst h0
    go_enter Tryd.func86, Tryd.ntmps86
    go_wp2
    go_ret
    exact ⟨rfl, rfl⟩
  · have t0 : ((r : Int) != 0) = true := by rw [bne_iff_ne]; omega
    by_cases h1 : r = 47
    · subst h1
      go_enter Tryd.func86, Tryd.ntmps86
      go_wp2
      go_ret
      exact ⟨rfl, rfl⟩
    · have t1 : ((r : Int) != 47) = true := by rw [bne_iff_ne]; omega
      have HE : Hid (mayR r = true) := by show mayR r = true; simp [mayR, h0, h1]
      clear h0 h1
      go_enter Tryd.func86, Tryd.ntmps86
      go_wp2
      go_ret
      exact ⟨ret_bool HE.out.symm, rfl⟩
theorem plainR_yes {r : Nat} (h : (97 ≤ (r : Int) ∧ (r : Int) ≤ 122) ∨ (65 ≤ (r : Int) ∧ (r : Int) ≤ 90) ∨ (48 ≤ (r : Int) ∧ (r : Int) ≤ 57) ∨ (r : Int) = 46 ∨ (r : Int) = 95 ∨ (r : Int) = 43 ∨ (r : Int) = 45) : true = plainR r := by
  unfold plainR
  have e : (97 ≤ r ∧ r ≤ 122) ∨ (65 ≤ r ∧ r ≤ 90) ∨ (48 ≤ r ∧ r ≤ 57) ∨ r = 46 ∨ r = 95 ∨ r = 43 ∨ r = 45 := by omega
  rcases e with e | e | e | e | e | e | e <;> simp [e]
theorem plainR_not {r : Nat} (h : ¬ ((97 ≤ (r : Int) ∧ (r : Int) ≤ 122) ∨ (65 ≤ (r : Int) ∧ (r : Int) ≤ 90) ∨ (48 ≤ (r : Int) ∧ (r : Int) ≤ 57) ∨ (r : Int) = 46 ∨ (r : Int) = 95 ∨ (r : Int) = 43 ∨ (r : Int) = 45)) : false = plainR r := by
  cases hp : plainR r with
  | false => rfl
  | true =>
    unfold plainR at hp
    simp only [Bool.or_eq_true, Bool.and_eq_true, decide_eq_true_eq] at hp
    omega
theorem hasOnly_may (s : ByteArray) (w : World) :
    Calls Tryd.prog 85 #[.string s, .func (.func 86) #[] #[]] w fun e w' => e = .returned (.bool (s.data.toList.all goodB)) ∧ Below w.heap.size w w' := by
  have HF := Lib.hid (fun (r : Nat) (w : World) (_ : r ≤ 2147483647) => may_any r w)
  have A := may_alike
  generalize mayR = q at HF A
  generalize goodB = p at A ⊢
  go_enter Tryd.func85, Tryd.ntmps85
  go_wp2
  go_loopw [] (fun w' => ∃ pos : Nat, pos ≤ s.size ∧ w' = w.iter s pos ∧ Hid ((s.data.toList.take pos).all p = true)) (fun w' => s.size - w'.iterPos w.heap.size)
  case atStart => exact ⟨0, Nat.zero_le _, rfl, Lib.hid rfl⟩
  case round =>
    obtain ⟨pos, hp, rfl, ha⟩ := hrel
    by_cases hlt : pos < s.size
    · have hnx : ∀ ty, (Instr.next (.pointer (some ⟨w.heap.size, 0, none⟩)) true ty).run Tryd.prog (w.iter s pos) = _ := fun ty => run_next_any w s pos ty hlt
      have hwd := width_pos s pos hlt
      have hle := decode_le s pos
      have HQ := Lib.hid (fun h => alike_no A hlt h)
      have HY := Lib.hid (fun h => alike_yes A hlt h ha.out)
      generalize Utf8.decode s pos = d at *
      obtain ⟨r, n⟩ := d
      cases hq : q r with
      | true =>
        have HR := HF.out r
        rw [hq] at HR
        have HR := Lib.hid HR
        obtain ⟨hs, hn⟩ := HY.out hq
        have HN := Lib.hid hn
        clear hn hq
        go_wp2_with fail
        refine (HR.out _ (by omega)).mono ?_
        rintro e w' ⟨rfl, rfl⟩
        go_wp2
        go_roundw
        case rel => exact ⟨pos + n, hs, rfl, HN⟩
        case measure => simp; omega
      | false =>
        have HR := HF.out r
        rw [hq] at HR
        have HR := Lib.hid HR
        have HN := Lib.hid (HQ.out hq)
        clear hq
        go_wp2_with fail
        refine (HR.out _ (by omega)).mono ?_
        rintro e w' ⟨rfl, rfl⟩
        go_wp2
        go_ret
        exact ⟨ret_bool HN.out.symm, (Below.refl _ w).alloc (Nat.le_refl _) _⟩
    · have hnx : ∀ ty, (Instr.next (.pointer (some ⟨w.heap.size, 0, none⟩)) true ty).run Tryd.prog (w.iter s pos) = _ := fun ty => run_next_end w s pos ty hlt
      have HN : Hid (s.data.toList.all p = true) := by
        have := ha.out
        rw [take_end s pos hlt] at this
        exact this
      go_wp2
      go_ret
      exact ⟨ret_bool HN.out.symm, (Below.refl _ w).alloc (Nat.le_refl _) _⟩
end Go.Proofs.YtdnedeeocpaolaaDoor.W03
/-
  Layer 3 (name), walks: what the program's Check, Right and Plain return. No condition but those that each theorem bears.
-/
namespace Go.Proofs.YtdnedeeocpaolaaDoor.W03
set_option maxRecDepth 100000
open Go Go.RowKit Go.Proofs.YtdnedeeocpaolaaDoor.Strs Go.Proofs.YtdnedeeocpaolaaDoor.M03
open Go.Proofs.YtdnedeeocpaolaaDoor.Kit (ret_str ret_bool ret_int mk_of below_draws on list_full list_ne list_none list_nil)

def isPts (l : List UInt8) : Bool := (l == [46]) || (l == [46, 46])
theorem isPoints_any (s : ByteArray) (w : World) :
    Calls Tryd.prog 87 #[.string s] w fun e w' => e = .returned (.bool (isPts s.data.toList)) ∧ w' = w := by
  have HE : Hid (isPts s.data.toList = ((s.toList == [46]) || (s.toList == [46, 46]))) := by
    show isPts _ = _
    rw [Lib.toList_data]; rfl
  cases t1 : (s.toList == [46]) with
  | true =>
    have HX : Hid (isPts s.data.toList = true) := by show isPts _ = _; rw [HE.out, t1]; rfl
    clear HE
    go_enter Tryd.func87, Tryd.ntmps87
    go_wp2
    go_ret
    exact ⟨ret_bool HX.out.symm, rfl⟩
  | false =>
    cases t2 : (s.toList == [46, 46]) with
    | true =>
      have HX : Hid (isPts s.data.toList = true) := by show isPts _ = _; rw [HE.out, t1, t2]; rfl
      clear HE
      go_enter Tryd.func87, Tryd.ntmps87
      go_wp2
      go_ret
      exact ⟨ret_bool HX.out.symm, rfl⟩
    | false =>
      have HX : Hid (isPts s.data.toList = false) := by show isPts _ = _; rw [HE.out, t1, t2]; rfl
      clear HE
      go_enter Tryd.func87, Tryd.ntmps87
      go_wp2
      go_ret
      exact ⟨ret_bool HX.out.symm, rfl⟩
theorem check_of {s : ByteArray} (h0 : 0 < s.size) (h : ¬ (64 : Int) < s.size) : check s.data.toList = if s.data.toList.all goodB = true then (if isPts s.data.toList = true then 6 else 0) else 11 := by
  unfold check
  rw [← Lib.size_eq, if_neg (by omega), if_neg (by omega)]
  have e : s.data.toList.any badByte = !(s.data.toList.all goodB) := by
    rw [List.all_eq_not_any_not, Bool.not_not]
    congr 1
    funext c; simp [goodB]
  rw [e]
  cases s.data.toList.all goodB with
  | false => simp
  | true => simp [isPts]
theorem check_free (s : ByteArray) (w : World) :
    Calls Tryd.prog 67 #[.string s] w fun e w' => e = .returned (.int .i64 (check s.data.toList)) ∧ Below w.heap.size w w' := by
  by_cases h0 : 0 < s.size
  · have z0 := list_full h0
    have z1 := list_ne h0
    by_cases h64 : (64 : Int) < s.size
    · have HE := Lib.hid (check_long h0 h64)
      go_enter Tryd.func67, Tryd.ntmps67
      go_wp2
      go_ret
      exact ⟨ret_int HE.out, Below.refl _ _⟩
    · have HE := Lib.hid (check_of h0 h64)
      have HA := Lib.hid (hasOnly_may s)
      have HP := Lib.hid (isPoints_any s)
      generalize s.data.toList.all goodB = a at *
      generalize isPts s.data.toList = b at *
      have h65 : (s.size : Int) ≤ 64 := by omega
      clear h64
      cases a with
      | false =>
        go_enter Tryd.func67, Tryd.ntmps67
        go_wp2_with fail
        refine (HA.out _).mono ?_
        rintro e w1 ⟨rfl, hb1⟩
        go_wp2
        go_ret
        exact ⟨ret_int (by rw [HE.out]; rfl), hb1⟩
      | true =>
        go_enter Tryd.func67, Tryd.ntmps67
        go_wp2_with fail
        refine (HA.out _).mono ?_
        rintro e w1 ⟨rfl, hb1⟩
        cases b with
        | false =>
          go_wp2_with fail
          refine (HP.out _).mono ?_
          rintro e w2 ⟨rfl, rfl⟩
          go_wp2
          go_ret
          exact ⟨ret_int (by rw [HE.out]; rfl), hb1⟩
        | true =>
          go_wp2_with fail
          refine (HP.out _).mono ?_
          rintro e w2 ⟨rfl, rfl⟩
          go_wp2
          go_ret
          exact ⟨ret_int (by rw [HE.out]; rfl), hb1⟩
  · have z0 := list_none h0
    have z1 := list_nil h0
    have HE := Lib.hid (check_empty h0)
    go_enter Tryd.func67, Tryd.ntmps67
    go_wp2
    go_ret
    exact ⟨ret_int HE.out, Below.refl _ _⟩
theorem check_any (s : ByteArray) (_hs : s.size ≤ 140737488351232) (w : World) :
    Calls Tryd.prog 67 #[.string s] w fun e w' => e = .returned (.int .i64 (check s.data.toList)) ∧ Below w.heap.size w w' := check_free s w
theorem check_full {s : ByteArray} (h : check s.data.toList = 0) : 0 < s.size := by
  rcases Nat.eq_zero_or_pos s.size with e | e
  · exfalso; revert h; unfold check; rw [← Lib.size_eq, if_pos e]; decide
  · exact e
end Go.Proofs.YtdnedeeocpaolaaDoor.W03
/-
  Layer 7 (tree), walks: the landed code's checks: checkDir, checkData, checkPlace, within, checkMove, checkReplace. The bounds stand in the statements.
-/
namespace Go.Proofs.YtdnedeeocpaolaaDoor.W07
set_option maxRecDepth 100000
open Go Go.RowKit Go.Proofs.YtdnedeeocpaolaaDoor.Strs Go.Proofs.YtdnedeeocpaolaaDoor.Recs Go.Proofs.YtdnedeeocpaolaaDoor.M07 Go.Proofs.YtdnedeeocpaolaaDoor.Maps Go.Proofs.YtdnedeeocpaolaaDoor.Range
open Go.Proofs.YtdnedeeocpaolaaDoor.M06 (Ent)
open Go.Proofs.YtdnedeeocpaolaaDoor.M03 (check)
open Go.Proofs.YtdnedeeocpaolaaDoor.W06 (Ents HandsE)
open Go.Proofs.YtdnedeeocpaolaaDoor.Kit (ret_str ret_bool ret_int mk_of mk_bytes ba_ext below_draws on list_full list_ne list_none list_nil bytes_nil)

section
variable {F : Nat → Prop} {w w1 w2 : World} {sb mb : Nat} {g : Int → Nod} {lv : Int → Value} {last : Int} {m : Nat}
/-- why nothing can stand in a node -/
def dirN (x : Nod) : Int := if x.kind = 0 then 5 else if x.kind = 1 then 0 else 7
set_option maxHeartbeats 1000000 in
theorem checkDir_any (h : Mem F w sb mb g lv last m) (n : Int) : Calls Tryd.prog 68 #[.pointer (some ⟨sb, 0, none⟩), .int .i64 n] w fun e w' => e = .returned (.int .i64 (dirN (g n))) ∧ Below w.heap.size w w' := by
  obtain ⟨A, c, -, hc⟩ := h.node_ n
  have HC := Lib.hid hc
  have hf := nod_kind (g n).kind (g n).up ⟨(g n).data.toArray⟩ A (g n).list.length c
  have HD : Hid (dirN (g n) = if (g n).kind = 0 then 5 else if (g n).kind = 1 then 0 else 7) := rfl
  clear hc h
  generalize dirN (g n) = r at *
  generalize (g n).kind = k at *
  generalize (g n).up = up at *
  generalize (g n).data = data at *
  generalize (g n).list.length = ln at *
  by_cases h0 : k = 0
  · have HX : Hid (r = 5) := HD.out.trans (if_pos h0)
    subst h0
    go_enter Tryd.func68, Tryd.ntmps68
    go_wp2_with fail
    refine HC.out.mono ?_
    rintro e w1 ⟨rfl, hb⟩
    go_wp2_with fail
    go_ret
    exact ⟨ret_int HX.out.symm, hb⟩
  · by_cases h1 : k = 1
    · have HX : Hid (r = 0) := HD.out.trans ((if_neg h0).trans (if_pos h1))
      subst h1
      go_enter Tryd.func68, Tryd.ntmps68
      go_wp2_with fail
      refine HC.out.mono ?_
      rintro e w1 ⟨rfl, hb⟩
      go_wp2_with fail
      go_ret
      exact ⟨ret_int HX.out.symm, hb⟩
    · have HX : Hid (r = 7) := HD.out.trans ((if_neg h0).trans (if_neg h1))
      have t0 : (k == 0) = false := by simpa using h0
      have t1 : (k == 1) = false := by simpa using h1
      clear h0 h1
      go_enter Tryd.func68, Tryd.ntmps68
      go_wp2_with fail
      refine HC.out.mono ?_
      rintro e w1 ⟨rfl, hb⟩
      go_wp2_with fail
      go_ret
      exact ⟨ret_int HX.out.symm, hb⟩
set_option maxHeartbeats 1000000 in
theorem checkData_any (kind : Int) (s : ByteArray) (w : World) :
    Calls Tryd.prog 52 #[.int .i64 kind, .string s] w fun e w' => e = .returned (.int .i64 (mayErr kind s.data.toList)) ∧ w' = w := by
  have HL := Lib.hid (Lib.size_eq s)
  by_cases hk : kind = 1 ∨ kind = 2 ∨ kind = 3
  · have HM : Hid (mayErr kind s.data.toList = if (kind = 1 ∧ s.data.toList ≠ []) ∨ (kind = 3 ∧ s.data.toList = []) then 3 else if 65536 < s.data.toList.length then 4 else 0) := if_neg (by omega)
    by_cases h0 : 0 < s.size
    · have hf := list_full h0
      have hn := list_ne h0
      have hne : s.data.toList ≠ [] := Kit.bytes_ne h0
      have HX : Hid (kind ≠ 1 → mayErr kind s.data.toList = if 65536 < s.data.toList.length then 4 else 0) := fun h1 => HM.out.trans (if_neg (by rintro (e | e); exact h1 e.1; exact hne e.2))
      have HY : Hid (kind = 1 → mayErr kind s.data.toList = 3) := fun h1 => HM.out.trans (if_pos (Or.inl ⟨h1, hne⟩))
      rw [← HL.out] at HX
      clear hne HM
      generalize mayErr kind s.data.toList = r at *
      rcases hk with rfl | rfl | rfl
      · go_enter Tryd.func52, Tryd.ntmps52
        go_wp2_with fail
        go_ret
        exact ⟨ret_int (HY.out (by trivial)).symm, rfl⟩
      all_goals
        by_cases hbig : (65536 : Int) < s.size
        · have HZ : Hid (r = 4) := (HX.out (by decide)).trans (if_pos (by omega))
          go_enter Tryd.func52, Tryd.ntmps52
          go_wp2_with fail
          go_ret
          exact ⟨ret_int HZ.out.symm, rfl⟩
        · have HZ : Hid (r = 0) := (HX.out (by decide)).trans (if_neg (by omega))
          go_enter Tryd.func52, Tryd.ntmps52
          go_wp2_with fail
          go_ret
          exact ⟨ret_int HZ.out.symm, rfl⟩
    · have hf := list_none h0
      have hn := list_nil h0
      have hne : s.data.toList = [] := bytes_nil h0
      have hz : ¬ (65536 : Int) < s.size := by omega
      have HX : Hid (kind ≠ 3 → mayErr kind s.data.toList = 0) := fun h1 => HM.out.trans ((if_neg (by rintro (e | e); exact e.2 hne; exact h1 e.1)).trans (if_neg (by rw [hne]; simp)))
      have HY : Hid (kind = 3 → mayErr kind s.data.toList = 3) := fun h1 => HM.out.trans (if_pos (Or.inr ⟨h1, hne⟩))
      clear hne HM HL
      generalize mayErr kind s.data.toList = r at *
      rcases hk with rfl | rfl | rfl
      all_goals
        go_enter Tryd.func52, Tryd.ntmps52
        go_wp2_with fail
        go_ret
        exact ⟨ret_int (by first | exact (HX.out (by decide)).symm | exact (HY.out (by trivial)).symm), rfl⟩
  · have HX : Hid (mayErr kind s.data.toList = 2) := if_pos (by omega)
    have t1 : (kind == 1) = false := by simp; omega
    have t2 : (kind == 2) = false := by simp; omega
    have t3 : (kind == 3) = false := by simp; omega
    have k1 : (kind != 1) = true := by simp; omega
    have k2 : (kind != 2) = true := by simp; omega
    have k3 : (kind != 3) = true := by simp; omega
    clear hk
    generalize mayErr kind s.data.toList = r at *
    go_enter Tryd.func52, Tryd.ntmps52
    go_wp2_with fail
    go_ret
    exact ⟨ret_int HX.out.symm, rfl⟩
/-- a node's list, as Find is asked for a name in it -/
theorem Mem.find_ (h : Mem F w sb mb g lv last m) (hs : Short g) (n : Int) (s : ByteArray) : ∃ A c, lv n = .slice A (g n).list.length c ∧
    (Calls Tryd.prog 48 #[.pointer (some ⟨sb, 0, none⟩), .int .i64 n] w fun e w' => e = .returned (.agg #[.int .i64 (g n).kind, .int .i64 (g n).up, .string ⟨(g n).data.toArray⟩, .slice A (g n).list.length c]) ∧ Below w.heap.size w w') ∧
    (∀ w', Below w.heap.size w w' → Calls Tryd.prog 20 #[.slice A (g n).list.length c, .string s] w' fun e w2 => e = .returned (.tuple #[.int .i64 (M06.find (M06.all (g n).list) s.data.toList).1, .bool (M06.find (M06.all (g n).list) s.data.toList).2]) ∧ Below w'.heap.size w' w2) ∧
    (∀ w, (Instr.field 92 (.agg #[.int .i64 (g n).kind, .int .i64 (g n).up, .string ⟨(g n).data.toArray⟩, .slice A (g n).list.length c]) 3).run Tryd.prog w = .ok (.slice A (g n).list.length c) w) := by
  obtain ⟨A, c, e, hc⟩ := h.node_ n
  have hE := h.list n
  rw [e] at hE
  have hl := hs n
  exact ⟨A, c, e, hc, fun w' hb => W06.find_any _ _ w' s ((hE.below hb).more hb.size) (by omega), nod_list _ _ _ _ _ _⟩
/-- why no new node can stand in a directory by a name -/
def placeN (x : Nod) (s : Bytes) : Int := if dirN x ≠ 0 then dirN x else if check s ≠ 0 then check s else if (M06.find (M06.all x.list) s).2 = true then 6 else 0
set_option maxHeartbeats 2000000 in
theorem checkPlace_any (h : Mem F w sb mb g lv last m) (hs : Short g) (n : Int) (s : ByteArray) : Calls Tryd.prog 51 #[.pointer (some ⟨sb, 0, none⟩), .int .i64 n, .string s] w fun e w' => e = .returned (.int .i64 (placeN (g n) s.data.toList)) ∧ Below w.heap.size w w' := by
  have HD := Lib.hid (checkDir_any h n)
  have HK := Lib.hid (fun w' : World => W03.check_free s w')
  have HF := Lib.hid (fun (w' : World) (hb : Below w.heap.size w w') => (h.below hb).find_ hs n s)
  have HP : Hid (placeN (g n) s.data.toList = if dirN (g n) ≠ 0 then dirN (g n) else if check s.data.toList ≠ 0 then check s.data.toList else if (M06.find (M06.all (g n).list) s.data.toList).2 = true then 6 else 0) := rfl
  clear h hs
  generalize placeN (g n) s.data.toList = r at *
  generalize (M06.find (M06.all (g n).list) s.data.toList).2 = fd at *
  generalize (M06.find (M06.all (g n).list) s.data.toList).1 = fn at *
  generalize dirN (g n) = rd at *
  generalize check s.data.toList = rc at *
  by_cases hd : rd = 0
  · have HP : Hid (r = if rc ≠ 0 then rc else if fd = true then 6 else 0) := HP.out.trans (if_neg (show ¬ rd ≠ 0 from fun e => e hd))
    subst hd
    by_cases hc : rc = 0
    · have HP : Hid (r = if fd = true then 6 else 0) := HP.out.trans (if_neg (show ¬ rc ≠ 0 from fun e => e hc))
      subst hc
      go_enter Tryd.func51, Tryd.ntmps51
      go_wp2_with fail
      refine HD.out.mono ?_
      rintro e w1 ⟨rfl, hb⟩
      have B1 := Lib.hid hb
      clear hb
      go_wp2_with fail
      refine (HK.out w1).mono ?_
      rintro e w2 ⟨rfl, hb⟩
      have B2 := Lib.hid (on B1.out hb)
      clear hb
      obtain ⟨A, c, -, hn, hfd, hfl⟩ := HF.out w2 B2.out
      have HN := Lib.hid hn
      have HFD := Lib.hid hfd
      clear hn hfd
      go_wp2_with fail
      refine HN.out.mono ?_
      rintro e w3 ⟨rfl, hb⟩
      have HFD := Lib.hid (HFD.out w3 hb)
      have B3 := Lib.hid (on B2.out hb)
      clear hb
      go_wp2_with fail
      refine HFD.out.mono ?_
      rintro e w4 ⟨rfl, hb⟩
      have B4 := Lib.hid (on B3.out hb)
      clear hb HN HFD hfl HF
      cases fd with
      | true =>
        have HX : Hid (r = 6) := HP.out
        go_wp2_with fail
        go_ret
        exact ⟨ret_int HX.out.symm, B4.out⟩
      | false =>
        have HX : Hid (r = 0) := HP.out
        go_wp2_with fail
        go_ret
        exact ⟨ret_int HX.out.symm, B4.out⟩
    · have HX : Hid (r = rc) := HP.out.trans (if_pos hc)
      have t1 : (rc == 0) = false := by simpa using hc
      go_enter Tryd.func51, Tryd.ntmps51
      go_wp2_with fail
      refine HD.out.mono ?_
      rintro e w1 ⟨rfl, hb⟩
      have B1 := Lib.hid hb
      clear hb
      go_wp2_with fail
      refine (HK.out w1).mono ?_
      rintro e w2 ⟨rfl, hb⟩
      have B2 := Lib.hid (on B1.out hb)
      clear hb
      go_wp2_with fail
      go_ret
      exact ⟨ret_int HX.out.symm, B2.out⟩
  · have HX : Hid (r = rd) := HP.out.trans (if_pos hd)
    have t1 : (rd == 0) = false := by simpa using hd
    go_enter Tryd.func51, Tryd.ntmps51
    go_wp2_with fail
    refine HD.out.mono ?_
    rintro e w1 ⟨rfl, hb⟩
    have B1 := Lib.hid hb
    clear hb
    go_wp2_with fail
    go_ret
    exact ⟨ret_int HX.out.symm, B1.out⟩
/-- whether a directory is a node, or stands in it -/
theorem within_any {t : Tr} (hR : Right t) (h : Mem F w sb mb (plainN t) lv last m) (dst n : Int) (hk : (nodeAt t.L dst).kind ≠ 0) : ∃ b, (b = true ↔ Inside t.L n dst) ∧
    Calls Tryd.prog 88 #[.pointer (some ⟨sb, 0, none⟩), .int .i64 dst, .int .i64 n] w fun e w' => e = .returned (.bool b) ∧ Below w.heap.size w w' := by
  classical
  obtain ⟨r, hr⟩ : ∃ r, decide (Inside t.L n dst) = r := ⟨_, rfl⟩
  refine ⟨r, by rw [← hr]; simp, ?_⟩
  have HX := Lib.hid hr
  clear hr
  have HR := Lib.hid (hR.reach hk)
  have HN := Lib.hid (fun (w' : World) (hb : Below w.heap.size w w') (k : Int) => (h.below hb).node_ k)
  clear h hk
  go_enter Tryd.func88, Tryd.ntmps88
  go_wp2_with fail
  go_loopw [1] (fun k5 wr => ∃ k : Int, k5 = .int .i64 k ∧ Hid (Inside t.L n dst ↔ Inside t.L n k) ∧ Hid (∃ j, upN t.L j k = 1) ∧ Hid (Below w.heap.size w wr)) (fun k5 _ => height t.L (intOf k5))
  case atStart => exact ⟨dst, rfl, Iff.rfl, HR.out, Below.refl _ _⟩
  case round =>
    clear HR
    obtain ⟨k, rfl, hin, hrch, hb⟩ := hrel
    by_cases kn : k = n
    · have HZ : Hid (r = true) := HX.out.symm.trans (decide_eq_true (hin.out.2 (by rw [kn]; exact inside_here _ _)))
      clear hin
      subst kn
      go_wp2_with fail
      go_ret
      exact ⟨ret_bool HZ.out.symm, hb.out⟩
    · have t1 : (k == n) = false := by simpa using kn
      have s1 : (k != n) = true := by simpa using kn
      by_cases kr : k = 1
      · have HZ : Hid (r = false) := HX.out.symm.trans (decide_eq_false fun e => by
          have e2 := hin.out.1 e
          rw [kr] at e2
          exact inside_root (fun e3 => kn (kr.trans e3.symm)) e2)
        clear hin hrch
        subst kr
        go_wp2_with fail
        go_ret
        exact ⟨ret_bool HZ.out.symm, hb.out⟩
      · have t2 : (k == 1) = false := by simpa using kr
        have s2 : (k != 1) = true := by simpa using kr
        have HIN := Lib.hid (hin.out.trans (inside_up kn kr))
        have HH := Lib.hid (height_up hrch.out kr)
        obtain ⟨A, c, -, hc⟩ := HN.out wr hb.out k
        have HC := Lib.hid hc
        have hf := nod_up (plainN t k).kind (plainN t k).up ⟨(plainN t k).data.toArray⟩ A (plainN t k).list.length c
        clear hc hin hrch
        go_wp2_with fail
        refine HC.out.mono ?_
        rintro e w1 ⟨rfl, hb2⟩
        have B2 := Lib.hid (on hb.out hb2)
        clear hb2
        go_wp2_with fail
        go_roundw
        case rel => exact ⟨(plainN t k).up, rfl, HIN, HH.out.1, B2⟩
        case measure => exact HH.out.2
set_option maxHeartbeats 1000000 in
theorem checkMove_any {t : Tr} (hR : Right t) (h : Mem F w sb mb (plainN t) lv last m) (n dst : Int) (s : ByteArray) (hk : (nodeAt t.L dst).kind ≠ 0) : ∃ r, (check s.data.toList ≠ 0 → r = check s.data.toList) ∧ (check s.data.toList = 0 → Inside t.L n dst → r = 14) ∧ (check s.data.toList = 0 → ¬ Inside t.L n dst → r = 0) ∧
    Calls Tryd.prog 69 #[.pointer (some ⟨sb, 0, none⟩), .int .i64 n, .int .i64 dst, .string s] w fun e w' => e = .returned (.int .i64 r) ∧ Below w.heap.size w w' := by
  have HK := Lib.hid (W03.check_free s w)
  by_cases hc : check s.data.toList = 0
  · rw [hc] at HK ⊢
    by_cases hi : Inside t.L n dst
    · refine ⟨14, fun e => absurd rfl e, fun _ _ => rfl, fun _ e => absurd hi e, ?_⟩
      have HW := Lib.hid (fun (w' : World) (hb : Below w.heap.size w w') => within_any hR (h.below hb) dst n hk)
      have HI := Lib.hid hi
      clear h hk hc hi
      go_enter Tryd.func69, Tryd.ntmps69
      go_wp2_with fail
      refine HK.out.mono ?_
      rintro e w1 ⟨rfl, hb⟩
      have B1 := Lib.hid hb
      clear hb
      obtain ⟨b, hb, hw⟩ := HW.out w1 B1.out
      have hb := hb.2 HI.out
      subst hb
      have HW := Lib.hid hw
      clear hw
      go_wp2_with fail
      refine HW.out.mono ?_
      rintro e w2 ⟨rfl, hb⟩
      have B2 := Lib.hid (on B1.out hb)
      clear hb
      go_wp2_with fail
      go_ret
      exact ⟨rfl, B2.out⟩
    · refine ⟨0, fun e => absurd rfl e, fun _ e => absurd e hi, fun _ _ => rfl, ?_⟩
      have HW := Lib.hid (fun (w' : World) (hb : Below w.heap.size w w') => within_any hR (h.below hb) dst n hk)
      have HI := Lib.hid hi
      clear h hk hc hi
      go_enter Tryd.func69, Tryd.ntmps69
      go_wp2_with fail
      refine HK.out.mono ?_
      rintro e w1 ⟨rfl, hb⟩
      have B1 := Lib.hid hb
      clear hb
      obtain ⟨b, hb, hw⟩ := HW.out w1 B1.out
      have hb : b = false := by
        cases b with
        | false => rfl
        | true => exact absurd (hb.1 rfl) HI.out
      subst hb
      have HW := Lib.hid hw
      clear hw
      go_wp2_with fail
      refine HW.out.mono ?_
      rintro e w2 ⟨rfl, hb⟩
      have B2 := Lib.hid (on B1.out hb)
      clear hb
      go_wp2_with fail
      go_ret
      exact ⟨rfl, B2.out⟩
  · refine ⟨check s.data.toList, fun _ => rfl, fun e => absurd e hc, fun e => absurd e hc, ?_⟩
    generalize check s.data.toList = rc at *
    have t1 : (rc == 0) = false := by simpa using hc
    have s1 : (rc != 0) = true := by simpa using hc
    clear h hk
    go_enter Tryd.func69, Tryd.ntmps69
    go_wp2_with fail
    refine HK.out.mono ?_
    rintro e w1 ⟨rfl, hb⟩
    go_wp2_with fail
    go_ret
    exact ⟨rfl, hb⟩
/-- why a node can't make room for another one -/
def replaceN (a b : Nod) : Int := if a.kind = 1 ∧ b.kind ≠ 1 then 8 else if a.kind ≠ 1 ∧ b.kind = 1 then 7 else if 0 < a.list.length then 9 else 0
set_option maxHeartbeats 2000000 in
theorem checkReplace_any (h : Mem F w sb mb g lv last m) (th n : Int) : Calls Tryd.prog 70 #[.pointer (some ⟨sb, 0, none⟩), .int .i64 th, .int .i64 n] w fun e w' => e = .returned (.int .i64 (replaceN (g th) (g n))) ∧ Below w.heap.size w w' := by
  obtain ⟨A, c, -, hc⟩ := h.node_ th
  have HC := Lib.hid hc
  have HN := Lib.hid (fun (w' : World) (hb : Below w.heap.size w w') => (h.below hb).node_ n)
  have HP : Hid (replaceN (g th) (g n) = if (g th).kind = 1 ∧ (g n).kind ≠ 1 then 8 else if (g th).kind ≠ 1 ∧ (g n).kind = 1 then 7 else if 0 < (g th).list.length then 9 else 0) := rfl
  clear hc h
  generalize replaceN (g th) (g n) = r at *
  generalize (g th).kind = ko at *
  generalize (g th).up = uo at *
  generalize (g th).data = dto at *
  generalize (g th).list.length = lo at *
  generalize (g n).kind = kn at *
  generalize (g n).up = un at *
  generalize (g n).data = dn at *
  have hfn := fun A2 c2 => nod_kind kn un ⟨dn.toArray⟩ A2 (g n).list.length c2
  have t1 : ∀ k : Int, (k != 1) = !(k == 1) := fun k => rfl
  cases ho : (ko == 1) with
  | true =>
    have e1 : ko = 1 := by simpa using ho
    subst e1
    clear ho
    cases hn : (kn == 1) with
    | true =>
      have e2 : kn = 1 := by simpa using hn
      subst e2
      clear hn
      have HP : Hid (r = if 0 < lo then 9 else 0) := HP.out.trans ((if_neg (by simp)).trans (if_neg (by simp)))
      by_cases hl : (0 : Int) < lo
      · have HX : Hid (r = 9) := HP.out.trans (if_pos (by omega))
        go_enter Tryd.func70, Tryd.ntmps70
        go_wp2_with fail
        refine HC.out.mono ?_
        rintro e w1 ⟨rfl, hb⟩
        have B1 := Lib.hid hb
        obtain ⟨A2, c2, -, hn2⟩ := HN.out w1 hb
        have HN := Lib.hid hn2
        have hf := hfn A2 c2
        clear hb hn2 hfn
        go_wp2_with fail
        refine HN.out.mono ?_
        rintro e w2 ⟨rfl, hb⟩
        have B2 := Lib.hid (on B1.out hb)
        clear hb
        go_wp2_with fail
        go_ret
        exact ⟨ret_int HX.out.symm, B2.out.alloc B2.out.size _⟩
      · have HX : Hid (r = 0) := HP.out.trans (if_neg (by omega))
        go_enter Tryd.func70, Tryd.ntmps70
        go_wp2_with fail
        refine HC.out.mono ?_
        rintro e w1 ⟨rfl, hb⟩
        have B1 := Lib.hid hb
        obtain ⟨A2, c2, -, hn2⟩ := HN.out w1 hb
        have HN := Lib.hid hn2
        have hf := hfn A2 c2
        clear hb hn2 hfn
        go_wp2_with fail
        refine HN.out.mono ?_
        rintro e w2 ⟨rfl, hb⟩
        have B2 := Lib.hid (on B1.out hb)
        clear hb
        go_wp2_with fail
        go_ret
        exact ⟨ret_int HX.out.symm, B2.out.alloc B2.out.size _⟩
    | false =>
      have e2 : kn ≠ 1 := by simpa using hn
      have HX : Hid (r = 8) := HP.out.trans (if_pos ⟨rfl, e2⟩)
      clear e2
      go_enter Tryd.func70, Tryd.ntmps70
      go_wp2_with fail
      refine HC.out.mono ?_
      rintro e w1 ⟨rfl, hb⟩
      have B1 := Lib.hid hb
      obtain ⟨A2, c2, -, hn2⟩ := HN.out w1 hb
      have HN := Lib.hid hn2
      have hf := hfn A2 c2
      clear hb hn2 hfn
      go_wp2_with fail
      refine HN.out.mono ?_
      rintro e w2 ⟨rfl, hb⟩
      have B2 := Lib.hid (on B1.out hb)
      clear hb
      go_wp2_with fail
      go_ret
      exact ⟨ret_int HX.out.symm, B2.out.alloc B2.out.size _⟩
  | false =>
    have e1 : ko ≠ 1 := by simpa using ho
    have s1 : (ko != 1) = true := by simpa using ho
    cases hn : (kn == 1) with
    | true =>
      have e2 : kn = 1 := by simpa using hn
      subst e2
      clear hn
      have HX : Hid (r = 7) := HP.out.trans ((if_neg (by simp)).trans (if_pos ⟨e1, rfl⟩))
      clear e1
      go_enter Tryd.func70, Tryd.ntmps70
      go_wp2_with fail
      refine HC.out.mono ?_
      rintro e w1 ⟨rfl, hb⟩
      have B1 := Lib.hid hb
      obtain ⟨A2, c2, -, hn2⟩ := HN.out w1 hb
      have HN := Lib.hid hn2
      have hf := hfn A2 c2
      clear hb hn2 hfn
      go_wp2_with fail
      refine HN.out.mono ?_
      rintro e w2 ⟨rfl, hb⟩
      have B2 := Lib.hid (on B1.out hb)
      clear hb
      go_wp2_with fail
      go_ret
      exact ⟨ret_int HX.out.symm, B2.out.alloc B2.out.size _⟩
    | false =>
      have e2 : kn ≠ 1 := by simpa using hn
      have HP : Hid (r = if 0 < lo then 9 else 0) := HP.out.trans ((if_neg (fun e => e1 e.1)).trans (if_neg (fun e => e2 e.2)))
      clear e1 e2
      by_cases hl : (0 : Int) < lo
      · have HX : Hid (r = 9) := HP.out.trans (if_pos (by omega))
        go_enter Tryd.func70, Tryd.ntmps70
        go_wp2_with fail
        refine HC.out.mono ?_
        rintro e w1 ⟨rfl, hb⟩
        have B1 := Lib.hid hb
        obtain ⟨A2, c2, -, hn2⟩ := HN.out w1 hb
        have HN := Lib.hid hn2
        have hf := hfn A2 c2
        clear hb hn2 hfn
        go_wp2_with fail
        refine HN.out.mono ?_
        rintro e w2 ⟨rfl, hb⟩
        have B2 := Lib.hid (on B1.out hb)
        clear hb
        go_wp2_with fail
        go_ret
        exact ⟨ret_int HX.out.symm, B2.out.alloc B2.out.size _⟩
      · have HX : Hid (r = 0) := HP.out.trans (if_neg (by omega))
        go_enter Tryd.func70, Tryd.ntmps70
        go_wp2_with fail
        refine HC.out.mono ?_
        rintro e w1 ⟨rfl, hb⟩
        have B1 := Lib.hid hb
        obtain ⟨A2, c2, -, hn2⟩ := HN.out w1 hb
        have HN := Lib.hid hn2
        have hf := hfn A2 c2
        clear hb hn2 hfn
        go_wp2_with fail
        refine HN.out.mono ?_
        rintro e w2 ⟨rfl, hb⟩
        have B2 := Lib.hid (on B1.out hb)
        clear hb
        go_wp2_with fail
        go_ret
        exact ⟨ret_int HX.out.symm, B2.out.alloc B2.out.size _⟩
end
end Go.Proofs.YtdnedeeocpaolaaDoor.W07
