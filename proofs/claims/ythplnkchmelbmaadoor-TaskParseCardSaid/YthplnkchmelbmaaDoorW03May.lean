/-
  Layer 3 (name), walks of what is asked of a rune (mayStand, isPlain), and of hasOnly with each. No condition but those that each theorem bears.
-/
import Derived.Test.YthplnkchmelbmaaDoorW03Rune
namespace Go.Proofs.YthplnkchmelbmaaDoor.W03
set_option maxRecDepth 100000
open Go Go.RowKit Go.Proofs.YthplnkchmelbmaaDoor.Strs Go.Proofs.YthplnkchmelbmaaDoor.M03
open Go.Proofs.YthplnkchmelbmaaDoor.Kit (ret_str ret_bool ret_int mk_of below_draws on take_next take_end byte_eq byte_ne)

def mayR (r : Nat) : Bool := decide (r ≠ 0) && decide (r ≠ 47)
def plainR (r : Nat) : Bool := (decide (97 ≤ r) && decide (r ≤ 122)) || (decide (65 ≤ r) && decide (r ≤ 90)) || (decide (48 ≤ r) && decide (r ≤ 57)) || decide (r = 46) || decide (r = 95) || decide (r = 43) || decide (r = 45)
def goodB (c : UInt8) : Bool := !badByte c
theorem may_alike : Alike mayR goodB true where
  low := fun c hc => by
    have h0 : (c = 0) ↔ c.toNat = 0 := ⟨fun e => by rw [e]; rfl, fun e => UInt8.toNat_inj.1 e⟩
    have h1 : (c = 47) ↔ c.toNat = 47 := ⟨fun e => by rw [e]; rfl, fun e => UInt8.toNat_inj.1 e⟩
    simp only [goodB, badByte, mayR, h0, h1]
    by_cases a : c.toNat = 0 <;> by_cases b : c.toNat = 47 <;> simp [a, b]
  high := fun c hc => by
    have h0 : ¬ c = 0 := fun e => by rw [e] at hc; revert hc; decide
    have h1 : ¬ c = 47 := fun e => by rw [e] at hc; revert hc; decide
    simp [goodB, badByte, h0, h1]
  rune := fun r hr => by
    have h0 : ¬ r = 0 := by omega
    have h1 : ¬ r = 47 := by omega
    simp [mayR, h0, h1]
theorem may_any (r : Nat) (w : World) :
    Calls Tryd.prog 53 #[.int .i32 r] w fun e w' => e = .returned (.bool (mayR r)) ∧ w' = w := by
  by_cases h0 : r = 0
  · subst h0
    go_enter Tryd.func53, Tryd.ntmps53
    go_wp2
    go_ret
    exact ⟨rfl, rfl⟩
  · have t0 : ((r : Int) != 0) = true := by rw [bne_iff_ne]; omega
    by_cases h1 : r = 47
    · subst h1
      go_enter Tryd.func53, Tryd.ntmps53
      go_wp2
      go_ret
      exact ⟨rfl, rfl⟩
    · have t1 : ((r : Int) != 47) = true := by rw [bne_iff_ne]; omega
      have HE : Hid (mayR r = true) := by show mayR r = true; simp [mayR, h0, h1]
      clear h0 h1
      go_enter Tryd.func53, Tryd.ntmps53
      go_wp2
      go_ret
      exact ⟨ret_bool HE.out.symm, rfl⟩
theorem plainR_yes {r : Nat} (h : (97 ≤ (r : Int) ∧ (r : Int) ≤ 122) ∨ (65 ≤ (r : Int) ∧ (r : Int) ≤ 90) ∨ (48 ≤ (r : Int) ∧ (r : Int) ≤ 57) ∨ (r : Int) = 46 ∨ (r : Int) = 95 ∨ (r : Int) = 43 ∨ (r : Int) = 45) : true = plainR r := by
  unfold plainR
  have e : (97 ≤ r ∧ r ≤ 122) ∨ (65 ≤ r ∧ r ≤ 90) ∨ (48 ≤ r ∧ r ≤ 57) ∨ r = 46 ∨ r = 95 ∨ r = 43 ∨ r = 45 := by omega
  rcases e with e | e | e | e | e | e | e <;> simp [e]
theorem plainR_not {r : Nat} (h : ¬ ((97 ≤ (r : Int) ∧ (r : Int) ≤ 122) ∨ (65 ≤ (r : Int) ∧ (r : Int) ≤ 90) ∨ (48 ≤ (r : Int) ∧ (r : Int) ≤ 57) ∨ (r : Int) = 46 ∨ (r : Int) = 95 ∨ (r : Int) = 43 ∨ (r : Int) = 45)) : false = plainR r := by
  cases hp : plainR r with
  | false => rfl
  | true =>
    unfold plainR at hp
    simp only [Bool.or_eq_true, Bool.and_eq_true, decide_eq_true_eq] at hp
    omega
theorem hasOnly_may (s : ByteArray) (w : World) :
    Calls Tryd.prog 52 #[.string s, .func (.func 53) #[] #[]] w fun e w' => e = .returned (.bool (s.data.toList.all goodB)) ∧ Below w.heap.size w w' := by
  have HF := Lib.hid (fun (r : Nat) (w : World) (_ : r ≤ 2147483647) => may_any r w)
  have A := may_alike
  generalize mayR = q at HF A
  generalize goodB = p at A ⊢
  go_enter Tryd.func52, Tryd.ntmps52
  go_wp2
  go_loopw [] (fun w' => ∃ pos : Nat, pos ≤ s.size ∧ w' = w.iter s pos ∧ Hid ((s.data.toList.take pos).all p = true)) (fun w' => s.size - w'.iterPos w.heap.size)
  case atStart => exact ⟨0, Nat.zero_le _, rfl, Lib.hid rfl⟩
  case round =>
    obtain ⟨pos, hp, rfl, ha⟩ := hrel
    by_cases hlt : pos < s.size
    · have hnx : ∀ ty, (Instr.next (.pointer (some ⟨w.heap.size, 0, none⟩)) true ty).run Tryd.prog (w.iter s pos) = _ := fun ty => run_next_any w s pos ty hlt
      have hwd := width_pos s pos hlt
      have hle := decode_le s pos
      have HQ := Lib.hid (fun h => alike_no A hlt h)
      have HY := Lib.hid (fun h => alike_yes A hlt h ha.out)
      generalize Utf8.decode s pos = d at *
      obtain ⟨r, n⟩ := d
      cases hq : q r with
      | true =>
        have HR := HF.out r
        rw [hq] at HR
        have HR := Lib.hid HR
        obtain ⟨hs, hn⟩ := HY.out hq
        have HN := Lib.hid hn
        clear hn hq
        go_wp2_with fail
        refine (HR.out _ (by omega)).mono ?_
        rintro e w' ⟨rfl, rfl⟩
        go_wp2
        go_roundw
        case rel => exact ⟨pos + n, hs, rfl, HN⟩
        case measure => simp; omega
      | false =>
        have HR := HF.out r
        rw [hq] at HR
        have HR := Lib.hid HR
        have HN := Lib.hid (HQ.out hq)
        clear hq
        go_wp2_with fail
        refine (HR.out _ (by omega)).mono ?_
        rintro e w' ⟨rfl, rfl⟩
        go_wp2
        go_ret
        exact ⟨ret_bool HN.out.symm, (Below.refl _ w).alloc (Nat.le_refl _) _⟩
    · have hnx : ∀ ty, (Instr.next (.pointer (some ⟨w.heap.size, 0, none⟩)) true ty).run Tryd.prog (w.iter s pos) = _ := fun ty => run_next_end w s pos ty hlt
      have HN : Hid (s.data.toList.all p = true) := by
        have := ha.out
        rw [take_end s pos hlt] at this
        exact this
      go_wp2
      go_ret
      exact ⟨ret_bool HN.out.symm, (Below.refl _ w).alloc (Nat.le_refl _) _⟩
end Go.Proofs.YthplnkchmelbmaaDoor.W03
