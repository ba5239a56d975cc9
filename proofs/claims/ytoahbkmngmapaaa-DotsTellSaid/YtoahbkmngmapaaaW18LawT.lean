/-
  The law DotsTell of layer 18 (dots): it returns true whatever it is given. The conditions stand in the statement.
-/
import Derived.Test.YtoahbkmngmapaaaW18Walk
namespace Go.Proofs.Ytoahbkmngmapaaa.W18
set_option maxRecDepth 100000
open Go Go.RowKit Go.Proofs.Ytoahbkmngmapaaa.M18
open Go.Proofs.Ytoahbkmngmapaaa.Kit (ret_str ret_bool mk_of mk_bytes ba_ext cat_bytes)
set_option maxHeartbeats 2000000 in
theorem dotsTell_law (s : ByteArray) (hs : s.size ≤ 140737488351232) (w : World) : Calls Try.prog 3 #[.string s] w fun e w' => e = .returned (.bool true) ∧ Below w.heap.size w w' := by
  obtain ⟨d, hd⟩ : ∃ d : ByteArray, d.data.toList = toP s.data.toList := ⟨⟨(toP s.data.toList).toArray⟩, rfl⟩
  obtain ⟨f, hf⟩ : ∃ f : ByteArray, f.data.toList = ofP s.data.toList := ⟨⟨(ofP s.data.toList).toArray⟩, rfl⟩
  have hds : d.size ≤ 140737488355328 := by
    have := to_len s.data.toList
    rw [← hd, ← Lib.size_eq, ← Lib.size_eq] at this; omega
  have hfs : f.size ≤ 140737488355328 := by
    have := of_len s.data.toList
    rw [← hf, ← Lib.size_eq, ← Lib.size_eq] at this; omega
  have HT : Hid (∀ w : World, Calls Try.prog 6 #[.string s] w fun e w' => e = .returned (.string d) ∧ w' = w) := fun w => to_any hd (by omega)
  have HF : Hid (∀ w : World, Calls Try.prog 5 #[.string s] w fun e w' => e = .returned (.string f) ∧ w' = w) := fun w => of_any hf (by omega)
  have RT : Hid (∀ w : World, Calls Try.prog 7 #[.string s] w fun e w' => e = .returned (.string d) ∧ w' = w) := fun w => refTo_any hd (by omega)
  have RF : Hid (∀ w : World, Calls Try.prog 8 #[.string s] w fun e w' => e = .returned (.string f) ∧ w' = w) := fun w => refFrom_any hf (by omega)
  have HV := Lib.hid lives_any
  have sd := eq_bytes (t := d) (u := d) rfl
  have sf := eq_bytes (t := f) (u := f) rfl
  have ss := eq_bytes (t := s) (u := s) rfl
  by_cases e1 : toP s.data.toList = s.data.toList
  · have HI : Hid (∀ w : World, Calls Try.prog 4 #[.string s] w fun e w' => e = .returned (.bool false) ∧ w' = w) := fun w => is_any (by simpa using e1) (by omega)
    have te := eq_bytes (t := d) (u := s) (hd.trans e1)
    clear hd e1
    by_cases e2 : ofP s.data.toList = s.data.toList
    · have tf := eq_bytes (t := f) (u := s) (hf.trans e2)
      clear hf e2 hds hfs
      go_enter Try.func3, Try.ntmps3
      go_wp2_with fail
      refine (HI.out _).mono ?_
      rintro e w1 ⟨rfl, rfl⟩
      go_wp2_with fail
      refine (HF.out _).mono ?_
      rintro e w1 ⟨rfl, rfl⟩
      go_wp2_with fail
      refine (HT.out _).mono ?_
      rintro e w1 ⟨rfl, rfl⟩
      go_wp2_with fail
      refine (RT.out _).mono ?_
      rintro e w1 ⟨rfl, rfl⟩
      go_wp2_with fail
      refine (HF.out _).mono ?_
      rintro e w1 ⟨rfl, rfl⟩
      go_wp2_with fail
      refine (RF.out _).mono ?_
      rintro e w1 ⟨rfl, rfl⟩
      go_wp2_with fail
      refine (HI.out _).mono ?_
      rintro e w1 ⟨rfl, rfl⟩
      go_wp2_with fail
      refine (RT.out _).mono ?_
      rintro e w1 ⟨rfl, rfl⟩
      go_wp2_with fail
      refine (HV.out _).mono ?_
      rintro e w1 ⟨rfl, rfl⟩
      go_wp2_with fail
      go_ret
      exact ⟨rfl, Below.refl _ _⟩
    · have tf := ne_bytes (t := f) (u := s) (by rw [hf]; exact e2)
      have HTF : Hid (∀ w : World, Calls Try.prog 6 #[.string f] w fun e w' => e = .returned (.string s) ∧ w' = w) := fun w => to_any (by rw [hf, of_back e2]) (by omega)
      clear hf e2 hds hfs
      go_enter Try.func3, Try.ntmps3
      go_wp2_with fail
      refine (HI.out _).mono ?_
      rintro e w1 ⟨rfl, rfl⟩
      go_wp2_with fail
      refine (HF.out _).mono ?_
      rintro e w1 ⟨rfl, rfl⟩
      go_wp2_with fail
      refine (HF.out _).mono ?_
      rintro e w1 ⟨rfl, rfl⟩
      go_wp2_with fail
      refine (HTF.out _).mono ?_
      rintro e w1 ⟨rfl, rfl⟩
      go_wp2_with fail
      refine (HT.out _).mono ?_
      rintro e w1 ⟨rfl, rfl⟩
      go_wp2_with fail
      refine (RT.out _).mono ?_
      rintro e w1 ⟨rfl, rfl⟩
      go_wp2_with fail
      refine (HF.out _).mono ?_
      rintro e w1 ⟨rfl, rfl⟩
      go_wp2_with fail
      refine (RF.out _).mono ?_
      rintro e w1 ⟨rfl, rfl⟩
      go_wp2_with fail
      refine (HI.out _).mono ?_
      rintro e w1 ⟨rfl, rfl⟩
      go_wp2_with fail
      refine (RT.out _).mono ?_
      rintro e w1 ⟨rfl, rfl⟩
      go_wp2_with fail
      refine (HV.out _).mono ?_
      rintro e w1 ⟨rfl, rfl⟩
      go_wp2_with fail
      go_ret
      exact ⟨rfl, Below.refl _ _⟩
  · have HI : Hid (∀ w : World, Calls Try.prog 4 #[.string s] w fun e w' => e = .returned (.bool true) ∧ w' = w) := fun w => is_any (by simpa using e1) (by omega)
    have te := ne_bytes (t := d) (u := s) (by rw [hd]; exact e1)
    have HFT : Hid (∀ w : World, Calls Try.prog 5 #[.string d] w fun e w' => e = .returned (.string s) ∧ w' = w) := fun w => of_any (by rw [hd, to_back e1]) hds
    clear hd e1
    by_cases e2 : ofP s.data.toList = s.data.toList
    · have tf := eq_bytes (t := f) (u := s) (hf.trans e2)
      clear hf e2 hds hfs
      go_enter Try.func3, Try.ntmps3
      go_wp2_with fail
      refine (HI.out _).mono ?_
      rintro e w1 ⟨rfl, rfl⟩
      go_wp2_with fail
      refine (HT.out _).mono ?_
      rintro e w1 ⟨rfl, rfl⟩
      go_wp2_with fail
      refine (HFT.out _).mono ?_
      rintro e w1 ⟨rfl, rfl⟩
      go_wp2_with fail
      refine (HF.out _).mono ?_
      rintro e w1 ⟨rfl, rfl⟩
      go_wp2_with fail
      refine (HT.out _).mono ?_
      rintro e w1 ⟨rfl, rfl⟩
      go_wp2_with fail
      refine (RT.out _).mono ?_
      rintro e w1 ⟨rfl, rfl⟩
      go_wp2_with fail
      refine (HF.out _).mono ?_
      rintro e w1 ⟨rfl, rfl⟩
      go_wp2_with fail
      refine (RF.out _).mono ?_
      rintro e w1 ⟨rfl, rfl⟩
      go_wp2_with fail
      refine (HI.out _).mono ?_
      rintro e w1 ⟨rfl, rfl⟩
      go_wp2_with fail
      refine (RT.out _).mono ?_
      rintro e w1 ⟨rfl, rfl⟩
      go_wp2_with fail
      refine (HV.out _).mono ?_
      rintro e w1 ⟨rfl, rfl⟩
      go_wp2_with fail
      go_ret
      exact ⟨rfl, Below.refl _ _⟩
    · have tf := ne_bytes (t := f) (u := s) (by rw [hf]; exact e2)
      have HTF : Hid (∀ w : World, Calls Try.prog 6 #[.string f] w fun e w' => e = .returned (.string s) ∧ w' = w) := fun w => to_any (by rw [hf, of_back e2]) (by omega)
      clear hf e2 hds hfs
      go_enter Try.func3, Try.ntmps3
      go_wp2_with fail
      refine (HI.out _).mono ?_
      rintro e w1 ⟨rfl, rfl⟩
      go_wp2_with fail
      refine (HT.out _).mono ?_
      rintro e w1 ⟨rfl, rfl⟩
      go_wp2_with fail
      refine (HFT.out _).mono ?_
      rintro e w1 ⟨rfl, rfl⟩
      go_wp2_with fail
      refine (HF.out _).mono ?_
      rintro e w1 ⟨rfl, rfl⟩
      go_wp2_with fail
      refine (HF.out _).mono ?_
      rintro e w1 ⟨rfl, rfl⟩
      go_wp2_with fail
      refine (HTF.out _).mono ?_
      rintro e w1 ⟨rfl, rfl⟩
      go_wp2_with fail
      refine (HT.out _).mono ?_
      rintro e w1 ⟨rfl, rfl⟩
      go_wp2_with fail
      refine (RT.out _).mono ?_
      rintro e w1 ⟨rfl, rfl⟩
      go_wp2_with fail
      refine (HF.out _).mono ?_
      rintro e w1 ⟨rfl, rfl⟩
      go_wp2_with fail
      refine (RF.out _).mono ?_
      rintro e w1 ⟨rfl, rfl⟩
      go_wp2_with fail
      refine (HI.out _).mono ?_
      rintro e w1 ⟨rfl, rfl⟩
      go_wp2_with fail
      refine (RT.out _).mono ?_
      rintro e w1 ⟨rfl, rfl⟩
      go_wp2_with fail
      refine (HV.out _).mono ?_
      rintro e w1 ⟨rfl, rfl⟩
      go_wp2_with fail
      go_ret
      exact ⟨rfl, Below.refl _ _⟩
end Go.Proofs.Ytoahbkmngmapaaa.W18
