/-
  Layer 19 (task), a walk: the program's Bare: which text a word is of. The conditions stand in the statement.
-/
import Derived.Test.YthplnkchmelbmaaDoorW19First
namespace Go.Proofs.YthplnkchmelbmaaDoor.W19
set_option maxRecDepth 100000
open Go Go.RowKit Go.Proofs.YthplnkchmelbmaaDoor.M19
open Go.Proofs.YthplnkchmelbmaaDoor.Kit (ret_str ret_bool ret_int mk_of mk_bytes ba_ext below_draws on drop_bytes)

/-- what a call returns that tells a word's text -/
def Bares (w : World) (l : Bytes) (e : Ending) (w' : World) : Prop := ∃ (d : ByteArray) (o : Bool), e = .returned (.tuple #[.string d, .bool o]) ∧ WordOf l d.data.toList o ∧ Below w.heap.size w w'
section
variable {s : ByteArray} {k : Nat} {out : Bytes}
theorem bare_stops (h : shield out = s.data.toList.take k) (hk : k < s.size) (hn : first (s.data.toList.drop k) = none) : WordOf s.data.toList [] false :=
  Or.inr ⟨rfl, rfl, fun x e => stops (a := out) hn (by rw [Kit.drop_next s k hk]; simp) (by rw [e, h, List.take_append_drop])⟩
theorem bare_more {c : UInt8} {n : Nat} (h : shield out = s.data.toList.take k) (hk : k < s.size) (hn : first (s.data.toList.drop k) = some (c, n)) : shield (out ++ [c]) = s.data.toList.take (k + n) ∧ k + n ≤ s.size ∧ 1 ≤ n ∧ n ≤ 3 := by
  obtain ⟨e1, e2⟩ := first_some hn
  have h1 := word_pos c
  have h2 := word_le c
  have hl : n ≤ (s.data.toList.drop k).length := by rw [e2, List.length_append, e1]; omega
  rw [List.length_drop, ← Lib.size_eq] at hl
  refine ⟨?_, by omega, by omega, by omega⟩
  rw [shield_more, h, List.take_add]
  congr 1
  rw [e2, e1, List.take_left']
  rfl
theorem bare_end (h : shield out = s.data.toList.take k) (hk : ¬ k < s.size) : WordOf s.data.toList out true := Or.inl ⟨rfl, by rw [h, Kit.take_end s k hk]⟩
end
theorem one_some (c : UInt8) (n : Nat) : one (some (c, n)) = .tuple #[.int .u8 (c.toNat : Int), .int .i64 (n : Int)] := rfl
theorem one_none : one none = .tuple #[.int .u8 0, .int .i64 0] := rfl
set_option maxHeartbeats 1000000 in
theorem bare_any (s : ByteArray) (hs : s.size ≤ 1099511627776) (w : World) : Calls Tryd.prog 13 #[.string s] w (Bares w s.data.toList) := by
  obtain ⟨i0, hi, hz0, hz1, hz2⟩ := info_parts byte_info
  go_enter Tryd.func13, Tryd.ntmps13
  go_wp2_with (at_make; refine wpList_make_own _ rfl _ _ 53 rfl w.heap.size 5 i0 (.int .u8 0) 1 Tryd.underlying53 hi hz0 hz1 .i64 .i64 _ s.size rfl rfl rfl (by rw [hz2]; omega) (by unfold maxLen; omega) (Nat.le_refl _) ?_; intro w1 hown1 hgrow1)
  have B1 := Lib.hid ((Below.refl _ w).grown hgrow1 (Nat.le_refl _) (fun r e => by cases e))
  have O1 : Hid (Row w1 w.heap.size (.slice (some ⟨w.heap.size, 0, none⟩) 0 s.size) []) := hown1
  clear hown1 hgrow1
  go_wp2_with fail
  go_loopw [4, 5] (fun v i wr => ∃ (k : Nat) (out : Bytes) (va : Value), va = v ∧ k ≤ s.size ∧ out.length ≤ k ∧ i = .int .i64 k ∧ Hid (Row wr w.heap.size v out) ∧ Hid (shield out = s.data.toList.take k) ∧ Hid (Below w.heap.size w wr)) (fun _ i _ => s.size - (intOf i).toNat)
  case atStart => exact ⟨0, [], _, rfl, Nat.zero_le _, Nat.zero_le _, rfl, O1, rfl, B1⟩
  case round =>
    obtain ⟨k, out, va, rfl, hk, hol, rfl, hown, hq, hb⟩ := hrel
    by_cases hlt : k < s.size
    · have HF := Lib.hid (fun w => first_any (s.extract k s.size) (by rw [ByteArray.size_extract]; omega) w)
      rw [drop_bytes] at HF
      cases hf : first (s.data.toList.drop k) with
      | none =>
        have HT := Lib.hid (bare_stops hq.out hlt hf)
        rw [hf, one_none] at HF
        clear hf
        go_wp2_with fail
        refine (HF.out _).mono ?_
        rintro e w2 ⟨rfl, n, rfl⟩
        go_wp2_with fail
        go_ret2
        exact ⟨⟨#[]⟩, false, rfl, HT.out, on hb.out (below_draws _ n)⟩
      | some x =>
        obtain ⟨c, n⟩ := x
        obtain ⟨m1, m2, m3, m4⟩ := bare_more hq.out hlt hf
        have HX := Lib.hid m1
        rw [hf, one_some] at HF
        have tn : ((n : Int) == 0) = false := by
          cases e : ((n : Int) == 0) with
          | false => rfl
          | true => have := beq_iff_eq.1 e; omega
        clear hf m1
        go_wp2_with fail
        refine (HF.out _).mono ?_
        rintro e w2 ⟨rfl, m, rfl⟩
        have B2 := Lib.hid (on hb.out (below_draws _ m))
        have O2 : Hid (Row (wr.drewN m) w.heap.size va out) := hown.out
        have hbs := Lib.hid B2.out.size
        generalize wr.drewN m = w2 at B2 O2 hbs ⊢
        go_wp2_with (at_builtin; refine wpList_append_own _ rfl (.tmp 24) (.tmp 26) 53 rfl w.heap.size 5 i0 (.int .u8 0) 1 1 Tryd.underlying53 hi hz0 hz1 hz2 rfl (by decide) _ _ _ rfl (O2.out.alloc _) ⟨_, 0, none⟩ 1 1 [.int .u8 (c.toNat : Int)] rfl rfl (cell_one_new _ _ _) (by intro u hu; simp at hu; subst hu; rfl) (by unfold maxLen; omega) (by omega) (by simp; exact Nat.le_succ_of_le hbs.out) ?_; intro v1 w1 hown1 hgrow1 _)
        have B3 := Lib.hid (Strs.below_more B2.out O2.out hgrow1)
        have O3 : Hid (Row w1 w.heap.size v1 (out ++ [c])) := row_more hown1 rfl rfl
        clear hown1 hgrow1
        go_wp2_with fail
        go_roundw
        case rel => exact ⟨k + n, out ++ [c], _, rfl, m2, by rw [List.length_append]; simp; omega, by go_num, O3, HX, B3⟩
        case measure => simp [intOf]; omega
    · have HT := Lib.hid (bare_end hq.out hlt)
      have hcv := row_conv hown.out
      have hd : Hid ((⟨out.toArray⟩ : ByteArray).data.toList = out) := rfl
      go_wp2_with fail
      go_ret2
      exact ⟨_, true, rfl, HT.out, hb.out⟩
end Go.Proofs.YthplnkchmelbmaaDoor.W19
