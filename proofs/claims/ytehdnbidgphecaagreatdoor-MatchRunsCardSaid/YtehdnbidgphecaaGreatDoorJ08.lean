/-
  Texts joined, in build order, each with its own comment and its own conditions: W13Text, W13Sets, W13Items, W13Item, W13Parse.
-/
import Derived.Test.YtehdnbidgphecaaGreatDoorJ07
import Derived.Laws.BytesString
/-
  Layer 13 (class): the program's text of 256 truths. The conditions stand in the statements.
-/
namespace Go.Proofs.YtehdnbidgphecaaGreatDoor.W13
set_option maxRecDepth 100000
open Go Go.RowKit Go.Proofs.YtehdnbidgphecaaGreatDoor.M13 Go.Proofs.YtehdnbidgphecaaGreatDoor.Row256
open Go.Proofs.YtehdnbidgphecaaGreatDoor.Kit (ret_str ret_bool ret_int mk_of mk_bytes ba_ext below_draws on)

/-- the text of 256 truths, as a value's bytes -/
def tx (f : Nat → Bool) : ByteArray := ⟨(textOf f).toArray⟩
theorem tx_list (f : Nat → Bool) : (tx f).data.toList = textOf f := rfl
theorem tx_congr {f g : Nat → Bool} (h : ∀ i, i < 256 → f i = g i) : tx f = tx g := by unfold tx; rw [textOf_congr h]
def uv (f : Nat → UInt8) (i : Nat) : Value := .int .u8 (f i).toNat
theorem uv_eq {f g : Nat → UInt8} {i : Nat} (h : f i = g i) : uv f i = uv g i := by unfold uv; rw [h]
theorem info52 : (Tryz.prog.info? 143).map (fun i => (i.zero, i.size)) = some (some (Value.agg (Array.replicate 256 (.int .u8 0))), 256) := by kernel_rfl
theorem zero52 (w : World) : (zeroValue 143).run Tryz.prog w = .ok (.agg (rowV (uv fun _ => 0))) w := by
  have h := (zero_of_info info52).1 w
  rw [rowV_same] at h; exact h
/-- one round of the loop that writes the text's bytes -/
theorem byte_step {w : World} {b i : Nat} {t : TypeId} {F : Nat → UInt8} {v : Value} (h : Row w b t (uv fun j => if j < i then F j else 0)) (u : Value) (hv : v = uv F i) : Row ((w.setCell ⟨b, i, none⟩ u).setCell ⟨b, i, none⟩ v) b t (uv fun j => if j < i + 1 then F j else 0) := by
  refine ((h.put i u).put i v).is fun j _ => ?_
  by_cases e : j = i
  · subst e
    rw [if_pos rfl, hv]
    exact uv_eq (g := fun k => if k < j + 1 then F k else 0) (by rw [if_pos (by omega)])
  · rw [if_neg e, if_neg e]
    refine uv_eq ?_
    by_cases e2 : j < i
    · rw [if_pos e2, if_pos (by omega)]
    · rw [if_neg e2, if_neg (by omega)]
theorem byte_step0 {w : World} {b i : Nat} {t : TypeId} {F : Nat → UInt8} {v : Value} (h : Row w b t (uv fun j => if j < i then F j else 0)) (hv : v = uv F i) : Row (w.setCell ⟨b, i, none⟩ v) b t (uv fun j => if j < i + 1 then F j else 0) := by
  refine (h.put i v).is fun j _ => ?_
  by_cases e : j = i
  · subst e
    rw [if_pos rfl, hv]
    exact uv_eq (g := fun k => if k < j + 1 then F k else 0) (by rw [if_pos (by omega)])
  · rw [if_neg e]
    refine uv_eq ?_
    by_cases e2 : j < i
    · rw [if_pos e2, if_pos (by omega)]
    · rw [if_neg e2, if_neg (by omega)]
theorem conv_row {w : World} {b : Nat} {t : TypeId} {f : Nat → Bool} (h : Row w b t (uv fun j => bit (f j))) : (convert 157 9 (.slice (some ⟨b, 0, none⟩) 256 256)).run Tryz.prog w = .ok (.string (tx f)) w := by
  have h2 := run_convert_bytes_back (P := Tryz.prog) w 157 9 5 ⟨b, 0, none⟩ 256 (textOf f) Tryz.underlying157 Tryz.underlying5 Tryz.underlying9 (fun j hj => by
    have hj2 : j < 256 := by rw [textOf_len] at hj; exact hj
    have hc := h.cell hj2
    have hadd : (⟨b, 0, none⟩ : Addr).add j = ⟨b, j, none⟩ := by unfold Addr.add; split <;> simp_all
    have e : (textOf f)[j]'hj = bit (f j) := by
      have := textOf_get f hj2
      rw [List.getElem?_eq_getElem hj] at this
      exact Option.some.inj this
    rw [hadd, hc]
    show some (Value.int .u8 (bit (f j)).toNat) = some (Value.int .u8 ((textOf f)[j]'hj).toNat)
    rw [e])
  rw [textOf_len] at h2
  exact h2
set_option maxHeartbeats 1000000 in
theorem text_any (f : Nat → Bool) (w : World) :
    Calls Tryz.prog 127 #[.agg (rowV (bv f))] w fun e w' => e = .returned (.string (tx f)) ∧ Below w.heap.size w w' := by
  have hz := zero52
  go_enter Tryz.func127, Tryz.ntmps127
  go_wp2_with fail
  have hn1 : Row (w.alloc (.cells (rowV (bv f)) 139)) w.heap.size 139 (bv f) := Row.new _ _ _
  have hn2 := Row.new (w.alloc (.cells (rowV (bv f)) 139)) 143 (uv fun _ => 0)
  rw [World.size_alloc] at hn2
  have HN := Lib.hid (And.intro (hn1.alloc (.cells (rowV (uv fun _ => 0)) 143)) hn2)
  have HB := Lib.hid ((Below.refl w.heap.size w).alloc (Nat.le_refl _) (.cells (rowV (bv f)) 139) |>.alloc (by rw [World.size_alloc]; omega) (.cells (rowV (uv fun _ => 0)) 143))
  clear hn1 hn2 hz
  generalize ((w.alloc (.cells (rowV (bv f)) 139)).alloc (.cells (rowV (uv fun _ => 0)) 143)) = w1 at HN HB ⊢
  go_loopg [5] 256 (fun g s5 wr => ∃ i : Nat, s5 = .int .i64 i ∧ i + g = 256 ∧ Hid (Row wr (w.heap.size + 1) 143 (uv fun j => if j < i then bit (f j) else 0)) ∧ Hid (Row wr w.heap.size 139 (bv f)) ∧ Hid (Below w.heap.size w wr))
  case atStart => exact ⟨0, rfl, rfl, HN.out.2.is fun j _ => uv_eq (by rw [if_neg (by omega)]), HN.out.1, HB⟩
  case round =>
    obtain ⟨i, rfl, hig, hr, hz, hb⟩ := hrel
    cases gk with
    | zero =>
      obtain rfl : i = 256 := by omega
      have hconv := conv_row (f := f) (hr.out.is fun j hj => uv_eq (by rw [if_pos hj]))
      go_wp2_with fail
      go_ret
      exact ⟨rfl, hb.out⟩
    | succ g =>
      have hi3 : (i : Int) < 256 := by omega
      have hcell := hr.out.cell (i := i) (by omega)
      have hfree := hr.out.free i
      generalize hold : uv (fun j => if j < i then bit (f j) else 0) i = old at hcell
      clear hold
      have hcell2 : wr.cell? ⟨w.heap.size, i, none⟩ = some (.bool (f i)) := hz.out.cell (i := i) (by omega)
      cases hf : f i with
      | true =>
        rw [hf] at hcell2
        go_wp2_with fail
        go_roundg g
        case measure => omega
        case rel => exact ⟨i + 1, by first | rfl | simp, by omega, byte_step hr.out _ (by rw [show uv (fun j => bit (f j)) i = .int .u8 (bit (f i)).toNat from rfl, hf]; rfl), (hz.out.other (a := ⟨w.heap.size + 1, i, none⟩) (by simp) _).other (by simp) _, (hb.out.setCell (p := ⟨w.heap.size + 1, i, none⟩) (by simp) _).setCell (by simp) _⟩
      | false =>
        rw [hf] at hcell2
        go_wp2_with fail
        go_roundg g
        case measure => omega
        case rel => exact ⟨i + 1, by first | rfl | simp, by omega, byte_step0 hr.out (by rw [show uv (fun j => bit (f j)) i = .int .u8 (bit (f i)).toNat from rfl, hf]; rfl), hz.out.other (by simp) _, hb.out.setCell (by simp) _⟩
end Go.Proofs.YtehdnbidgphecaaGreatDoor.W13
/-
  Layer 13 (class), the contracts of the program's functions: Span, One, Union, Not, Named. The conditions stand in the statements.
-/
namespace Go.Proofs.YtehdnbidgphecaaGreatDoor.W13
set_option maxRecDepth 100000
open Go Go.RowKit Go.Proofs.YtehdnbidgphecaaGreatDoor.M13 Go.Proofs.YtehdnbidgphecaaGreatDoor.Row256
open Go.Proofs.YtehdnbidgphecaaGreatDoor.Kit (ret_str ret_bool ret_int mk_of mk_bytes ba_ext below_draws on)

/-- an array of no truths in a block of its own -/
theorem new_row (w : World) : Row (w.alloc (.cells (rowV (bv fun _ => false)) 139)) w.heap.size 139 (bv fun _ => false) ∧ Below w.heap.size w (w.alloc (.cells (rowV (bv fun _ => false)) 139)) :=
  ⟨Row.new _ _ _, (Below.refl w.heap.size w).alloc (Nat.le_refl _) _⟩
theorem new_rows (w : World) : Row ((w.alloc (.cells (rowV (bv fun _ => false)) 139)).alloc (.cells (rowV (bv fun _ => false)) 139)) w.heap.size 139 (bv fun _ => false) ∧ Row ((w.alloc (.cells (rowV (bv fun _ => false)) 139)).alloc (.cells (rowV (bv fun _ => false)) 139)) (w.heap.size + 1) 139 (bv fun _ => false) ∧ Below w.heap.size w ((w.alloc (.cells (rowV (bv fun _ => false)) 139)).alloc (.cells (rowV (bv fun _ => false)) 139)) := by
  have h := new_row (w.alloc (.cells (rowV (bv fun _ => false)) 139))
  rw [World.size_alloc] at h
  exact ⟨(new_row w).1.alloc _, h.1, (new_row w).2.trans (h.2.mono (Nat.le_succ _))⟩
set_option maxHeartbeats 1000000 in
theorem not_any (s : ByteArray) (w : World) : Calls Tryz.prog 115 #[.string s] w fun e w' => e = .returned (.string (tx fun i => !has s.data.toList i)) ∧ Below w.heap.size w w' := by
  go_enter Tryz.func115, Tryz.ntmps115
  go_wp2_with fail
  refine (bitsOf_any _ _).mono ?_
  rintro e w1 ⟨rfl, hb1⟩
  have HB1 := Lib.hid hb1
  clear hb1
  go_wp2_with fail
  refine (others_any _ _).mono ?_
  rintro e w2 ⟨rfl, hb2⟩
  have HB2 := Lib.hid (on HB1.out hb2)
  clear hb2
  go_wp2_with fail
  refine (text_any _ _).mono ?_
  rintro e w3 ⟨rfl, hb3⟩
  have HB3 := Lib.hid (on HB2.out hb3)
  clear hb3
  go_wp2_with fail
  go_ret
  exact ⟨rfl, HB3.out⟩
theorem row_true {w : World} {b : Nat} {t : TypeId} {f : Nat → Bool} (h : Row w b t (bv f)) (i : Nat) : Row (w.setCell ⟨b, i, none⟩ (.bool true)) b t (bv fun j => f j || decide (j = i)) := by
  refine (h.put i (.bool true)).is fun j _ => ?_
  by_cases e : j = i
  · subst e; rw [if_pos rfl]; exact bv_eq (f := fun _ => true) (by simp)
  · rw [if_neg e]; exact bv_eq (by simp [e])
set_option maxHeartbeats 1000000 in
theorem named_100 (w : World) : Calls Tryz.prog 136 #[.int .u8 100] w fun e w' => e = .returned (.agg (rowV (bv (namedF 100)))) ∧ Below w.heap.size w w' := by
  have hz := zero37
  go_enter Tryz.func136, Tryz.ntmps136
  go_wp2_with fail
  have HN := Lib.hid (new_rows w)
  generalize ((w.alloc (.cells (rowV (bv fun _ => false)) 139)).alloc (.cells (rowV (bv fun _ => false)) 139)) = w1 at HN ⊢
  clear hz
  have HR := Lib.hid HN.out.2.1
  have HQ := Lib.hid HN.out.1
  have HB := Lib.hid HN.out.2.2
  clear HN
  refine (span_any HR.out 48 57).mono ?_
  rintro e w2 ⟨rfl, hr2, hb2⟩
  replace HR := Lib.hid hr2
  replace HQ := Lib.hid (HQ.out.beside hb2 (by omega))
  replace HB := Lib.hid (HB.out.trans (hb2.below HB.out.size (by omega)))
  clear hr2 hb2
  go_wp2_with (first | (refine load_row rfl (.tmp 3) rfl rfl HR.out ?_) | (refine store_row rfl (.tmp 2) (.tmp 26) rfl rfl rfl HQ.out ?_; intro wz hrz hbz; have HRZ := Lib.hid hrz; have HBZ := Lib.hid hbz; clear hrz hbz))
  refine end_row rfl rfl HRZ.out rfl ⟨?_, HB.out.trans (HBZ.out.below HB.out.size (Nat.le_refl _))⟩
  exact congrArg (fun x => Ending.returned (.agg x)) (rowV_congr fun i _ => bv_eq rfl)
set_option maxHeartbeats 1000000 in
theorem named_119 (w : World) : Calls Tryz.prog 136 #[.int .u8 119] w fun e w' => e = .returned (.agg (rowV (bv (namedF 119)))) ∧ Below w.heap.size w w' := by
  have hz := zero37
  go_enter Tryz.func136, Tryz.ntmps136
  go_wp2_with fail
  have HN := Lib.hid (new_rows w)
  generalize ((w.alloc (.cells (rowV (bv fun _ => false)) 139)).alloc (.cells (rowV (bv fun _ => false)) 139)) = w1 at HN ⊢
  clear hz
  have HR := Lib.hid HN.out.2.1
  have HQ := Lib.hid HN.out.1
  have HB := Lib.hid HN.out.2.2
  clear HN
  refine (span_any HR.out 97 122).mono ?_
  rintro e w2 ⟨rfl, hr2, hb2⟩
  replace HR := Lib.hid hr2
  replace HQ := Lib.hid (HQ.out.beside hb2 (by omega))
  replace HB := Lib.hid (HB.out.trans (hb2.below HB.out.size (by omega)))
  clear hr2 hb2
  go_wp2_with fail
  refine (span_any HR.out 65 90).mono ?_
  rintro e w2 ⟨rfl, hr2, hb2⟩
  replace HR := Lib.hid hr2
  replace HQ := Lib.hid (HQ.out.beside hb2 (by omega))
  replace HB := Lib.hid (HB.out.trans (hb2.below HB.out.size (by omega)))
  clear hr2 hb2
  have hcell := HR.out.cell (i := 95) (by omega)
  have hfree := HR.out.free 95
  have HR2 := Lib.hid (row_true HR.out 95)
  have HQ2 := Lib.hid (HQ.out.other (a := ⟨w.heap.size + 1, 95, none⟩) (by simp) (.bool true))
  have HB2 := Lib.hid (HB.out.setCell (p := ⟨w.heap.size + 1, 95, none⟩) (by simp) (.bool true))
  go_wp2_with fail
  clear hcell hfree
  replace HR := HR2
  replace HQ := HQ2
  replace HB := HB2
  refine (span_any HR.out 48 57).mono ?_
  rintro e w2 ⟨rfl, hr2, hb2⟩
  replace HR := Lib.hid hr2
  replace HQ := Lib.hid (HQ.out.beside hb2 (by omega))
  replace HB := Lib.hid (HB.out.trans (hb2.below HB.out.size (by omega)))
  clear hr2 hb2
  go_wp2_with (first | (refine load_row rfl (.tmp 3) rfl rfl HR.out ?_) | (refine store_row rfl (.tmp 2) (.tmp 26) rfl rfl rfl HQ.out ?_; intro wz hrz hbz; have HRZ := Lib.hid hrz; have HBZ := Lib.hid hbz; clear hrz hbz))
  refine end_row rfl rfl HRZ.out rfl ⟨?_, HB.out.trans (HBZ.out.below HB.out.size (Nat.le_refl _))⟩
  exact congrArg (fun x => Ending.returned (.agg x)) (rowV_congr fun i _ => bv_eq rfl)
set_option maxHeartbeats 1000000 in
theorem named_115 (w : World) : Calls Tryz.prog 136 #[.int .u8 115] w fun e w' => e = .returned (.agg (rowV (bv (namedF 115)))) ∧ Below w.heap.size w w' := by
  have hz := zero37
  go_enter Tryz.func136, Tryz.ntmps136
  go_wp2_with fail
  have HN := Lib.hid (new_rows w)
  generalize ((w.alloc (.cells (rowV (bv fun _ => false)) 139)).alloc (.cells (rowV (bv fun _ => false)) 139)) = w1 at HN ⊢
  clear hz
  have HR := Lib.hid HN.out.2.1
  have HQ := Lib.hid HN.out.1
  have HB := Lib.hid HN.out.2.2
  clear HN
  refine (span_any HR.out 9 13).mono ?_
  rintro e w2 ⟨rfl, hr2, hb2⟩
  replace HR := Lib.hid hr2
  replace HQ := Lib.hid (HQ.out.beside hb2 (by omega))
  replace HB := Lib.hid (HB.out.trans (hb2.below HB.out.size (by omega)))
  clear hr2 hb2
  have hcell := HR.out.cell (i := 32) (by omega)
  have hfree := HR.out.free 32
  have HR2 := Lib.hid (row_true HR.out 32)
  have HQ2 := Lib.hid (HQ.out.other (a := ⟨w.heap.size + 1, 32, none⟩) (by simp) (.bool true))
  have HB2 := Lib.hid (HB.out.setCell (p := ⟨w.heap.size + 1, 32, none⟩) (by simp) (.bool true))
  go_wp2_with (first | (refine load_row rfl (.tmp 3) rfl rfl HR2.out ?_) | (refine store_row rfl (.tmp 2) (.tmp 26) rfl rfl rfl HQ2.out ?_; intro wz hrz hbz; have HRZ := Lib.hid hrz; have HBZ := Lib.hid hbz; clear hrz hbz))
  clear hcell hfree
  replace HR := HR2
  replace HQ := HQ2
  replace HB := HB2
  refine end_row rfl rfl HRZ.out rfl ⟨?_, HB.out.trans (HBZ.out.below HB.out.size (Nat.le_refl _))⟩
  exact congrArg (fun x => Ending.returned (.agg x)) (rowV_congr fun i _ => bv_eq rfl)
set_option maxHeartbeats 1000000 in
theorem named_68 (w : World) : Calls Tryz.prog 136 #[.int .u8 68] w fun e w' => e = .returned (.agg (rowV (bv (namedF 68)))) ∧ Below w.heap.size w w' := by
  have hz := zero37
  go_enter Tryz.func136, Tryz.ntmps136
  go_wp2_with fail
  have HN := Lib.hid (new_rows w)
  generalize ((w.alloc (.cells (rowV (bv fun _ => false)) 139)).alloc (.cells (rowV (bv fun _ => false)) 139)) = w1 at HN ⊢
  clear hz
  have HR := Lib.hid HN.out.2.1
  have HQ := Lib.hid HN.out.1
  have HB := Lib.hid HN.out.2.2
  clear HN
  refine (named_100 _).mono ?_
  rintro e w2 ⟨rfl, hb2⟩
  replace HR := Lib.hid (HR.out.on hb2 HR.out.lt)
  replace HQ := Lib.hid (HQ.out.on hb2 HQ.out.lt)
  replace HB := Lib.hid (HB.out.trans (hb2.mono HB.out.size))
  clear hb2
  go_wp2_with fail
  refine (others_any _ _).mono ?_
  rintro e w2 ⟨rfl, hb2⟩
  replace HR := Lib.hid (HR.out.on hb2 HR.out.lt)
  replace HQ := Lib.hid (HQ.out.on hb2 HQ.out.lt)
  replace HB := Lib.hid (HB.out.trans (hb2.mono HB.out.size))
  clear hb2
  go_wp2_with (first | (refine store_row rfl (.tmp 3) (.tmp 19) rfl rfl rfl HR.out ?_; intro wy hry hby; have HRY := Lib.hid hry; have HBY := Lib.hid hby; have HQY := Lib.hid (HQ.out.beside hby (by omega)); clear hry hby) | (refine load_row rfl (.tmp 3) rfl rfl HRY.out ?_) | (refine store_row rfl (.tmp 2) (.tmp 26) rfl rfl rfl HQY.out ?_; intro wz hrz hbz; have HRZ := Lib.hid hrz; have HBZ := Lib.hid hbz; clear hrz hbz))
  replace HB := Lib.hid (HB.out.trans (HBY.out.below HB.out.size (by omega)))
  refine end_row rfl rfl HRZ.out rfl ⟨?_, HB.out.trans (HBZ.out.below HB.out.size (Nat.le_refl _))⟩
  exact congrArg (fun x => Ending.returned (.agg x)) (rowV_congr fun i _ => bv_eq rfl)
set_option maxHeartbeats 1000000 in
theorem named_87 (w : World) : Calls Tryz.prog 136 #[.int .u8 87] w fun e w' => e = .returned (.agg (rowV (bv (namedF 87)))) ∧ Below w.heap.size w w' := by
  have hz := zero37
  go_enter Tryz.func136, Tryz.ntmps136
  go_wp2_with fail
  have HN := Lib.hid (new_rows w)
  generalize ((w.alloc (.cells (rowV (bv fun _ => false)) 139)).alloc (.cells (rowV (bv fun _ => false)) 139)) = w1 at HN ⊢
  clear hz
  have HR := Lib.hid HN.out.2.1
  have HQ := Lib.hid HN.out.1
  have HB := Lib.hid HN.out.2.2
  clear HN
  refine (named_119 _).mono ?_
  rintro e w2 ⟨rfl, hb2⟩
  replace HR := Lib.hid (HR.out.on hb2 HR.out.lt)
  replace HQ := Lib.hid (HQ.out.on hb2 HQ.out.lt)
  replace HB := Lib.hid (HB.out.trans (hb2.mono HB.out.size))
  clear hb2
  go_wp2_with fail
  refine (others_any _ _).mono ?_
  rintro e w2 ⟨rfl, hb2⟩
  replace HR := Lib.hid (HR.out.on hb2 HR.out.lt)
  replace HQ := Lib.hid (HQ.out.on hb2 HQ.out.lt)
  replace HB := Lib.hid (HB.out.trans (hb2.mono HB.out.size))
  clear hb2
  go_wp2_with (first | (refine store_row rfl (.tmp 3) (.tmp 19) rfl rfl rfl HR.out ?_; intro wy hry hby; have HRY := Lib.hid hry; have HBY := Lib.hid hby; have HQY := Lib.hid (HQ.out.beside hby (by omega)); clear hry hby) | (refine load_row rfl (.tmp 3) rfl rfl HRY.out ?_) | (refine store_row rfl (.tmp 2) (.tmp 26) rfl rfl rfl HQY.out ?_; intro wz hrz hbz; have HRZ := Lib.hid hrz; have HBZ := Lib.hid hbz; clear hrz hbz))
  replace HB := Lib.hid (HB.out.trans (HBY.out.below HB.out.size (by omega)))
  refine end_row rfl rfl HRZ.out rfl ⟨?_, HB.out.trans (HBZ.out.below HB.out.size (Nat.le_refl _))⟩
  exact congrArg (fun x => Ending.returned (.agg x)) (rowV_congr fun i _ => bv_eq rfl)
set_option maxHeartbeats 1000000 in
theorem named_83 (w : World) : Calls Tryz.prog 136 #[.int .u8 83] w fun e w' => e = .returned (.agg (rowV (bv (namedF 83)))) ∧ Below w.heap.size w w' := by
  have hz := zero37
  go_enter Tryz.func136, Tryz.ntmps136
  go_wp2_with fail
  have HN := Lib.hid (new_rows w)
  generalize ((w.alloc (.cells (rowV (bv fun _ => false)) 139)).alloc (.cells (rowV (bv fun _ => false)) 139)) = w1 at HN ⊢
  clear hz
  have HR := Lib.hid HN.out.2.1
  have HQ := Lib.hid HN.out.1
  have HB := Lib.hid HN.out.2.2
  clear HN
  refine (named_115 _).mono ?_
  rintro e w2 ⟨rfl, hb2⟩
  replace HR := Lib.hid (HR.out.on hb2 HR.out.lt)
  replace HQ := Lib.hid (HQ.out.on hb2 HQ.out.lt)
  replace HB := Lib.hid (HB.out.trans (hb2.mono HB.out.size))
  clear hb2
  go_wp2_with fail
  refine (others_any _ _).mono ?_
  rintro e w2 ⟨rfl, hb2⟩
  replace HR := Lib.hid (HR.out.on hb2 HR.out.lt)
  replace HQ := Lib.hid (HQ.out.on hb2 HQ.out.lt)
  replace HB := Lib.hid (HB.out.trans (hb2.mono HB.out.size))
  clear hb2
  go_wp2_with (first | (refine store_row rfl (.tmp 3) (.tmp 19) rfl rfl rfl HR.out ?_; intro wy hry hby; have HRY := Lib.hid hry; have HBY := Lib.hid hby; have HQY := Lib.hid (HQ.out.beside hby (by omega)); clear hry hby) | (refine load_row rfl (.tmp 3) rfl rfl HRY.out ?_) | (refine store_row rfl (.tmp 2) (.tmp 26) rfl rfl rfl HQY.out ?_; intro wz hrz hbz; have HRZ := Lib.hid hrz; have HBZ := Lib.hid hbz; clear hrz hbz))
  replace HB := Lib.hid (HB.out.trans (HBY.out.below HB.out.size (by omega)))
  refine end_row rfl rfl HRZ.out rfl ⟨?_, HB.out.trans (HBZ.out.below HB.out.size (Nat.le_refl _))⟩
  exact congrArg (fun x => Ending.returned (.agg x)) (rowV_congr fun i _ => bv_eq rfl)
theorem u8_ne {c d : UInt8} (h : ¬ c = d) : (((c.toNat : Nat) : Int) == ((d.toNat : Nat) : Int)) = false := beq_eq_false_iff_ne.2 fun e => h (Kit.byte_eq e)
set_option maxHeartbeats 1000000 in
theorem named_no {c : UInt8} (h1 : ¬ c = 100) (h2 : ¬ c = 119) (h3 : ¬ c = 115) (h4 : ¬ c = 68) (h5 : ¬ c = 87) (h6 : ¬ c = 83) (w : World) : Calls Tryz.prog 136 #[.int .u8 c.toNat] w fun e w' => e = .returned (.agg (rowV (bv (namedF c)))) ∧ Below w.heap.size w w' := by
  have HF : Hid (namedF c = fun _ => false) := by
    funext i
    unfold namedF
    rw [if_neg h1, if_neg h2, if_neg h3, if_neg h4, if_neg h5, if_neg h6]
  have g1 : (((c.toNat : Nat) : Int) == 100) = false := u8_ne (d := 100) h1
  have g2 : (((c.toNat : Nat) : Int) == 119) = false := u8_ne (d := 119) h2
  have g3 : (((c.toNat : Nat) : Int) == 115) = false := u8_ne (d := 115) h3
  have g4 : (((c.toNat : Nat) : Int) == 68) = false := u8_ne (d := 68) h4
  have g5 : (((c.toNat : Nat) : Int) == 87) = false := u8_ne (d := 87) h5
  have g6 : (((c.toNat : Nat) : Int) == 83) = false := u8_ne (d := 83) h6
  clear h1 h2 h3 h4 h5 h6
  have hz := zero37
  go_enter Tryz.func136, Tryz.ntmps136
  have HN := Lib.hid (new_rows w)
  go_wp2_with (first | (refine load_row rfl (.tmp 3) rfl rfl HN.out.2.1 ?_) | (refine store_row rfl (.tmp 2) (.tmp 26) rfl rfl rfl HN.out.1 ?_; intro wz hrz hbz; have HRZ := Lib.hid hrz; have HBZ := Lib.hid hbz; clear hrz hbz))
  refine end_row rfl rfl HRZ.out rfl ⟨?_, HN.out.2.2.trans (HBZ.out.below HN.out.2.2.size (Nat.le_refl _))⟩
  rw [HF.out]
theorem named_any (c : UInt8) (w : World) : Calls Tryz.prog 136 #[.int .u8 c.toNat] w fun e w' => e = .returned (.agg (rowV (bv (namedF c)))) ∧ Below w.heap.size w w' := by
  by_cases h1 : c = 100
  · subst h1; exact named_100 w
  by_cases h2 : c = 119
  · subst h2; exact named_119 w
  by_cases h3 : c = 115
  · subst h3; exact named_115 w
  by_cases h4 : c = 68
  · subst h4; exact named_68 w
  by_cases h5 : c = 87
  · subst h5; exact named_87 w
  by_cases h6 : c = 83
  · subst h6; exact named_83 w
  exact named_no h1 h2 h3 h4 h5 h6 w
set_option maxHeartbeats 1000000 in
theorem namedS_any (c : UInt8) (w : World) : Calls Tryz.prog 121 #[.int .u8 c.toNat] w fun e w' => e = .returned (.tuple #[.string (tx (namedF c)), .bool (letter c)]) ∧ Below w.heap.size w w' := by
  go_enter Tryz.func121, Tryz.ntmps121
  go_wp2_with fail
  refine (named_any _ _).mono ?_
  rintro e w1 ⟨rfl, hb1⟩
  have HB1 := Lib.hid hb1
  clear hb1
  go_wp2_with fail
  refine (text_any _ _).mono ?_
  rintro e w2 ⟨rfl, hb2⟩
  have HB2 := Lib.hid (on HB1.out hb2)
  clear hb2
  go_wp2_with fail
  refine (isLetter_any _ _).mono ?_
  rintro e w3 ⟨rfl, rfl⟩
  go_wp2_with fail
  go_ret2
  exact ⟨rfl, HB2.out⟩
end Go.Proofs.YtehdnbidgphecaaGreatDoor.W13
/-
  Layer 13 (class), walks of the program's functions that read a set's text: one byte, an item, the items, Parse. The conditions stand in the statements.
-/
namespace Go.Proofs.YtehdnbidgphecaaGreatDoor.W13
set_option maxRecDepth 100000
open Go Go.RowKit Go.Proofs.YtehdnbidgphecaaGreatDoor.M13 Go.Proofs.YtehdnbidgphecaaGreatDoor.Row256
open Go.Proofs.YtehdnbidgphecaaGreatDoor.Kit (ret_str ret_bool ret_int mk_of mk_bytes ba_ext below_draws on list_full list_ne list_none list_nil bytes_nil bytes_cons)

def oneV (r : UInt8 × Nat × Bool) : Value := .tuple #[.int .u8 r.1.toNat, .int .i64 r.2.1, .bool r.2.2]
theorem bytes_two {s : ByteArray} (h : 1 < s.size) : s.data.toList = s[0] :: s[1] :: s.data.toList.drop 2 := by
  rw [← Kit.drop_next s 1 h]
  conv => lhs; rw [← List.drop_zero (l := s.data.toList), Kit.drop_next s 0 (by omega)]
theorem one_bytes {s : ByteArray} (h0 : 0 < s.size) (h : ¬ 1 < s.size) : s.data.toList = [s[0]] := by
  conv => lhs; rw [← List.drop_zero (l := s.data.toList), Kit.drop_next s 0 h0]
  rw [Kit.drop_end s 1 h]
set_option maxHeartbeats 1000000 in
theorem one_any (s : ByteArray) (w : World) : Calls Tryz.prog 147 #[.string s] w fun e w' => e = .returned (oneV (one s.data.toList)) ∧ Below w.heap.size w w' := by
  by_cases h0 : 0 < s.size
  · have hl := list_full h0
    by_cases h1 : s[0] = 92
    · by_cases h2 : 1 < s.size
      · have hb : (s.toList == [92]) = false := by rw [Lib.toList_data, bytes_two h2]; simp
        have HV : Hid (one s.data.toList = (s[1], 2, letter s[1])) := by
          unfold Hid
          rw [bytes_two h2, h1]; rfl
        have t1 : ((s[0].toNat : Int) == 92) = true := by rw [h1]; rfl
        clear h1
        go_enter Tryz.func147, Tryz.ntmps147
        go_wp2_with fail
        have hi2 : (1 : Int) < (s.size : Int) := by omega
        go_quiet ((go_at_call 137; exact Calls.quiet_of_same (isLetter_any _ _)))
        go_wp2_with fail
        refine bodyPost_ret (results_tmp3 rfl _ _ _) rfl ?_
        exact ⟨by rw [HV.out]; rfl, below_draws w nq⟩
      · have hb : (s.toList == [92]) = true := by rw [Lib.toList_data, one_bytes h0 h2, h1]; rfl
        have HV : Hid (one s.data.toList = (0, 0, false)) := by
          unfold Hid
          rw [one_bytes h0 h2, h1]; rfl
        clear h1
        go_enter Tryz.func147, Tryz.ntmps147
        go_wp2_with fail
        refine bodyPost_ret (results_tmp3 rfl _ _ _) rfl ?_
        exact ⟨by rw [HV.out]; rfl, Below.refl _ _⟩
    · have hb : (s.toList == [92]) = false := by rw [Lib.toList_data, bytes_cons h0]; simp [h1]
      have HV : Hid (one s.data.toList = (s[0], 1, false)) := by
        unfold Hid
        rw [bytes_cons h0]; unfold one; simp only [if_neg h1]
      have t1 : ((s[0].toNat : Int) == 92) = false := by
        rw [show (92 : Int) = ((92 : UInt8).toNat : Int) from rfl, Kit.byte_test, decide_eq_false h1]
      clear h1
      go_enter Tryz.func147, Tryz.ntmps147
      go_wp2_with fail
      refine bodyPost_ret (results_tmp3 rfl _ _ _) rfl ?_
      exact ⟨by rw [HV.out]; rfl, Below.refl _ _⟩
  · have hl := list_none h0
    have HV : Hid (one s.data.toList = (0, 0, false)) := by
      unfold Hid
      rw [bytes_nil h0]; rfl
    go_enter Tryz.func147, Tryz.ntmps147
    go_wp2_with fail
    refine bodyPost_ret (results_tmp3 rfl _ _ _) rfl ?_
    exact ⟨by rw [HV.out]; rfl, Below.refl _ _⟩
end Go.Proofs.YtehdnbidgphecaaGreatDoor.W13
/-
  Layer 13 (class): the program's item, in its eight ways. The conditions stand in the statements.
-/
namespace Go.Proofs.YtehdnbidgphecaaGreatDoor.W13
set_option maxRecDepth 100000
open Go Go.RowKit Go.Proofs.YtehdnbidgphecaaGreatDoor.M13 Go.Proofs.YtehdnbidgphecaaGreatDoor.Row256
open Go.Proofs.YtehdnbidgphecaaGreatDoor.Kit (ret_str ret_bool ret_int mk_of mk_bytes ba_ext below_draws on drop_bytes)

/-- what item answers, and what it makes of the array -/
def Itemed (w : World) (b : Nat) (t : TypeId) (f : Nat → Bool) (r : Nat × Int × (Nat → Bool)) (e : Ending) (w' : World) : Prop := e = .returned (.tuple #[.int .i64 r.1, .int .i64 r.2.1]) ∧ Row w' b t (bv fun i => f i || r.2.2 i) ∧ Beside b w w'
theorem row_same {w : World} {b : Nat} {t : TypeId} {f : Nat → Bool} (h : Row w b t (bv f)) : Row w b t (bv fun i => f i || false) := h.is fun i _ => bv_eq (by rw [Bool.or_false])
theorem one_two (s : List UInt8) : (one s).2.1 ≤ 2 := by
  unfold one
  split
  · exact Nat.zero_le _
  · rename_i c r
    by_cases h : c = 92
    · rw [if_pos h]
      split
      · exact Nat.zero_le _
      · exact Nat.le_refl _
    · rw [if_neg h]; exact Nat.le_succ 1
theorem joined_long {s : List UInt8} {n : Nat} (h : joined (s.drop n) = true) : n < s.length := by
  by_cases e : n < s.length
  · exact e
  · rw [List.drop_of_length_le (by omega)] at h; cases h
set_option maxHeartbeats 1000000 in
theorem item_a {w : World} {b : Nat} {t : TypeId} {f : Nat → Bool} (h : Row w b t (bv f)) {s : ByteArray} {a : UInt8} {n : Nat} {nm : Bool} (hone : one s.data.toList = (a, n, nm)) (hn : n = 0) :
    Calls Tryz.prog 143 #[.pointer (some ⟨b, 0, none⟩), .string s] w (Itemed w b t f (item s.data.toList)) := by
  have HV : Hid (item s.data.toList = (0, 3, fun _ => false)) := by
    unfold Hid item
    rw [hone, if_pos hn]
  subst hn
  have HC := Lib.hid h
  have HONE := Lib.hid hone
  clear h hone
  go_enter Tryz.func143, Tryz.ntmps143
  go_wp2_with fail
  refine (one_any _ _).mono ?_
  rintro e w1 ⟨rfl, hb1⟩
  rw [HONE.out]
  unfold oneV
  have HR := Lib.hid (HC.out.on hb1 HC.out.lt)
  have HB := Lib.hid (Beside.of (b := b) hb1)
  clear hb1
  go_wp2_with fail
  refine (isJoined_any _ _).mono ?_
  rintro e w2 ⟨rfl, rfl⟩
  go_wp2_with fail
  go_ret2
  exact ⟨by rw [HV.out]; rfl, by rw [HV.out]; exact row_same HR.out, HB.out⟩
set_option maxHeartbeats 1000000 in
theorem item_b {w : World} {b : Nat} {t : TypeId} {f : Nat → Bool} (h : Row w b t (bv f)) {s : ByteArray} {a : UInt8} {n : Nat} (hone : one s.data.toList = (a, n, true)) (hn : ¬ n = 0) (hj : joined (s.data.toList.drop n) = true) :
    Calls Tryz.prog 143 #[.pointer (some ⟨b, 0, none⟩), .string s] w (Itemed w b t f (item s.data.toList)) := by
  have HV : Hid (item s.data.toList = (0, 3, fun _ => false)) := by
    unfold Hid item
    rw [hone]
    simp [hn, hj]
  have hle := one_le s.data.toList
  have hle2 := one_two s.data.toList
  rw [hone] at hle2
  rw [hone, ← Lib.size_eq] at hle
  simp only at hle hle2
  have HC := Lib.hid h
  have HONE := Lib.hid hone
  have HJ := Lib.hid hj
  have hlei : (n : Int) ≤ (s.size : Int) := by omega
  have tn : ((n : Int) == 0) = false := beq_eq_false_iff_ne.2 (by omega)
  have HD := Lib.hid (drop_bytes s n)
  clear h hone hj hn
  go_enter Tryz.func143, Tryz.ntmps143
  go_wp2_with fail
  refine (one_any _ _).mono ?_
  rintro e w1 ⟨rfl, hb1⟩
  rw [HONE.out]
  unfold oneV
  have HR := Lib.hid (HC.out.on hb1 HC.out.lt)
  have HB := Lib.hid (Beside.of (b := b) hb1)
  clear hb1
  go_wp2_with fail
  refine (isJoined_any _ _).mono ?_
  rintro e w2 ⟨rfl, rfl⟩
  rw [HD.out, HJ.out]
  go_wp2_with fail
  go_ret2
  exact ⟨by rw [HV.out]; rfl, by rw [HV.out]; exact row_same HR.out, HB.out⟩
set_option maxHeartbeats 1000000 in
theorem item_c {w : World} {b : Nat} {t : TypeId} {f : Nat → Bool} (h : Row w b t (bv f)) {s : ByteArray} {a : UInt8} {n : Nat} (hone : one s.data.toList = (a, n, true)) (hn : ¬ n = 0) (hj : joined (s.data.toList.drop n) = false) :
    Calls Tryz.prog 143 #[.pointer (some ⟨b, 0, none⟩), .string s] w (Itemed w b t f (item s.data.toList)) := by
  have HV : Hid (item s.data.toList = (n, 0, namedF a)) := by
    unfold Hid item
    rw [hone]
    simp [hn, hj]
  have hle := one_le s.data.toList
  have hle2 := one_two s.data.toList
  rw [hone] at hle2
  rw [hone, ← Lib.size_eq] at hle
  simp only at hle hle2
  have HC := Lib.hid h
  have HONE := Lib.hid hone
  have HJ := Lib.hid hj
  have hlei : (n : Int) ≤ (s.size : Int) := by omega
  have tn : ((n : Int) == 0) = false := beq_eq_false_iff_ne.2 (by omega)
  have HD := Lib.hid (drop_bytes s n)
  clear h hone hj hn
  go_enter Tryz.func143, Tryz.ntmps143
  go_wp2_with fail
  refine (one_any _ _).mono ?_
  rintro e w1 ⟨rfl, hb1⟩
  rw [HONE.out]
  unfold oneV
  have HR := Lib.hid (HC.out.on hb1 HC.out.lt)
  have HB := Lib.hid (Beside.of (b := b) hb1)
  clear hb1
  go_wp2_with fail
  refine (isJoined_any _ _).mono ?_
  rintro e w2 ⟨rfl, rfl⟩
  rw [HD.out, HJ.out]
  go_wp2_with fail
  refine (named_any _ _).mono ?_
  rintro e w3 ⟨rfl, hb3⟩
  replace HR := Lib.hid (HR.out.on hb3 HR.out.lt)
  replace HB := Lib.hid (HB.out.trans (Beside.of hb3))
  clear hb3
  go_wp2_with fail
  refine (add_any HR.out _).mono ?_
  rintro e w4 ⟨rfl, hr4, hb4⟩
  replace HR := Lib.hid hr4
  replace HB := Lib.hid (HB.out.trans hb4)
  clear hr4 hb4
  go_wp2_with fail
  go_ret2
  exact ⟨by rw [HV.out]; rfl, by rw [HV.out]; exact HR.out, HB.out⟩
set_option maxHeartbeats 1000000 in
theorem item_d {w : World} {b : Nat} {t : TypeId} {f : Nat → Bool} (h : Row w b t (bv f)) {s : ByteArray} {a : UInt8} {n : Nat} (hone : one s.data.toList = (a, n, false)) (hn : ¬ n = 0) (hj : joined (s.data.toList.drop n) = false) :
    Calls Tryz.prog 143 #[.pointer (some ⟨b, 0, none⟩), .string s] w (Itemed w b t f (item s.data.toList)) := by
  have HV : Hid (item s.data.toList = (n, 0, fun i => decide (i = a.toNat))) := by
    unfold Hid item
    rw [hone]
    simp [hn, hj]
  have hle := one_le s.data.toList
  have hle2 := one_two s.data.toList
  rw [hone] at hle2
  rw [hone, ← Lib.size_eq] at hle
  simp only at hle hle2
  have HC := Lib.hid h
  have HONE := Lib.hid hone
  have HJ := Lib.hid hj
  have hlei : (n : Int) ≤ (s.size : Int) := by omega
  have tn : ((n : Int) == 0) = false := beq_eq_false_iff_ne.2 (by omega)
  have HD := Lib.hid (drop_bytes s n)
  clear h hone hj hn
  go_enter Tryz.func143, Tryz.ntmps143
  go_wp2_with fail
  refine (one_any _ _).mono ?_
  rintro e w1 ⟨rfl, hb1⟩
  rw [HONE.out]
  unfold oneV
  have HR := Lib.hid (HC.out.on hb1 HC.out.lt)
  have HB := Lib.hid (Beside.of (b := b) hb1)
  clear hb1
  go_wp2_with fail
  refine (isJoined_any _ _).mono ?_
  rintro e w2 ⟨rfl, rfl⟩
  rw [HD.out, HJ.out]
  have ha256 : (a.toNat : Int) < 256 := by have := UInt8.toNat_lt a; omega
  have hcell := HR.out.cell (i := a.toNat) (UInt8.toNat_lt a)
  have hfree := HR.out.free a.toNat
  generalize hold : bv f a.toNat = old at hcell
  clear hold
  go_wp2_with fail
  go_ret2
  exact ⟨by rw [HV.out]; rfl, by rw [HV.out]; exact row_true HR.out _, HB.out.put _ _⟩
set_option maxHeartbeats 1000000 in
theorem item_e {w : World} {b : Nat} {t : TypeId} {f : Nat → Bool} (h : Row w b t (bv f)) {s : ByteArray} {a : UInt8} {n : Nat} (hone : one s.data.toList = (a, n, false)) (hn : ¬ n = 0) (hj : joined (s.data.toList.drop n) = true) {a2 : UInt8} {m : Nat} {nm2 : Bool} (hone2 : one (s.data.toList.drop (n + 1)) = (a2, m, nm2)) (hm : m = 0) :
    Calls Tryz.prog 143 #[.pointer (some ⟨b, 0, none⟩), .string s] w (Itemed w b t f (item s.data.toList)) := by
  have HV : Hid (item s.data.toList = (0, 3, fun _ => false)) := by
    unfold Hid item
    rw [hone]
    simp [hn, hj, hone2, hm]
  have hjl := joined_long hj
  rw [← Lib.size_eq] at hjl
  have hm2 := one_two (s.data.toList.drop (n + 1))
  rw [hone2] at hm2
  simp only at hm2
  have hn1i : (n : Int) + 1 ≤ (s.size : Int) := by omega
  have HD2 := Lib.hid (drop_bytes s (n + 1))
  have HONE2 := Lib.hid hone2
  clear hjl hone2
  have tm : ((m : Int) == 0) = true := by rw [hm]; rfl
  clear hm
  have hle := one_le s.data.toList
  have hle2 := one_two s.data.toList
  rw [hone] at hle2
  rw [hone, ← Lib.size_eq] at hle
  simp only at hle hle2
  have HC := Lib.hid h
  have HONE := Lib.hid hone
  have HJ := Lib.hid hj
  have hlei : (n : Int) ≤ (s.size : Int) := by omega
  have tn : ((n : Int) == 0) = false := beq_eq_false_iff_ne.2 (by omega)
  have HD := Lib.hid (drop_bytes s n)
  clear h hone hj hn
  go_enter Tryz.func143, Tryz.ntmps143
  go_wp2_with fail
  refine (one_any _ _).mono ?_
  rintro e w1 ⟨rfl, hb1⟩
  rw [HONE.out]
  unfold oneV
  have HR := Lib.hid (HC.out.on hb1 HC.out.lt)
  have HB := Lib.hid (Beside.of (b := b) hb1)
  clear hb1
  go_wp2_with fail
  refine (isJoined_any _ _).mono ?_
  rintro e w2 ⟨rfl, rfl⟩
  rw [HD.out, HJ.out]
  go_wp2_with fail
  refine (one_any _ _).mono ?_
  rintro e w3 ⟨rfl, hb3⟩
  rw [HD2.out, HONE2.out]
  unfold oneV
  replace HR := Lib.hid (HR.out.on hb3 HR.out.lt)
  replace HB := Lib.hid (HB.out.trans (Beside.of hb3))
  clear hb3
  go_wp2_with fail
  go_ret2
  exact ⟨by rw [HV.out]; rfl, by rw [HV.out]; exact row_same HR.out, HB.out⟩
set_option maxHeartbeats 1000000 in
theorem item_g {w : World} {b : Nat} {t : TypeId} {f : Nat → Bool} (h : Row w b t (bv f)) {s : ByteArray} {a : UInt8} {n : Nat} (hone : one s.data.toList = (a, n, false)) (hn : ¬ n = 0) (hj : joined (s.data.toList.drop n) = true) {a2 : UInt8} {m : Nat} (hone2 : one (s.data.toList.drop (n + 1)) = (a2, m, true)) (hm : ¬ m = 0) :
    Calls Tryz.prog 143 #[.pointer (some ⟨b, 0, none⟩), .string s] w (Itemed w b t f (item s.data.toList)) := by
  have HV : Hid (item s.data.toList = (0, 3, fun _ => false)) := by
    unfold Hid item
    rw [hone]
    simp [hn, hj, hone2, hm]
  have hjl := joined_long hj
  rw [← Lib.size_eq] at hjl
  have hm2 := one_two (s.data.toList.drop (n + 1))
  rw [hone2] at hm2
  simp only at hm2
  have hn1i : (n : Int) + 1 ≤ (s.size : Int) := by omega
  have HD2 := Lib.hid (drop_bytes s (n + 1))
  have HONE2 := Lib.hid hone2
  clear hjl hone2
  have tm : ((m : Int) == 0) = false := beq_eq_false_iff_ne.2 (by omega)
  clear hm
  have hle := one_le s.data.toList
  have hle2 := one_two s.data.toList
  rw [hone] at hle2
  rw [hone, ← Lib.size_eq] at hle
  simp only at hle hle2
  have HC := Lib.hid h
  have HONE := Lib.hid hone
  have HJ := Lib.hid hj
  have hlei : (n : Int) ≤ (s.size : Int) := by omega
  have tn : ((n : Int) == 0) = false := beq_eq_false_iff_ne.2 (by omega)
  have HD := Lib.hid (drop_bytes s n)
  clear h hone hj hn
  go_enter Tryz.func143, Tryz.ntmps143
  go_wp2_with fail
  refine (one_any _ _).mono ?_
  rintro e w1 ⟨rfl, hb1⟩
  rw [HONE.out]
  unfold oneV
  have HR := Lib.hid (HC.out.on hb1 HC.out.lt)
  have HB := Lib.hid (Beside.of (b := b) hb1)
  clear hb1
  go_wp2_with fail
  refine (isJoined_any _ _).mono ?_
  rintro e w2 ⟨rfl, rfl⟩
  rw [HD.out, HJ.out]
  go_wp2_with fail
  refine (one_any _ _).mono ?_
  rintro e w3 ⟨rfl, hb3⟩
  rw [HD2.out, HONE2.out]
  unfold oneV
  replace HR := Lib.hid (HR.out.on hb3 HR.out.lt)
  replace HB := Lib.hid (HB.out.trans (Beside.of hb3))
  clear hb3
  go_wp2_with fail
  go_ret2
  exact ⟨by rw [HV.out]; rfl, by rw [HV.out]; exact row_same HR.out, HB.out⟩
set_option maxHeartbeats 1000000 in
theorem item_k {w : World} {b : Nat} {t : TypeId} {f : Nat → Bool} (h : Row w b t (bv f)) {s : ByteArray} {a : UInt8} {n : Nat} (hone : one s.data.toList = (a, n, false)) (hn : ¬ n = 0) (hj : joined (s.data.toList.drop n) = true) {a2 : UInt8} {m : Nat} (hone2 : one (s.data.toList.drop (n + 1)) = (a2, m, false)) (hm : ¬ m = 0) (hlt : a2.toNat < a.toNat) :
    Calls Tryz.prog 143 #[.pointer (some ⟨b, 0, none⟩), .string s] w (Itemed w b t f (item s.data.toList)) := by
  have HV : Hid (item s.data.toList = (0, 4, fun _ => false)) := by
    unfold Hid item
    rw [hone]
    simp [hn, hj, hone2, hm, hlt]
  have hjl := joined_long hj
  rw [← Lib.size_eq] at hjl
  have hm2 := one_two (s.data.toList.drop (n + 1))
  rw [hone2] at hm2
  simp only at hm2
  have hn1i : (n : Int) + 1 ≤ (s.size : Int) := by omega
  have HD2 := Lib.hid (drop_bytes s (n + 1))
  have HONE2 := Lib.hid hone2
  clear hjl hone2
  have tm : ((m : Int) == 0) = false := beq_eq_false_iff_ne.2 (by omega)
  have tl : (a2.toNat : Int) < (a.toNat : Int) := by omega
  clear hm hlt
  have hle := one_le s.data.toList
  have hle2 := one_two s.data.toList
  rw [hone] at hle2
  rw [hone, ← Lib.size_eq] at hle
  simp only at hle hle2
  have HC := Lib.hid h
  have HONE := Lib.hid hone
  have HJ := Lib.hid hj
  have hlei : (n : Int) ≤ (s.size : Int) := by omega
  have tn : ((n : Int) == 0) = false := beq_eq_false_iff_ne.2 (by omega)
  have HD := Lib.hid (drop_bytes s n)
  clear h hone hj hn
  go_enter Tryz.func143, Tryz.ntmps143
  go_wp2_with fail
  refine (one_any _ _).mono ?_
  rintro e w1 ⟨rfl, hb1⟩
  rw [HONE.out]
  unfold oneV
  have HR := Lib.hid (HC.out.on hb1 HC.out.lt)
  have HB := Lib.hid (Beside.of (b := b) hb1)
  clear hb1
  go_wp2_with fail
  refine (isJoined_any _ _).mono ?_
  rintro e w2 ⟨rfl, rfl⟩
  rw [HD.out, HJ.out]
  go_wp2_with fail
  refine (one_any _ _).mono ?_
  rintro e w3 ⟨rfl, hb3⟩
  rw [HD2.out, HONE2.out]
  unfold oneV
  replace HR := Lib.hid (HR.out.on hb3 HR.out.lt)
  replace HB := Lib.hid (HB.out.trans (Beside.of hb3))
  clear hb3
  go_wp2_with fail
  go_ret2
  exact ⟨by rw [HV.out]; rfl, by rw [HV.out]; exact row_same HR.out, HB.out⟩
set_option maxHeartbeats 1000000 in
theorem item_less {w : World} {b : Nat} {t : TypeId} {f : Nat → Bool} (h : Row w b t (bv f)) {s : ByteArray} {a : UInt8} {n : Nat} (hone : one s.data.toList = (a, n, false)) (hn : ¬ n = 0) (hj : joined (s.data.toList.drop n) = true) {a2 : UInt8} {m : Nat} (hone2 : one (s.data.toList.drop (n + 1)) = (a2, m, false)) (hm : ¬ m = 0) (hlt : ¬ a2.toNat < a.toNat) :
    Calls Tryz.prog 143 #[.pointer (some ⟨b, 0, none⟩), .string s] w (Itemed w b t f (item s.data.toList)) := by
  have HV : Hid (item s.data.toList = (n + 1 + m, 0, between a.toNat a2.toNat)) := by
    unfold Hid item
    rw [hone]
    simp [hn, hj, hone2, hm, hlt]
  have hjl := joined_long hj
  rw [← Lib.size_eq] at hjl
  have hm2 := one_two (s.data.toList.drop (n + 1))
  rw [hone2] at hm2
  simp only at hm2
  have hn1i : (n : Int) + 1 ≤ (s.size : Int) := by omega
  have HD2 := Lib.hid (drop_bytes s (n + 1))
  have HONE2 := Lib.hid hone2
  clear hjl hone2
  have tm : ((m : Int) == 0) = false := beq_eq_false_iff_ne.2 (by omega)
  have tl : ¬ (a2.toNat : Int) < (a.toNat : Int) := by omega
  clear hm hlt
  have hle := one_le s.data.toList
  have hle2 := one_two s.data.toList
  rw [hone] at hle2
  rw [hone, ← Lib.size_eq] at hle
  simp only at hle hle2
  have HC := Lib.hid h
  have HONE := Lib.hid hone
  have HJ := Lib.hid hj
  have hlei : (n : Int) ≤ (s.size : Int) := by omega
  have tn : ((n : Int) == 0) = false := beq_eq_false_iff_ne.2 (by omega)
  have HD := Lib.hid (drop_bytes s n)
  clear h hone hj hn
  go_enter Tryz.func143, Tryz.ntmps143
  go_wp2_with fail
  refine (one_any _ _).mono ?_
  rintro e w1 ⟨rfl, hb1⟩
  rw [HONE.out]
  unfold oneV
  have HR := Lib.hid (HC.out.on hb1 HC.out.lt)
  have HB := Lib.hid (Beside.of (b := b) hb1)
  clear hb1
  go_wp2_with fail
  refine (isJoined_any _ _).mono ?_
  rintro e w2 ⟨rfl, rfl⟩
  rw [HD.out, HJ.out]
  go_wp2_with fail
  refine (one_any _ _).mono ?_
  rintro e w3 ⟨rfl, hb3⟩
  rw [HD2.out, HONE2.out]
  unfold oneV
  replace HR := Lib.hid (HR.out.on hb3 HR.out.lt)
  replace HB := Lib.hid (HB.out.trans (Beside.of hb3))
  clear hb3
  go_wp2_with fail
  refine (span_any HR.out _ _).mono ?_
  rintro e w4 ⟨rfl, hr4, hb4⟩
  replace HR := Lib.hid hr4
  replace HB := Lib.hid (HB.out.trans hb4)
  clear hr4 hb4
  go_wp2_with fail
  go_ret2
  exact ⟨by rw [HV.out]; rfl, by rw [HV.out]; exact HR.out, HB.out⟩
theorem item_any {w : World} {b : Nat} {t : TypeId} {f : Nat → Bool} (h : Row w b t (bv f)) (s : ByteArray) :
    Calls Tryz.prog 143 #[.pointer (some ⟨b, 0, none⟩), .string s] w (Itemed w b t f (item s.data.toList)) := by
  obtain ⟨⟨a, n, nm⟩, hone⟩ : ∃ r, one s.data.toList = r := ⟨_, rfl⟩
  by_cases hn : n = 0
  · exact item_a h hone hn
  cases hj : joined (s.data.toList.drop n) with
  | false =>
    cases nm with
    | true => exact item_c h hone hn hj
    | false => exact item_d h hone hn hj
  | true =>
    cases nm with
    | true => exact item_b h hone hn hj
    | false =>
      obtain ⟨⟨a2, m, nm2⟩, hone2⟩ : ∃ r, one (s.data.toList.drop (n + 1)) = r := ⟨_, rfl⟩
      by_cases hm : m = 0
      · exact item_e h hone hn hj hone2 hm
      cases nm2 with
      | true => exact item_g h hone hn hj hone2 hm
      | false =>
        by_cases hlt : a2.toNat < a.toNat
        · exact item_k h hone hn hj hone2 hm hlt
        · exact item_less h hone hn hj hone2 hm hlt
end Go.Proofs.YtehdnbidgphecaaGreatDoor.W13
/-
  Layer 13 (class): the program's items and Parse. The conditions stand in the statements.
-/
namespace Go.Proofs.YtehdnbidgphecaaGreatDoor.W13
set_option maxRecDepth 100000
open Go Go.RowKit Go.Proofs.YtehdnbidgphecaaGreatDoor.M13 Go.Proofs.YtehdnbidgphecaaGreatDoor.Row256
open Go.Proofs.YtehdnbidgphecaaGreatDoor.Kit (ret_str ret_bool ret_int mk_of mk_bytes ba_ext below_draws on drop_bytes)

/-- a function ends whose first result is an array in a block of its own, with two more -/
theorem end_row3 {fn : Func} {R : Ending → World → Prop} {a : Act} {w : World} {p u v : Tmp} {b : Nat} {t : TypeId} {f : Nat → Value} (hf : fn.results = #[.cell p 139, .tmp u, .tmp v]) (hp : a.tmps.getD p undef = .pointer (some ⟨b, 0, none⟩)) (hr : Row w b t f) (hd : a.defers = [])
    (hR : R (.returned (.tuple #[.agg (rowV f), a.tmps.getD u undef, a.tmps.getD v undef])) w) : bodyPost Tryz.prog fn R .ret a w := by
  refine bodyPost_ret ?_ hd hR
  have hp' : a.tmps[p]?.getD undef = .pointer (some ⟨b, 0, none⟩) := by simpa using hp
  have hl := run_loadVar_row w b t 139 (rowV f) (0, 0) _ hr Tryz.underlying139 rfl (size_row f)
  simp [results, hf, hp', asAddr, Result.andThen, hl]
theorem item_le (s : List UInt8) : (item s).1 ≤ s.length := by
  have h1 := one_le s
  have h2 := one_le (s.drop ((one s).2.1 + 1))
  rw [List.length_drop] at h2
  unfold item
  split
  · exact Nat.zero_le _
  · split
    · split
      · exact Nat.zero_le _
      · exact h1
    · rename_i hn hnm
      cases hj : joined (s.drop (one s).2.1) with
      | false => rw [if_pos rfl]; exact h1
      | true =>
        have h3 := joined_long hj
        rw [if_neg (by simp)]
        split
        · exact Nat.zero_le _
        · split
          · exact Nat.zero_le _
          · split
            · exact Nat.zero_le _
            · simp only; omega
theorem item_pos {s : List UInt8} (h : (item s).2.1 = 0) : 0 < (item s).1 := by
  revert h
  unfold item
  split
  · simp
  · rename_i hn
    split
    · split
      · simp
      · simp only; omega
    · split
      · simp only; omega
      · split
        · simp
        · split
          · simp
          · split
            · simp
            · simp only; omega
def itemsV (r : (Nat → Bool) × Nat × Int) : Value := .tuple #[.agg (rowV (bv r.1)), .int .i64 r.2.1, .int .i64 r.2.2]
set_option maxHeartbeats 4000000 in
theorem items_any (s : ByteArray) (hs : s.size ≤ 4611686018427387904) (w : World) :
    Calls Tryz.prog 135 #[.string s] w fun e w' => e = .returned (itemsV (items s.data.toList (s.size + 1) 0 (fun _ => false))) ∧ Below w.heap.size w w' := by
  have hz := zero37
  obtain ⟨R, hR⟩ : ∃ R, items s.data.toList (s.size + 1) 0 (fun _ => false) = R := ⟨_, rfl⟩
  rw [hR]
  have HRR := Lib.hid hR
  have HS := Lib.hid hs
  clear hR hs
  go_enter Tryz.func135, Tryz.ntmps135
  go_wp2_with fail
  have HN := Lib.hid (new_rows w)
  generalize ((w.alloc (.cells (rowV (bv fun _ => false)) 139)).alloc (.cells (rowV (bv fun _ => false)) 139)) = w1 at HN ⊢
  go_loopg [6] s.size (fun g s6 wr => ∃ (i : Nat) (F : Nat → Bool), s6 = .int .i64 i ∧ i ≤ s.size ∧ s.size ≤ i + g ∧ Hid (items s.data.toList (g + 1) i F = R) ∧ Hid (Row wr (w.heap.size + 1) 139 (bv F)) ∧ Hid (Row wr w.heap.size 139 (bv fun _ => false)) ∧ Hid (Below w.heap.size w wr))
  case atStart => exact ⟨0, fun _ => false, rfl, Nat.zero_le _, by omega, HRR, HN.out.2.1, HN.out.1, HN.out.2.2⟩
  case round =>
    obtain ⟨i, F, rfl, hi, hig, hit, hr, hq, hb⟩ := hrel
    by_cases hlt : i < s.size
    · have hl2 : (i : Int) < (s.size : Int) := by omega
      have hS := HS.out
      have hlen : ¬ s.data.toList.length ≤ i := by rw [← Lib.size_eq]; omega
      have hget : s.data.toList.getD i 0 = s[i] := Kit.byte_get s i hlt
      by_cases hend : s[i] = 93 ∧ 0 < i
      · have HV : Hid (R = (F, i + 1, 0)) := by
          unfold Hid
          rw [← hit.out]
          unfold items
          rw [if_neg hlen, hget, if_pos hend]
        have t1 : ((s[i].toNat : Int) == 93) = true := by rw [hend.1]; rfl
        have t2 : (0 : Int) < (i : Int) := by omega
        have hw : wrap64 ((i : Int) + 1) = ((i + 1 : Nat) : Int) := by unfold wrap64; omega
        have HW := Lib.hid hw
        clear hend hlen hget hw
        go_wp2_with (first | (refine load_row rfl (.tmp 5) rfl rfl hr.out ?_) | (refine store_row rfl (.tmp 2) (.tmp 21) rfl rfl rfl hq.out ?_; intro wz hrz hbz; have HRZ := Lib.hid hrz; have HBZ := Lib.hid hbz; clear hrz hbz))
        refine end_row3 rfl rfl HRZ.out rfl ⟨?_, hb.out.trans (HBZ.out.below hb.out.size (Nat.le_refl _))⟩
        rw [HV.out]; rfl
      · have hnle := item_le (s.data.toList.drop i)
        rw [List.length_drop, ← Lib.size_eq] at hnle
        have hpos := @item_pos (s.data.toList.drop i)
        have hdl := drop_bytes s i
        obtain ⟨⟨n, er, G⟩, hitem⟩ : ∃ r, item (s.data.toList.drop i) = r := ⟨_, rfl⟩
        rw [hitem] at hnle hpos
        simp only at hnle hpos
        have HI := Lib.hid hitem
        have HD := Lib.hid hdl
        have HP := Lib.hid hpos
        have HNLE := Lib.hid hnle
        have HL := Lib.hid hlen
        have HG := Lib.hid hget
        clear hitem hdl hpos hnle
        by_cases h93 : s[i] = 93
        · have hi0 : ¬ (0 : Int) < (i : Int) := fun h => hend ⟨h93, by omega⟩
          have t1 : ((s[i].toNat : Int) == 93) = true := by rw [h93]; rfl
          clear h93
          have HE := Lib.hid hend
          clear hend hlen hget
          go_wp2_with fail
          refine (item_any hr.out _).mono ?_
          rintro e w2 ⟨rfl, hr2, hb2⟩
          rw [HD.out, HI.out]
          have HR := Lib.hid (by rw [HD.out, HI.out] at hr2; exact hr2)
          have HQ := Lib.hid (hq.out.beside hb2 (by omega))
          have HB := Lib.hid (hb.out.trans (hb2.below hb.out.size (by omega)))
          clear hr2 hb2
          simp only [] at HR ⊢
          by_cases he : er = 0
          · have te : (er != 0) = false := by rw [he]; rfl
            have HNX : Hid (items s.data.toList gk (i + n) (fun k => F k || G k) = R) := by
              unfold Hid
              rw [← hit.out]
              conv => rhs; unfold items
              rw [if_neg HL.out, HG.out, if_neg HE.out, HI.out, if_neg (by simp [he])]
            have hn1 : 0 < n := by have := HP.out he; omega
            have hnle := HNLE.out
            clear he
            cases gk with
            | zero => omega
            | succ g =>
              go_wp2_with fail
              go_roundg g
              case measure => omega
              case rel => exact ⟨i + n, fun k => F k || G k, by first | rfl | simp, by omega, by omega, HNX, HR.out, HQ.out, HB.out⟩
          · have te : (er != 0) = true := by simpa using he
            have HNX : Hid (R = (fun _ => false, 0, er)) := by
              unfold Hid
              rw [← hit.out]
              unfold items
              rw [if_neg HL.out, HG.out, if_neg HE.out, HI.out, if_pos he]
            clear he
            go_wp2_with (first | (refine store_row rfl (.tmp 2) (.tmp 33) rfl rfl rfl HQ.out ?_; intro wz hrz hbz; have HRZ := Lib.hid hrz; have HBZ := Lib.hid hbz; clear hrz hbz))
            refine end_row3 rfl rfl HRZ.out rfl ⟨?_, HB.out.trans (HBZ.out.below HB.out.size (Nat.le_refl _))⟩
            rw [HNX.out]; rfl
        · have t1 : ((s[i].toNat : Int) == 93) = false := by
            rw [show (93 : Int) = ((93 : UInt8).toNat : Int) from rfl, Kit.byte_test, decide_eq_false h93]
          clear h93
          have HE := Lib.hid hend
          clear hend hlen hget
          go_wp2_with fail
          refine (item_any hr.out _).mono ?_
          rintro e w2 ⟨rfl, hr2, hb2⟩
          rw [HD.out, HI.out]
          have HR := Lib.hid (by rw [HD.out, HI.out] at hr2; exact hr2)
          have HQ := Lib.hid (hq.out.beside hb2 (by omega))
          have HB := Lib.hid (hb.out.trans (hb2.below hb.out.size (by omega)))
          clear hr2 hb2
          simp only [] at HR ⊢
          by_cases he : er = 0
          · have te : (er != 0) = false := by rw [he]; rfl
            have HNX : Hid (items s.data.toList gk (i + n) (fun k => F k || G k) = R) := by
              unfold Hid
              rw [← hit.out]
              conv => rhs; unfold items
              rw [if_neg HL.out, HG.out, if_neg HE.out, HI.out, if_neg (by simp [he])]
            have hn1 : 0 < n := by have := HP.out he; omega
            have hnle := HNLE.out
            clear he
            cases gk with
            | zero => omega
            | succ g =>
              go_wp2_with fail
              go_roundg g
              case measure => omega
              case rel => exact ⟨i + n, fun k => F k || G k, by first | rfl | simp, by omega, by omega, HNX, HR.out, HQ.out, HB.out⟩
          · have te : (er != 0) = true := by simpa using he
            have HNX : Hid (R = (fun _ => false, 0, er)) := by
              unfold Hid
              rw [← hit.out]
              unfold items
              rw [if_neg HL.out, HG.out, if_neg HE.out, HI.out, if_pos he]
            clear he
            go_wp2_with (first | (refine store_row rfl (.tmp 2) (.tmp 33) rfl rfl rfl HQ.out ?_; intro wz hrz hbz; have HRZ := Lib.hid hrz; have HBZ := Lib.hid hbz; clear hrz hbz))
            refine end_row3 rfl rfl HRZ.out rfl ⟨?_, HB.out.trans (HBZ.out.below HB.out.size (Nat.le_refl _))⟩
            rw [HNX.out]; rfl
    · have hl2 : ¬ ((i : Int) < (s.size : Int)) := by omega
      have HV : Hid (R = (fun _ => false, 0, 3)) := by
        unfold Hid
        rw [← hit.out]
        unfold items
        rw [if_pos (by rw [← Lib.size_eq]; omega)]
      clear hlt hi hig
      go_wp2_with (first | (refine store_row rfl (.tmp 2) (.tmp 38) rfl rfl rfl hq.out ?_; intro wz hrz hbz; have HRZ := Lib.hid hrz; have HBZ := Lib.hid hbz; clear hrz hbz))
      refine end_row3 rfl rfl HRZ.out rfl ⟨?_, hb.out.trans (HBZ.out.below hb.out.size (Nat.le_refl _))⟩
      rw [HV.out]; rfl
end Go.Proofs.YtehdnbidgphecaaGreatDoor.W13
