/-
  Layer 13 (class): the program's text of 256 truths. The conditions stand in the statements.
-/
import Derived.Test.YtpcgocdepolgeaaW13Walk
import Derived.Laws.BytesString
namespace Go.Proofs.Ytpcgocdepolgeaa.W13
set_option maxRecDepth 100000
open Go Go.RowKit Go.Proofs.Ytpcgocdepolgeaa.M13 Go.Proofs.Ytpcgocdepolgeaa.Row256
open Go.Proofs.Ytpcgocdepolgeaa.Kit (ret_str ret_bool ret_int mk_of mk_bytes ba_ext below_draws on)

/-- the text of 256 truths, as a value's bytes -/
def tx (f : Nat → Bool) : ByteArray := ⟨(textOf f).toArray⟩
theorem tx_list (f : Nat → Bool) : (tx f).data.toList = textOf f := rfl
theorem tx_congr {f g : Nat → Bool} (h : ∀ i, i < 256 → f i = g i) : tx f = tx g := by unfold tx; rw [textOf_congr h]
def uv (f : Nat → UInt8) (i : Nat) : Value := .int .u8 (f i).toNat
theorem uv_eq {f g : Nat → UInt8} {i : Nat} (h : f i = g i) : uv f i = uv g i := by unfold uv; rw [h]
theorem info52 : (Try.prog.info? 52).map (fun i => (i.zero, i.size)) = some (some (Value.agg (Array.replicate 256 (.int .u8 0))), 256) := by kernel_rfl
theorem zero52 (w : World) : (zeroValue 52).run Try.prog w = .ok (.agg (rowV (uv fun _ => 0))) w := by
  have h := (zero_of_info info52).1 w
  rw [rowV_same] at h; exact h
/-- one round of the loop that writes the text's bytes -/
theorem byte_step {w : World} {b i : Nat} {t : TypeId} {F : Nat → UInt8} {v : Value} (h : Row w b t (uv fun j => if j < i then F j else 0)) (u : Value) (hv : v = uv F i) : Row ((w.setCell ⟨b, i, none⟩ u).setCell ⟨b, i, none⟩ v) b t (uv fun j => if j < i + 1 then F j else 0) := by
  refine ((h.put i u).put i v).is fun j _ => ?_
  by_cases e : j = i
  · subst e
    rw [if_pos rfl, hv]
    exact uv_eq (g := fun k => if k < j + 1 then F k else 0) (by rw [if_pos (by omega)])
  · rw [if_neg e, if_neg e]
    refine uv_eq ?_
    by_cases e2 : j < i
    · rw [if_pos e2, if_pos (by omega)]
    · rw [if_neg e2, if_neg (by omega)]
theorem byte_step0 {w : World} {b i : Nat} {t : TypeId} {F : Nat → UInt8} {v : Value} (h : Row w b t (uv fun j => if j < i then F j else 0)) (hv : v = uv F i) : Row (w.setCell ⟨b, i, none⟩ v) b t (uv fun j => if j < i + 1 then F j else 0) := by
  refine (h.put i v).is fun j _ => ?_
  by_cases e : j = i
  · subst e
    rw [if_pos rfl, hv]
    exact uv_eq (g := fun k => if k < j + 1 then F k else 0) (by rw [if_pos (by omega)])
  · rw [if_neg e]
    refine uv_eq ?_
    by_cases e2 : j < i
    · rw [if_pos e2, if_pos (by omega)]
    · rw [if_neg e2, if_neg (by omega)]
theorem conv_row {w : World} {b : Nat} {t : TypeId} {f : Nat → Bool} (h : Row w b t (uv fun j => bit (f j))) : (convert 53 9 (.slice (some ⟨b, 0, none⟩) 256 256)).run Try.prog w = .ok (.string (tx f)) w := by
  have h2 := run_convert_bytes_back (P := Try.prog) w 53 9 5 ⟨b, 0, none⟩ 256 (textOf f) Try.underlying53 Try.underlying5 Try.underlying9 (fun j hj => by
    have hj2 : j < 256 := by rw [textOf_len] at hj; exact hj
    have hc := h.cell hj2
    have hadd : (⟨b, 0, none⟩ : Addr).add j = ⟨b, j, none⟩ := by unfold Addr.add; split <;> simp_all
    have e : (textOf f)[j]'hj = bit (f j) := by
      have := textOf_get f hj2
      rw [List.getElem?_eq_getElem hj] at this
      exact Option.some.inj this
    rw [hadd, hc]
    show some (Value.int .u8 (bit (f j)).toNat) = some (Value.int .u8 ((textOf f)[j]'hj).toNat)
    rw [e])
  rw [textOf_len] at h2
  exact h2
set_option maxHeartbeats 1000000 in
theorem text_any (f : Nat → Bool) (w : World) :
    Calls Try.prog 19 #[.agg (rowV (bv f))] w fun e w' => e = .returned (.string (tx f)) ∧ Below w.heap.size w w' := by
  have hz := zero52
  go_enter Try.func19, Try.ntmps19
  go_wp2_with fail
  have hn1 : Row (w.alloc (.cells (rowV (bv f)) 37)) w.heap.size 37 (bv f) := Row.new _ _ _
  have hn2 := Row.new (w.alloc (.cells (rowV (bv f)) 37)) 52 (uv fun _ => 0)
  rw [World.size_alloc] at hn2
  have HN := Lib.hid (And.intro (hn1.alloc (.cells (rowV (uv fun _ => 0)) 52)) hn2)
  have HB := Lib.hid ((Below.refl w.heap.size w).alloc (Nat.le_refl _) (.cells (rowV (bv f)) 37) |>.alloc (by rw [World.size_alloc]; omega) (.cells (rowV (uv fun _ => 0)) 52))
  clear hn1 hn2 hz
  generalize ((w.alloc (.cells (rowV (bv f)) 37)).alloc (.cells (rowV (uv fun _ => 0)) 52)) = w1 at HN HB ⊢
  go_loopg [5] 256 (fun g s5 wr => ∃ i : Nat, s5 = .int .i64 i ∧ i + g = 256 ∧ Hid (Row wr (w.heap.size + 1) 52 (uv fun j => if j < i then bit (f j) else 0)) ∧ Hid (Row wr w.heap.size 37 (bv f)) ∧ Hid (Below w.heap.size w wr))
  case atStart => exact ⟨0, rfl, rfl, HN.out.2.is fun j _ => uv_eq (by rw [if_neg (by omega)]), HN.out.1, HB⟩
  case round =>
    obtain ⟨i, rfl, hig, hr, hz, hb⟩ := hrel
    cases gk with
    | zero =>
      obtain rfl : i = 256 := by omega
      have hconv := conv_row (f := f) (hr.out.is fun j hj => uv_eq (by rw [if_pos hj]))
      go_wp2_with fail
      go_ret
      exact ⟨rfl, hb.out⟩
    | succ g =>
      have hi3 : (i : Int) < 256 := by omega
      have hcell := hr.out.cell (i := i) (by omega)
      have hfree := hr.out.free i
      generalize hold : uv (fun j => if j < i then bit (f j) else 0) i = old at hcell
      clear hold
      have hcell2 : wr.cell? ⟨w.heap.size, i, none⟩ = some (.bool (f i)) := hz.out.cell (i := i) (by omega)
      cases hf : f i with
      | true =>
        rw [hf] at hcell2
        go_wp2_with fail
        go_roundg g
        case measure => omega
        case rel => exact ⟨i + 1, by first | rfl | simp, by omega, byte_step hr.out _ (by rw [show uv (fun j => bit (f j)) i = .int .u8 (bit (f i)).toNat from rfl, hf]; rfl), (hz.out.other (a := ⟨w.heap.size + 1, i, none⟩) (by simp) _).other (by simp) _, (hb.out.setCell (p := ⟨w.heap.size + 1, i, none⟩) (by simp) _).setCell (by simp) _⟩
      | false =>
        rw [hf] at hcell2
        go_wp2_with fail
        go_roundg g
        case measure => omega
        case rel => exact ⟨i + 1, by first | rfl | simp, by omega, byte_step0 hr.out (by rw [show uv (fun j => bit (f j)) i = .int .u8 (bit (f i)).toNat from rfl, hf]; rfl), hz.out.other (by simp) _, hb.out.setCell (by simp) _⟩
end Go.Proofs.Ytpcgocdepolgeaa.W13
