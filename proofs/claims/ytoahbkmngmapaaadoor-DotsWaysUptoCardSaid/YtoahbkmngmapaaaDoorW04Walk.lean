/-
  Layer 4 (path), walks: the program's Parts: a text's parts, in new memory, at every text of at most 2^31 bytes; nothing that was there is changed.
-/
import Derived.Test.YtoahbkmngmapaaaDoorW04Iter
import Derived.Test.YtoahbkmngmapaaaDoorW04Use
import Derived.Maps.AppendAt
import Derived.Deep.Onto
namespace Go.Proofs.YtoahbkmngmapaaaDoor.W04
open Go Go.RowKit Go.Shelf Go.Proofs.YtoahbkmngmapaaaDoor.Range Go.Proofs.YtoahbkmngmapaaaDoor.M04 Go.Proofs.YtoahbkmngmapaaaDoor.Strs
open Go.Proofs.YtoahbkmngmapaaaDoor.Kit (ret_str ret_bool ret_int mk_of mk_bytes below_draws on)
attribute [local go_sem] Oper.semAt_some

/-- a variable's box and the row of the slice that it holds, behind 'v = append(v, ..)' -/
theorem box_appended {W w1 : World} {T : Nat → Prop} {n0 base B : Nat} {t e : TypeId} {size : Nat} {v v' : Value} {k m : Nat} {xs ys : List Value} {tmp : Obj}
    (hv : Boxed W B t v) (hte : t ≠ e) (hrow : W.ownsRow base e size v k xs) (hB : ¬ T B) (hT : ∀ k, base ≤ k → ¬ T k) (h1 : n0 ≤ B) (h2 : n0 ≤ base)
    (hown' : w1.ownsRow base e size v' m ys) (hgrow : (W.alloc tmp).grownBy w1 v.ownBlock) :
    Boxed w1 B t v ∧ Boxed (w1.setCell ⟨B, 0, none⟩ v') B t v' ∧ (w1.setCell ⟨B, 0, none⟩ v').ownsRow base e size v' m ys ∧ Turns (fun k => ¬ T k) W (w1.setCell ⟨B, 0, none⟩ v') ∧ Below n0 W (w1.setCell ⟨B, 0, none⟩ v') := by
  have hv1 : Boxed w1 B t v := (hv.alloc tmp).kept hgrow (hv.not_row hte hrow)
  have hlt := hv.lt
  refine ⟨hv1, hv1.set v', hown'.kept (grownBy_setCell' w1 B v') (.inr (hv1.not_row hte hown').symm), ?_, ?_⟩
  · exact ((Turns.alloc _ W tmp).trans (Turns.of_grown hgrow fun r hr => hT r (hrow.lt r hr).1)).trans (Turns.setCell _ hB)
  · exact (((Below.refl n0 W).alloc (by omega) tmp).grown hgrow (by simp; omega) (fun r hr => Nat.le_trans h2 (hrow.lt r hr).1)).setCell (p := ⟨B, 0, none⟩) h1 v'

set_option maxRecDepth 100000 in
set_option maxHeartbeats 2000000 in
theorem parts_makes (s : ByteArray) (hs : s.size ≤ 2147483648) (w : World) : Calls Tryd.prog 9 #[.string s] w (Makes w (parts s.data.toList)) := by
  obtain ⟨i0, hi, hz0, hz1, hz2⟩ := info_parts text_info
  have HP := Lib.hid (parts_at s)
  have hlen : (partsOf s).length ≤ s.size + 1 := by
    unfold partsOf
    rw [List.length_map, Lib.size_eq]
    exact parts_count _
  refine (callsIn_wide (n := 9)).1 ?_
  refine callsIn_of_wp_marks Tryd.func9 rfl trivial ?_ rfl
  simp only [Tryd.ntmps9, List.size_toArray, List.length_cons, List.length_nil, Nat.reduceAdd, Nat.reduceSub, Array.replicate_succ, Array.replicate_zero, List.push_toArray, List.append_toArray, List.nil_append, List.cons_append]
  gi_wp2
  refine ⟨trivial, ?_⟩
  gi_at_call 16
  refine (callsIn_wide.2 (HP.out _)).mono ?_
  rintro e w1 ⟨rfl, rfl⟩
  gi_wp2
  have x0 := Boxed.new w 22 (.slice none 0 0)
  have x1 := Boxed.new (w.alloc (.cells #[.slice none 0 0] 22)) 9 (.string s)
  rw [World.size_alloc] at x1
  have x2 := x0.alloc (.cells #[.string s] 9)
  have hb : Below w.heap.size w ((w.alloc (.cells #[.slice none 0 0] 22)).alloc (.cells #[.string s] 9)) := ((Below.refl _ w).alloc (Nat.le_refl _) _).alloc (by simp) _
  have hsz : ((w.alloc (.cells #[.slice none 0 0] 22)).alloc (.cells #[.string s] 9)).heap.size = w.heap.size + 2 := by simp
  generalize (w.alloc (.cells #[.slice none 0 0] 22)).alloc (.cells #[.string s] 9) = U at *
  clear x0
  refine wp_range (gf := 22) (lb := #[.pointer (some ⟨w.heap.size + 1, 0, none⟩)]) rfl (enters_of Tryd.func22 (by kernel_rfl) rfl)
    (parts_seq (w.heap.size + 1) s (by omega) U x1.cell (by omega)) (fun k hk => hk.elim) rfl
    (fun k => w.heap.size + 2 ≤ k ∧ k < w.heap.size + 10) (fun k => by unfold Its; rw [hsz]; simp)
    (fun pre W => ∃ v, Boxed W w.heap.size 22 v ∧ W.ownsRow (w.heap.size + 10) 9 1 v pre.length (pre.map Value.string) ∧ Below w.heap.size w W)
    (fun _ _ _ => False)
    (by
      rintro pre A B ⟨v, h1, h2, h3⟩ ht
      exact ⟨v, ht.keeps h1 (by omega), ht.row h2 (by intro k hk; omega), h3.trans (ht.below (by intro k hk; omega) h3.size)⟩)
    (fun _ _ _ _ h _ => h)
    ⟨_, x2, World.ownsRow_nil _ _ _ _, hb⟩
    (fun x => { tmps := #[.string s, undef, .slice none 0 0, .pointer (some ⟨w.heap.size, 0, none⟩), .string x, .string s, .func (.func 22) #[] #[.pointer (some ⟨w.heap.size + 1, 0, none⟩)], .string x, undef, undef, undef, undef, undef], defers := [] }) ?assign ?body ?done ?stop
  case assign =>
    intro l x W K hK
    gi_wp2
    exact hK
  case body =>
    rintro l pre x W ⟨v, hv, hrow, hB⟩ hW hpre
    have hc := hv.cell
    have hf := hv.frozen
    have hle : pre.length + 1 ≤ s.size + 1 := by
      have := hpre.length_le
      rw [List.length_append, List.length_singleton] at this
      omega
    gi_wp2_with (gi_at_builtin; refine wpListIn_append_own _ rfl _ _ 22 rfl (w.heap.size + 10) 9 i0 (.string ⟨#[]⟩) 1 16 Tryd.underlying22 hi hz0 hz1 hz2 rfl (by decide) _ _ _ rfl (hrow.alloc _) ⟨W.heap.size, 0, none⟩ 1 1 [.string x] rfl rfl (cell_one_new _ _ _) (by simp [Value.oneCell']) (by unfold maxLen; omega) (by omega) (by simp; omega) ?_; intro v' w1 hown' hgrow _; obtain ⟨g', cap', rfl⟩ := ownsRow_succ hown'; obtain ⟨hv1, hv2, hr2, ht2, hb2⟩ := box_appended (n0 := w.heap.size) (T := fun k => w.heap.size + 2 ≤ k ∧ k < w.heap.size + 10) hv (by decide) hrow (by omega) (by intro k hk; omega) (Nat.le_refl _) (by omega) hown' hgrow; have hc1 := hv1.cell; have hf1 := hv1.frozen)
    exact ⟨ht2, _, hv2, by rw [List.length_append, List.map_append]; exact hr2, hB.trans hb2⟩
  case done =>
    rintro W ⟨v, hv, hrow, hB⟩ hK
    have hc := hv.cell
    gi_wp2
    refine ⟨by simp, .inl ⟨_, _, rfl, run_takeDeferred hK, ?_⟩⟩
    refine ⟨_, results_tmp rfl _ _ _, v, rfl, ?_, hB.trans ((Turns.putObj (T := fun k => w.heap.size + 2 ≤ k) _ (by omega)).below (by intro k hk; omega) hB.size)⟩
    have h2 := ownsRow_putObj hrow (.deferred none) hK rfl
    have e1 : (partsOf s).map Value.string = (parts s.data.toList).map strV := by unfold partsOf; rw [List.map_map]; rfl
    rw [e1, show (partsOf s).length = (parts s.data.toList).length by unfold partsOf; rw [List.length_map]] at h2
    exact World.ownsRow.mono h2 (by omega)
  case stop =>
    rintro c pre W _ h _
    exact h.elim
theorem parts_any (s : ByteArray) (hs : s.size ≤ 2147483648) (w : World) : Calls Tryd.prog 9 #[.string s] w (Hands w (parts s.data.toList)) := (parts_makes s hs w).mono fun _ _ h => makes_hands h
end Go.Proofs.YtoahbkmngmapaaaDoor.W04
