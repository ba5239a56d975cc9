/-
  Layer 4 (path), walks: the program's hasOnly with name.Right, isClean and Is, at every text of at most 2^31 bytes.
-/
import Derived.Test.YthplnkchmelbmaaDoorW04CleanCode
import Derived.Test.YthplnkchmelbmaaDoorW03Check
namespace Go.Proofs.YthplnkchmelbmaaDoor.W04
open Go Go.RowKit Go.Shelf Go.Proofs.YthplnkchmelbmaaDoor.Range Go.Proofs.YthplnkchmelbmaaDoor.M04 Go.Proofs.YthplnkchmelbmaaDoor.Strs
open Go.Proofs.YthplnkchmelbmaaDoor.M03 (check)
open Go.Proofs.YthplnkchmelbmaaDoor.Kit (ret_str ret_bool ret_int mk_of mk_bytes ba_ext below_draws on)
attribute [local go_sem] Oper.semAt_some

def rightOf (x : ByteArray) : Bool := decide (check x.data.toList = 0)
theorem part_size {pre : List ByteArray} {x s : ByteArray} (h : pre ++ [x] <+: partsOf s) : x.size ≤ s.size := by have := buf_room h; omega

set_option maxRecDepth 100000 in
set_option maxHeartbeats 2000000 in
theorem hasOnly_right (s : ByteArray) (hs : s.size ≤ 2147483648) (w : World) : Calls Tryd.prog 40 #[.string s, .func (.func 41) #[] #[]] w fun e w' => e = .returned (.bool ((partsOf s).all rightOf)) ∧ Below w.heap.size w w' := by
  have HP := Lib.hid (parts_at s)
  refine (callsIn_wide (n := 9)).1 ?_
  refine callsIn_of_wp_marks Tryd.func40 rfl trivial ?_ rfl
  simp only [Tryd.ntmps40, List.size_toArray, List.length_cons, List.length_nil, Nat.reduceAdd, Nat.reduceSub, Array.replicate_succ, Array.replicate_zero, List.push_toArray, List.append_toArray, List.nil_append, List.cons_append]
  gi_wp2
  refine ⟨trivial, ?_⟩
  gi_at_call 45
  refine (callsIn_wide.2 (HP.out _)).mono ?_
  rintro e w1 ⟨rfl, rfl⟩
  gi_wp2
  have y0 := Boxed.new w 37 (.func (.func 41) #[] #[])
  have x0 := Boxed.new (w.alloc (.cells #[.func (.func 41) #[] #[]] 37)) 4 (.bool false)
  have x1 := Boxed.new ((w.alloc (.cells #[.func (.func 41) #[] #[]] 37)).alloc (.cells #[.bool false] 4)) 9 (.string s)
  simp only [World.size_alloc] at x0 x1
  replace y0 := (y0.alloc (.cells #[.bool false] 4)).alloc (.cells #[.string s] 9)
  replace x0 := x0.alloc (.cells #[.string s] 9)
  have hb : Below w.heap.size w (((w.alloc (.cells #[.func (.func 41) #[] #[]] 37)).alloc (.cells #[.bool false] 4)).alloc (.cells #[.string s] 9)) := (((Below.refl _ w).alloc (Nat.le_refl _) _).alloc (by simp) _).alloc (by simp; omega) _
  have hsz : (((w.alloc (.cells #[.func (.func 41) #[] #[]] 37)).alloc (.cells #[.bool false] 4)).alloc (.cells #[.string s] 9)).heap.size = w.heap.size + 3 := by simp
  generalize ((w.alloc (.cells #[.func (.func 41) #[] #[]] 37)).alloc (.cells #[.bool false] 4)).alloc (.cells #[.string s] 9) = U at *
  refine wp_range (gf := 50) (lb := #[.pointer (some ⟨w.heap.size + 1 + 1, 0, none⟩)]) rfl (enters_of Tryd.func50 (by kernel_rfl) rfl)
    (parts_seq (w.heap.size + 1 + 1) s (by omega) U x1.cell (by omega)) (fun k hk => hk.elim) rfl
    (fun k => w.heap.size + 3 ≤ k ∧ k < w.heap.size + 11) (fun k => by unfold Its; rw [hsz]; simp)
    (fun pre W => Hid (pre.all rightOf = true) ∧ Boxed W w.heap.size 37 (.func (.func 41) #[] #[]) ∧ Boxed W (w.heap.size + 1) 4 (.bool false) ∧ Below w.heap.size w W)
    (fun c pre W => c = .ret ∧ Hid (pre.all rightOf = false) ∧ Boxed W (w.heap.size + 1) 4 (.bool false) ∧ Below w.heap.size w W)
    (by
      rintro pre X Y ⟨h0, h1, h2, h3⟩ ht
      exact ⟨h0, ht.keeps h1 (by omega), ht.keeps h2 (by omega), h3.trans (ht.below (by intro k hk; omega) h3.size)⟩)
    (by
      rintro c pre X Y ⟨h0, h1, h2, h3⟩ ht
      exact ⟨h0, h1, ht.keeps h2 (by omega), h3.trans (ht.below (by intro k hk; omega) h3.size)⟩)
    ⟨rfl, y0, x0, hb⟩
    (fun x => { tmps := #[.string s, .func (.func 41) #[] #[], undef, .pointer (some ⟨w.heap.size, 0, none⟩), .pointer (some ⟨w.heap.size + 1, 0, none⟩), .string x, .string s, .func (.func 50) #[] #[.pointer (some ⟨w.heap.size + 1 + 1, 0, none⟩)], .string x, undef, undef, undef, undef], defers := [] }) ?assign ?body ?done ?stop
  case assign =>
    intro l x W K hK
    gi_wp2
    exact hK
  case body =>
    rintro l pre x W ⟨hal, hm, hv, hB⟩ hW hpre
    have hcm := hm.cell
    have hc := hv.cell
    have hf := hv.frozen
    have HR := Lib.hid (W03.right_any x (by have := part_size hpre; omega))
    have HA : Hid ((pre ++ [x]).all rightOf = rightOf x) := by show _ = _; rw [List.all_append, hal.out]; simp
    rw [show decide (check x.data.toList = 0) = rightOf x from rfl] at HR
    clear hal hpre
    cases hrx : rightOf x with
    | true =>
      rw [hrx] at HR HA
      gi_wp2
      refine ⟨trivial, ?_⟩
      gi_at_call 41
      refine (CallsIn.inRound l (callsIn_wide.2 (HR.out _))).mono ?_
      rintro e w5 ⟨rfl, hb5⟩
      gi_wp2
      exact ⟨Turns.new hb5, HA, (Turns.new hb5 (T := fun _ => False)).keeps hm id, (Turns.new hb5 (T := fun _ => False)).keeps hv id, on hB hb5⟩
    | false =>
      rw [hrx] at HR HA
      gi_wp2
      refine ⟨trivial, ?_⟩
      gi_at_call 41
      refine (CallsIn.inRound l (callsIn_wide.2 (HR.out _))).mono ?_
      rintro e w5 ⟨rfl, hb5⟩
      have hv5 : Boxed w5 (w.heap.size + 1) 4 (.bool false) := (Turns.new hb5 (T := fun _ => False)).keeps hv id
      have hc5 := hv5.cell
      have hf5 := hv5.frozen
      gi_wp2
      exact ⟨(Turns.new hb5).trans (Turns.setCell _ (by simp)), rfl, HA, hv5.set _, (on hB hb5).setCell (p := ⟨w.heap.size + 1, 0, none⟩) (by simp) _⟩
  case done =>
    rintro W ⟨hal, hm, hv, hB⟩ hK
    have hc := hv.cell
    have hf := hv.frozen
    have hv2 := hv.set (.bool true)
    have hK' : (W.setCell ⟨w.heap.size + 1, 0, none⟩ (.bool true)).heap[U.heap.size]? = some (.deferred (some [])) := (Turns.setCell (T := fun k => k = w.heap.size + 1) _ rfl).keeps hK (by omega)
    gi_wp2
    refine ⟨by simp, .inl ⟨_, _, rfl, run_takeDeferred hK', ?_⟩⟩
    have hv3 : Boxed ((W.setCell ⟨w.heap.size + 1, 0, none⟩ (.bool true)).putObj U.heap.size (.deferred none)) (w.heap.size + 1) 4 (.bool true) := (Turns.putObj (T := fun k => k = U.heap.size) _ rfl).keeps hv2 (by omega)
    have hc5 := hv3.cell
    refine ⟨.bool true, ?_, by rw [hal.out], (hB.setCell (p := ⟨w.heap.size + 1, 0, none⟩) (by simp) _).trans ((Turns.putObj (T := fun k => w.heap.size ≤ k) _ (by omega)).below (fun _ h => h) (by simpa using hB.size))⟩
    simp [results, Tryd.f40, go_sem, hc5]
  case stop =>
    rintro c pre W hpre ⟨rfl, hal, hv, hB⟩ hK
    gi_wp2
    refine ⟨by simp, .inl ⟨_, _, rfl, run_takeDeferred hK, ?_⟩⟩
    have hv3 : Boxed (W.putObj U.heap.size (.deferred none)) (w.heap.size + 1) 4 (.bool false) := (Turns.putObj (T := fun k => k = U.heap.size) _ rfl).keeps hv (by omega)
    have hc5 := hv3.cell
    have hall : (partsOf s).all rightOf = false := by
      obtain ⟨t, ht⟩ := hpre
      rw [← ht, List.all_append, hal.out]; rfl
    refine ⟨.bool false, ?_, by rw [hall], hB.trans ((Turns.putObj (T := fun k => w.heap.size ≤ k) _ (by omega)).below (fun _ h => h) hB.size)⟩
    simp [results, Tryd.f40, go_sem, hc5]
end Go.Proofs.YthplnkchmelbmaaDoor.W04
