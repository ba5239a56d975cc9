/-
  Layer 4 (path), walks: what Go's strings.SplitSeq at one slash hands out, and what the program's own iterator of a path's parts hands out, as contracts of iterators; at every text of at most 2^40 bytes.
-/
import Derived.Test.YthplnkchmelbmaaDoorW04Pieces
import Derived.Test.YthplnkchmelbmaaDoorRange
import Derived.Test.YthplnkchmelbmaaDoorShelf
import Derived.Test.YthplnkchmelbmaaDoorKit
import Derived.Test.YthplnkchmelbmaaDoorChecked
import Derived.RangeFuncBound
import Derived.Shelf.Abstract
import Derived.Shelf.RegionOpen
import Derived.WalkKit
import Derived.OwnWalkIn
import Derived.TacticsInMore
import Derived.LoopNIn
import Derived.LoopIn
namespace Go.Proofs.YthplnkchmelbmaaDoor.W04
set_option maxRecDepth 100000
open Go Go.RowKit Go.Shelf Go.Proofs.YthplnkchmelbmaaDoor.Range Go.Proofs.YthplnkchmelbmaaDoor.M04
open Go.Proofs.YthplnkchmelbmaaDoor.Kit (ret_str ret_bool ret_int mk_of mk_bytes below_draws on)
attribute [local go_sem] Oper.semAt_some

theorem index_slash (s : ByteArray) (w : World) : Calls Tryd.prog 63 #[.string s, .string ⟨#[47]⟩] w fun e w' => e = .returned (.int .i64 (Lib.indexByte s.data.toList 47)) ∧ ∃ n, w' = w.drewN n := by
  have H : Hid (∀ w : World, Calls Tryd.prog 43 #[.string s, .int .u8 47] w fun e w' => e = .returned (.int .i64 (Lib.indexByte s.data.toList 47)) ∧ w' = w) := fun w => Tryd.stringslite_IndexByte s 47 w
  have H2 : Hid (∀ w : World, Calls Tryd.prog 47 #[.string s, .string ⟨#[47]⟩] w fun e w' => e = .returned (.int .i64 (Lib.indexByte s.data.toList 47)) ∧ ∃ n, w' = w.drewN n) := by
    show ∀ w : World, _
    intro w
    cases ht : ([47] == s.toList) with
    | true =>
      have e : s.data.toList = [47] := by rw [← Lib.toList_data]; exact (beq_iff_eq.1 ht).symm
      have e2 : Lib.indexByte s.data.toList 47 = 0 := by rw [e]; rfl
      rw [e2]
      clear e e2 H
      go_enter Tryd.func47, Tryd.ntmps47
      go_wp2_with fail
      go_ret
      exact ⟨rfl, 0, rfl⟩
    | false =>
      generalize Lib.indexByte s.data.toList 47 = r at *
      go_enter Tryd.func47, Tryd.ntmps47
      go_wp2_with fail
      refine Calls.mono (H.out _) ?_
      rintro e w1 ⟨rfl, rfl⟩
      go_wp2_with fail
      go_ret
      exact ⟨rfl, 0, rfl⟩
  generalize Lib.indexByte s.data.toList 47 = r at *
  go_enter Tryd.func63, Tryd.ntmps63
  go_wp2_with fail
  refine (H2.out _).mono ?_
  rintro e w1 ⟨rfl, n, rfl⟩
  go_wp2_with fail
  go_ret
  exact ⟨rfl, n, rfl⟩
/-- the three variables that strings.SplitSeq's iterator has caught: the separator, what is left of the text, and how much of the separator is kept -/
def caught (b : Nat) : Array Value := #[.pointer (some ⟨b + 1, 0, none⟩), .pointer (some ⟨b, 0, none⟩), .pointer (some ⟨b + 2, 0, none⟩)]
def three (w : World) (s : ByteArray) : World := ((w.alloc (.cells #[.string s] 9)).alloc (.cells #[.string ⟨#[47]⟩] 9)).alloc (.cells #[.int .i64 0] 3)
theorem splitSeq_at (s : ByteArray) (w : World) : Calls Tryd.prog 51 #[.string s, .string ⟨#[47]⟩] w fun e w' => e = .returned (.func (.func 61) #[] (caught w.heap.size)) ∧ w' = three w s := by
  have H : Hid (∀ w : World, Calls Tryd.prog 59 #[.string s, .string ⟨#[47]⟩, .int .i64 0] w fun e w' => e = .returned (.func (.func 61) #[] (caught w.heap.size)) ∧ w' = three w s) := by
    show ∀ w : World, _
    intro w
    go_enter Tryd.func59, Tryd.ntmps59
    go_wp2_with fail
    go_ret
    exact ⟨rfl, rfl⟩
  go_enter Tryd.func51, Tryd.ntmps51
  go_wp2_with fail
  refine (H.out _).mono ?_
  rintro e w1 ⟨rfl, rfl⟩
  go_wp2_with fail
  go_ret
  exact ⟨rfl, rfl⟩

def restOf (b : Nat) (W : World) : Nat := match W.cell? ⟨b, 0, none⟩ with
  | some (.string r) => r.size
  | _ => 0
theorem restOf_eq {b : Nat} {W : World} {r : ByteArray} (h : W.cell? ⟨b, 0, none⟩ = some (.string r)) : restOf b W = r.size := by unfold restOf; rw [h]
/-- the blocks of the three variables -/
def Three (b k : Nat) : Prop := b ≤ k ∧ k < b + 3
set_option maxRecDepth 100000 in
set_option maxHeartbeats 2000000 in
theorem split_seq (b : Nat) (s : ByteArray) (hs : s.size ≤ 281474976710656) (w0 : World) (c0 : w0.cell? ⟨b, 0, none⟩ = some (.string s)) (f0 : w0.frozen? ⟨b, 0, none⟩ = false)
    (c1 : w0.cell? ⟨b + 1, 0, none⟩ = some (.string ⟨#[47]⟩)) (c2 : w0.cell? ⟨b + 2, 0, none⟩ = some (.int .i64 0)) (hb : b + 2 < w0.heap.size) :
    Seq Tryd.prog 61 (caught b) (fun x : ByteArray => .string x) (Three b) 0 (piecesOf s) w0 := by
  intro l J Jx W hW hJ hJx hY h0
  replace c0 : W.cell? ⟨b, 0, none⟩ = some (.string s) := (hW.cell (p := ⟨b, 0, none⟩) (by simp; omega)).trans c0
  replace f0 : W.frozen? ⟨b, 0, none⟩ = false := (World.frozen?_of_block (hW.block _ (by simp; omega))).trans f0
  replace c1 : W.cell? ⟨b + 1, 0, none⟩ = some (.string ⟨#[47]⟩) := (hW.cell (p := ⟨b + 1, 0, none⟩) (by simp; omega)).trans c1
  replace c2 : W.cell? ⟨b + 2, 0, none⟩ = some (.int .i64 0) := (hW.cell (p := ⟨b + 2, 0, none⟩) (by simp; omega)).trans c2
  have HI := Lib.hid index_slash
  refine (callsIn_wide (n := 9)).1 ?_
  refine callsIn_of_wp Tryd.func61 rfl trivial ?_ rfl
  simp only [Tryd.ntmps61, caught, List.size_toArray, List.length_cons, List.length_nil, Nat.reduceAdd, Nat.reduceSub, Array.replicate_succ, Array.replicate_zero, List.push_toArray, List.append_toArray, List.nil_append, List.cons_append]
  gi_wp2
  gi_loopw [7, 8] (fun i f wr => ∃ (pre : List ByteArray) (r : ByteArray), Hid (pre ++ piecesOf r = piecesOf s) ∧ Hid (J pre wr) ∧ r.size ≤ s.size ∧ W.heap.size ≤ wr.heap.size ∧
      wr.cell? ⟨b, 0, none⟩ = some (.string r) ∧ wr.frozen? ⟨b, 0, none⟩ = false ∧ wr.cell? ⟨b + 1, 0, none⟩ = some (.string ⟨#[47]⟩) ∧ wr.cell? ⟨b + 2, 0, none⟩ = some (.int .i64 0)) (fun _ _ wr => restOf b wr)
  case atStart => exact ⟨[], s, rfl, h0, Nat.le_refl _, Nat.le_refl _, c0, f0, c1, c2⟩
  case round =>
    obtain ⟨pre, r, hp, hj, hr, hsz, d0, g0, d1, d2⟩ := hrel
    clear c0 f0 c1 c2 h0
    rcases first_slash r with ⟨hi, hq⟩ | ⟨k, hi, hk, hq⟩
    · have HI2 := Lib.hid (HI.out r)
      rw [hi] at HI2
      gi_wp2
      refine ⟨trivial, ?_⟩
      gi_at_call 63
      refine (callsIn_wide.2 (HI2.out _)).mono ?_
      rintro e w' ⟨rfl, m, rfl⟩
      have hpre : pre ++ [r] = piecesOf s := by rw [← hp.out, hq]
      obtain ⟨fn, tmps, assign, body, hy, hR⟩ := hY pre r (wr.drewN m) (hJ _ _ _ hj.out (Turns.draw _ _ _)) hsz (by rw [hpre]; exact List.prefix_refl _)
      clear hY
      gi_wp2
      refine (round_wide _ hR).mono ?_
      rintro e W3 (⟨rfl, hJ3, -⟩ | ⟨rfl, hJx3, -⟩)
      · gi_wp2
        go_end0
        exact ⟨⟨_, rfl⟩, .inl (by rw [← hpre]; exact hJ3)⟩
      · gi_wp2
        go_end0
        exact ⟨⟨_, rfl⟩, .inr ⟨_, by rw [hpre]; exact List.prefix_refl _, hJx3⟩⟩
    · have HI2 := Lib.hid (HI.out r)
      rw [hi] at HI2
      gi_wp2
      refine ⟨trivial, ?_⟩
      gi_at_call 63
      refine (callsIn_wide.2 (HI2.out _)).mono ?_
      rintro e w' ⟨rfl, m, rfl⟩
      have hpre : (pre ++ [r.extract 0 k]) ++ piecesOf (r.extract (k + 1) r.size) = piecesOf s := by rw [List.append_assoc, List.singleton_append, ← hq]; exact hp.out
      obtain ⟨fn, tmps, assign, body, hy, hR⟩ := hY pre (r.extract 0 k) (wr.drewN m) (hJ _ _ _ hj.out (Turns.draw _ _ _)) hsz ⟨_, hpre⟩
      gi_wp2
      refine (round_wide _ hR).mono ?_
      rintro e W3 (⟨rfl, hJ3, hk3⟩ | ⟨rfl, hJx3, -⟩)
      · have e0 := restOf_eq d0
        have own : ∀ i, b ≤ i → i < b + 3 → ¬ ¬ Its (Three b) W.heap.size 0 i := fun i h1 h2 h => h (Or.inl ⟨h1, h2⟩)
        have f3 : W3.frozen? ⟨b, 0, none⟩ = false := (hk3.frozen (a := ⟨b, 0, none⟩) d0 (own b (Nat.le_refl _) (by omega))).trans g0
        replace d0 : W3.cell? ⟨b, 0, none⟩ = some (.string r) := hk3.cell (a := ⟨b, 0, none⟩) d0 (own b (Nat.le_refl _) (by omega))
        replace d1 : W3.cell? ⟨b + 1, 0, none⟩ = some (.string ⟨#[47]⟩) := hk3.cell (a := ⟨b + 1, 0, none⟩) d1 (own (b + 1) (by omega) (by omega))
        replace d2 : W3.cell? ⟨b + 2, 0, none⟩ = some (.int .i64 0) := hk3.cell (a := ⟨b + 2, 0, none⟩) d2 (own (b + 2) (by omega) (by omega))
        have hs3 : W.heap.size ≤ W3.heap.size := Nat.le_trans hsz hk3.size
        clear hY hR hy own
        gi_wp2
        go_roundw
        case rel =>
          refine ⟨pre ++ [r.extract 0 k], r.extract (k + 1) r.size, hpre, ?_, ?_, ?_, ?_, ?_, ?_, ?_⟩
          · exact hJ _ _ _ hJ3 (Turns.setCell _ (Or.inl ⟨Nat.le_refl _, by simp⟩))
          · rw [ByteArray.size_extract]; omega
          · simpa using hs3
          · exact World.cell?_setCell_same' _ _ _ (by rw [d0]; rfl)
          · rw [World.frozen?_setCell]; exact f3
          · exact (grown_set W3 ⟨b, 0, none⟩ _).cell d1 (by simp)
          · exact (grown_set W3 ⟨b, 0, none⟩ _).cell d2 (by simp)
        case measure =>
          rw [e0, restOf_eq (World.cell?_setCell_same' _ _ _ (by rw [d0]; rfl)), ByteArray.size_extract]
          omega
      · gi_wp2
        refine bodyPost_ret (results_none rfl _ _ _) rfl ?_
        exact ⟨⟨_, rfl⟩, .inr ⟨_, ⟨_, hpre⟩, hJx3⟩⟩

end Go.Proofs.YthplnkchmelbmaaDoor.W04
