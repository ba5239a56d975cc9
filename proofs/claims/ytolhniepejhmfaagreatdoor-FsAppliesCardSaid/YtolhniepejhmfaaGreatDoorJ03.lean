/-
  Texts joined, in build order, each with its own comment and its own conditions: W06Walk, W06Put, W06More, W07Walk.
-/
import Derived.Test.YtolhniepejhmfaaGreatDoorJ01
import Derived.Test.YtolhniepejhmfaaGreatDoorJ02
import Derived.WalkSpells
import Derived.WalkLawsBesides
import Derived.BigQuiet
import Derived.Laws.ResultCell
import Derived.Laws.NewBlocks
import Derived.Deep.RegionHeld3
/-
  Layer 6 (ents), walks: the plain answers Right, all, Find, Cut: what each returns; new memory may be laid, nothing that was there is changed.
-/
namespace Go.Proofs.YtolhniepejhmfaaGreatDoor.W06
set_option maxRecDepth 100000
open Go Go.RowKit Go.Proofs.YtolhniepejhmfaaGreatDoor.Strs Go.Proofs.YtolhniepejhmfaaGreatDoor.Recs Go.Proofs.YtolhniepejhmfaaGreatDoor.M06
open Go.Proofs.YtolhniepejhmfaaGreatDoor.M03 (lt)
open Go.Proofs.YtolhniepejhmfaaGreatDoor.W03 (less_bytes same_bytes)
open Go.Proofs.YtolhniepejhmfaaGreatDoor.Kit (ret_str ret_bool ret_int mk_of mk_bytes ba_ext below_draws on)

/-- an entry's cells -/
def entC (e : Ent) : List Value := [strV e.1, .int .i64 e.2]
theorem entC_len (e : Ent) : (entC e).length = 2 := rfl
abbrev Ents (B : Nat) (w : World) (v : Value) (L : List Ent) : Prop := Recs entC 2 B w v L
theorem Ents.at_ {B : Nat} {w : World} {L : List Ent} {A : Option Addr} {n c : Nat} (h : Ents B w (.slice A n c) L) {k : Nat} (hk : k < n) : ∃ (b o : Nat) (hl : k < L.length) (s : ByteArray), A = some ⟨b, o, none⟩ ∧ b < B ∧ s.data.toList = (L[k]).1 ∧ w.cell? ⟨b, o + k * 2, none⟩ = some (.string s) ∧ w.cell? ⟨b, o + k * 2 + 1, none⟩ = some (.int .i64 (L[k]).2) := by
  obtain ⟨b, o, hl, rfl, hb, hc⟩ := Recs.flat_ h entC_len (by omega) hk
  exact ⟨b, o, hl, ⟨(L[k]).1.toArray⟩, rfl, hb, rfl, hc 0 (by omega), hc 1 (by omega)⟩

set_option maxHeartbeats 400000 in
theorem refRight_any (v : Value) (L : List Ent) (B : Nat) (w : World) (h : Ents B w v L) (hn : L.length ≤ 1099511627776) :
    Calls Tryz.prog 106 #[v] w fun e w' => e = .returned (.bool (right L)) ∧ ∃ n, w' = w.drewN n := by
  obtain ⟨A, c, rfl, hA1, hA2⟩ := h.form
  have H := Lib.hid h
  unfold maxLen at hA2
  clear h
  generalize hm : L.length = n at *
  have HM := Lib.hid hm
  clear hm
  go_enter Tryz.func106, Tryz.ntmps106
  go_wp2
  go_loopw [3] (fun i wr => ∃ k : Nat, k ≤ n ∧ i = .int .i64 k ∧ Hid (right L = right (L.drop k)) ∧ ∃ q, wr = w.drewN q) (fun i _ => n - (intOf i).toNat)
  case atStart => exact ⟨0, Nat.zero_le _, rfl, rfl, 0, rfl⟩
  case round =>
    obtain ⟨k, hk, rfl, hr, q, rfl⟩ := hrel
    by_cases hlt : k + 1 < n
    · obtain ⟨b, o, hl1, s, rfl, hbl, hs, hc0, hc1⟩ := Ents.at_ H.out (k := k) (by omega)
      obtain ⟨b', o', hl2, t, he, hbl2, ht, hd0, hd1⟩ := Ents.at_ H.out (k := k + 1) hlt
      cases he
      have HS := Lib.hid (right_step (L := L) (k := k) hl2)
      rw [← hs, ← ht, ← hr.out] at HS
      have hlb := less_bytes s t
      clear hs ht
      by_cases hl : lt s.data.toList t.data.toList
      · have t1 : Op.bytesLess s.toList t.toList = true := by rw [hlb]; simpa using hl
        have HX : Hid (right L = right (L.drop (k + 1))) := by have := HS.out; rw [decide_eq_true hl, Bool.true_and] at this; exact this
        clear hlb hl
        go_wp2_with fail
        go_quiet (fail)
        go_wp2_with fail
        go_roundw
        case rel => exact ⟨k + 1, by omega, by go_num, HX, q + nq, by first | rfl | rw [World.drewN_drewN]⟩
        case measure => simp [intOf]; omega
      · have t1 : Op.bytesLess s.toList t.toList = false := by rw [hlb]; simpa using hl
        have HX : Hid (right L = false) := by have := HS.out; rw [decide_eq_false hl, Bool.false_and] at this; exact this
        clear hlb hl
        go_wp2_with fail
        go_quiet (fail)
        go_wp2_with fail
        go_ret
        exact ⟨ret_bool HX.out.symm, q + nq, by first | rfl | rw [World.drewN_drewN]⟩
    · have HX := Lib.hid (hr.out.trans (right_last (by rw [HM.out]; exact hlt)))
      go_wp2_with fail
      go_ret
      exact ⟨ret_bool HX.out.symm, q, rfl⟩
theorem refAll_any (v : Value) (L : List Ent) (B : Nat) (w : World) (h : Ents B w v L) (hn : L.length ≤ 1099511627776) :
    Calls Tryz.prog 91 #[v] w fun e w' => (∃ u, e = .returned u ∧ Ents B w u (all L)) ∧ ∃ n, w' = w.drewN n := by
  have HR := Lib.hid (refRight_any v L B w h hn)
  have H := Lib.hid h
  obtain ⟨A, c, rfl, hA1, hA2⟩ := h.form
  clear h
  cases hr : right L with
  | true =>
    have HA := Lib.hid (all_right hr)
    rw [hr] at HR
    clear hr
    go_enter Tryz.func91, Tryz.ntmps91
    go_wp2_with fail
    refine HR.out.mono ?_
    rintro e w1 ⟨rfl, q, rfl⟩
    go_wp2_with fail
    go_ret
    exact ⟨⟨_, rfl, by rw [HA.out]; exact H.out⟩, q, rfl⟩
  | false =>
    have HA : Hid (all L = []) := by show _ = _; unfold all; rw [hr]; rfl
    rw [hr] at HR
    clear hr
    go_enter Tryz.func91, Tryz.ntmps91
    go_wp2_with fail
    refine HR.out.mono ?_
    rintro e w1 ⟨rfl, q, rfl⟩
    go_wp2_with fail
    go_ret
    exact ⟨⟨_, rfl, by rw [HA.out]; exact recs_nil _ _ _ _⟩, q, rfl⟩
/-! ### Find -/
theorem find_here {L : List Ent} {s : List UInt8} {k : Nat} (hk : k < L.length) (h : (L[k]).1 = s) : M06.find (L.drop k) s = ((L[k]).2, true) := by
  rw [drop_at hk, M06.find, if_pos h]
theorem find_on {L : List Ent} {s : List UInt8} {k : Nat} (hk : k < L.length) (h : ¬ (L[k]).1 = s) : M06.find (L.drop k) s = M06.find (L.drop (k + 1)) s := by
  rw [drop_at hk, M06.find, if_neg h]
theorem find_end {L : List Ent} {s : List UInt8} {k : Nat} (hk : ¬ k < L.length) : M06.find (L.drop k) s = (0, false) := by
  rw [List.drop_of_length_le (by omega)]; rfl
theorem ret_node {a b : Int} {c d : Bool} (h : a = b) (h2 : c = d) : Ending.returned (.tuple #[.int .i64 a, .bool c]) = .returned (.tuple #[.int .i64 b, .bool d]) := by rw [h, h2]


/-! ### Cut -/
theorem ent_info : (Tryz.prog.info? 104).map (fun i => (i.zero, i.size, i.bytes)) = some (some (.agg #[.string ⟨#[]⟩, .int .i64 0]), 2, 24) := by kernel_rfl
theorem cut_keep {L : List Ent} {s : List UInt8} {k : Nat} (hk : k < L.length) (h : ¬ (L[k]).1 = s) : cutL (L.take (k + 1)) s = cutL (L.take k) s ++ [L[k]] := by
  unfold cutL; rw [take_at hk, List.filter_append]; simp [h]
theorem cut_drop {L : List Ent} {s : List UInt8} {k : Nat} (hk : k < L.length) (h : (L[k]).1 = s) : cutL (L.take (k + 1)) s = cutL (L.take k) s := by
  unfold cutL; rw [take_at hk, List.filter_append]; simp [h]
theorem take_all {L : List Ent} {k : Nat} (hk : ¬ k < L.length) : L.take k = L := List.take_of_length_le (by omega)
/-- a row of entries that a call makes -/
def OwnEnts (w : World) (base : Nat) (v : Value) (L : List Ent) : Prop := w.ownsRow base 104 2 v L.length (L.flatMap entC)
def MakesE (w : World) (L : List Ent) (e : Ending) (w' : World) : Prop := ∃ v, e = .returned v ∧ OwnEnts w' w.heap.size v L ∧ Below w.heap.size w w'
theorem OwnEnts.reads {w : World} {base : Nat} {v : Value} {L : List Ent} (h : OwnEnts w base v L) : Ents w.heap.size w v L := Recs.of_own entC_len rfl h
theorem own_ents_nil (w : World) (base : Nat) : OwnEnts w base (.slice none 0 0) [] := World.ownsRow_nil _ _ _ _
theorem own_ents_more {w : World} {base : Nat} {v : Value} {out : List Ent} {e : Ent} (h : w.ownsRow base 104 2 v (out.length + 1) (out.flatMap entC ++ [strV e.1, .int .i64 e.2])) : OwnEnts w base v (out ++ [e]) := by
  unfold OwnEnts
  rw [List.length_append, List.flatMap_append]
  have : ([e].flatMap entC) = [strV e.1, .int .i64 e.2] := by simp [entC]
  rw [this]; exact h
theorem below_more2 {w wr w1 : World} {base : Nat} {o : Obj} {v : Value} {n size : Nat} {xs : List Value} {e : TypeId} (hb : Below base w wr) (hbase : base ≤ wr.heap.size) (hown : wr.ownsRow base e size v n xs) (hg : (wr.alloc o).grownBy w1 v.ownBlock) : Below base w w1 :=
  (hb.alloc hbase o).grown hg (by simp; omega) (fun k hk => (hown.lt k hk).1)

theorem own_alloc {w : World} {base : Nat} {v : Value} {L : List Ent} (h : OwnEnts w base v L) (o : Obj) : (w.alloc o).ownsRow base 104 2 v L.length (L.flatMap entC) := World.ownsRow.alloc h o
theorem ent_text {s : ByteArray} {e : Ent} (h : s.data.toList = e.1) : Value.string s = strV e.1 := by rw [← h]; unfold strV; rw [mk_bytes]

set_option maxHeartbeats 1000000 in
theorem refCut_any (v : Value) (L : List Ent) (B : Nat) (s : ByteArray) (w : World) (h : Ents B w v L) (hB : B ≤ w.heap.size) (hn : L.length ≤ 1099511627776) :
    Calls Tryz.prog 72 #[v, .string s] w (MakesE w (cut L s.data.toList)) := by
  obtain ⟨i0, hi, hz0, hz1, hz2⟩ := info_parts ent_info
  have HA := Lib.hid (refAll_any v L B w h hn)
  obtain ⟨A0, c0, rfl, -, -⟩ := h.form
  have hn2 := all_len L
  clear h
  unfold cut
  generalize all L = M at *
  go_enter Tryz.func72, Tryz.ntmps72
  go_wp2_with fail
  refine HA.out.mono ?_
  rintro e w1 ⟨⟨u, rfl, hu⟩, q0, rfl⟩
  have H := Lib.hid hu
  obtain ⟨A, c, rfl, hA1, hA2⟩ := hu.form
  unfold maxLen at hA2
  clear hu
  generalize hm : M.length = n at *
  have HM := Lib.hid hm
  clear hm
  go_wp2
  go_loopw [5, 6] (fun u i wr => ∃ (k : Nat) (out : List Ent), k ≤ n ∧ i = .int .i64 k ∧ out.length ≤ k ∧ Hid (out = cutL (M.take k) s.data.toList) ∧ Hid (OwnEnts wr w.heap.size u out) ∧ Below w.heap.size w wr) (fun _ i _ => n - (intOf i).toNat)
  case atStart => exact ⟨0, [], Nat.zero_le _, rfl, Nat.le_refl _, rfl, own_ents_nil _ _, below_draws w q0⟩
  case round =>
    obtain ⟨k, out, hk, rfl, hout, hr, hown, hb⟩ := hrel
    have hbs := hb.size
    by_cases hlt : k < n
    · obtain ⟨b, o, hl1, t, rfl, hbl, ht, hc0, hc1⟩ := Ents.at_ (H.out.below (hb.mono hB)) hlt
      by_cases hts : t.data.toList = s.data.toList
      · have tt : (t.toList == s.toList) = true := by rw [same_bytes]; simpa using hts
        have HX := Lib.hid (hr.out.trans (cut_drop hl1 (ht.symm.trans hts)).symm)
        clear ht hts
        go_wp2_with fail
        go_roundw
        case rel => exact ⟨k + 1, out, by omega, by go_num, by omega, HX, hown, hb⟩
        case measure => simp [intOf]; omega
      · have tt : (t.toList == s.toList) = false := by rw [same_bytes]; simpa using hts
        have HX := Lib.hid (cut_keep (s := s.data.toList) hl1 (fun e => hts (ht.trans e)))
        rw [← hr.out] at HX
        have HT := Lib.hid (ent_text ht)
        clear hts ht
        go_wp2_with (at_builtin; refine wpList_append_own _ rfl (.tmp 22) (.tmp 27) 81 rfl w.heap.size 104 i0 (.agg #[.string ⟨#[]⟩, .int .i64 0]) 2 24 Tryz.underlying81 hi hz0 hz1 hz2 rfl (by decide) _ _ _ rfl (own_alloc hown.out _) ⟨_, 0, none⟩ 1 1 [.string t, .int .i64 (M[k]).2] rfl rfl (cells_new _ [_, _] _) (by intro u hu; simp at hu; rcases hu with rfl | rfl <;> rfl) (by unfold maxLen; omega) (by omega) (by simp; omega) ?_; intro v1 w2 hown1 hgrow1 _)
        rw [HT.out] at hown1
        have B2 := Lib.hid (below_more2 hb hbs hown.out hgrow1)
        have O1 := Lib.hid (own_ents_more hown1)
        clear hown1 hgrow1
        go_wp2
        go_roundw
        case rel => exact ⟨k + 1, _, by omega, by go_num, by rw [List.length_append]; simp; omega, HX.symm, O1, B2.out⟩
        case measure => simp [intOf]; omega
    · have HX := Lib.hid (hr.out.trans (by rw [take_all (by rw [HM.out]; exact hlt)]))
      go_wp2_with fail
      go_ret
      exact ⟨_, rfl, by rw [← HX.out]; exact hown.out, hb⟩
end Go.Proofs.YtolhniepejhmfaaGreatDoor.W06
/-
  Layer 6 (ents), walks: the plain answers Put, Merge, Next and Same: what each returns; new memory may be laid, nothing that was there is changed.
-/
namespace Go.Proofs.YtolhniepejhmfaaGreatDoor.W06
set_option maxRecDepth 100000
open Go Go.RowKit Go.Proofs.YtolhniepejhmfaaGreatDoor.Strs Go.Proofs.YtolhniepejhmfaaGreatDoor.Recs Go.Proofs.YtolhniepejhmfaaGreatDoor.M06
open Go.Proofs.YtolhniepejhmfaaGreatDoor.M03 (lt)
open Go.Proofs.YtolhniepejhmfaaGreatDoor.W03 (less_bytes same_bytes)
open Go.Proofs.YtolhniepejhmfaaGreatDoor.Kit (ret_str ret_bool ret_int mk_of mk_bytes ba_ext below_draws on)

theorem own_lower {w : World} {a b : Nat} {v : Value} {L : List Ent} (hab : b ≤ a) (h : OwnEnts w a v L) : OwnEnts w b v L := by
  refine ⟨h.1, ?_⟩
  rcases h.2 with hn | ⟨g, cap, cur, hv, hb, hg, rest⟩
  · exact Or.inl hn
  · exact Or.inr ⟨g, cap, cur, hv, by omega, hg, rest⟩
theorem filter_next {L : List Ent} {p : Ent → Bool} {k : Nat} (hk : k < L.length) (h : p L[k] = true) : (L.take (k + 1)).filter p = (L.take k).filter p ++ [L[k]] := by
  rw [take_at hk, List.filter_append]; simp [h]
theorem filter_skip {L : List Ent} {p : Ent → Bool} {k : Nat} (hk : k < L.length) (h : p L[k] = false) : (L.take (k + 1)).filter p = (L.take k).filter p := by
  rw [take_at hk, List.filter_append]; simp [h]

set_option maxHeartbeats 2000000 in
theorem refPut_any (v : Value) (L : List Ent) (B : Nat) (en : ByteArray) (z : Int) (w : World) (h : Ents B w v L) (hB : B ≤ w.heap.size) (hn : L.length ≤ 1099511627776) :
    Calls Tryz.prog 49 #[v, .agg #[.string en, .int .i64 z]] w (MakesE w (put L (en.data.toList, z))) := by
  obtain ⟨i0, hi, hz0, hz1, hz2⟩ := info_parts ent_info
  have HC := Lib.hid (refCut_any v L B en (w.alloc (.cells #[.string en, .int .i64 z] 104)) (h.alloc hB _) (by simp; omega) hn)
  have hcl := cut_len L en.data.toList
  have HPU : Hid (put L (en.data.toList, z) = (cut L en.data.toList).filter (fun a => decide (lt a.1 en.data.toList)) ++ (en.data.toList, z) :: (cut L en.data.toList).filter (fun a => decide (lt en.data.toList a.1))) := rfl
  generalize put L (en.data.toList, z) = R at *
  generalize cut L en.data.toList = M at *
  obtain ⟨A0, c0, rfl, -, -⟩ := h.form
  clear h
  go_enter Tryz.func49, Tryz.ntmps49
  go_wp2_with fail
  refine HC.out.mono ?_
  rintro e w1 ⟨u, rfl, hu, hb1⟩
  have H := Lib.hid hu.reads
  have hx0 : w1.cell? ⟨w.heap.size, 0, none⟩ = some (.string en) := by rw [hb1.cell (by simp)]; simp
  have hx1 : w1.cell? ⟨w.heap.size, 1, none⟩ = some (.int .i64 z) := by rw [hb1.cell (by simp)]; simp
  have hs1 : w.heap.size < w1.heap.size := by have := hb1.size; simp at this; omega
  have B1 : Hid (Below w.heap.size w w1) := ((Below.refl w.heap.size w).alloc (Nat.le_refl _) _).trans (hb1.mono (by simp))
  clear hb1
  obtain ⟨A, c, rfl, hA1, hA2⟩ := hu.reads.form
  clear hu
  unfold maxLen at hA2
  generalize hm : M.length = n at *
  have HM := Lib.hid hm
  clear hm
  go_wp2_with fail
  go_loopw [5, 6] (fun u i wr => ∃ (k : Nat) (out : List Ent), k ≤ n ∧ i = .int .i64 k ∧ out.length ≤ k ∧ Hid (out = (M.take k).filter (fun a => decide (lt a.1 en.data.toList))) ∧ Hid (OwnEnts wr w1.heap.size u out) ∧ Below w1.heap.size w1 wr) (fun _ i _ => n - (intOf i).toNat)
  case atStart => exact ⟨0, [], Nat.zero_le _, rfl, Nat.le_refl _, rfl, own_ents_nil _ _, Below.refl _ _⟩
  case round =>
    obtain ⟨k, out, hk, rfl, hout, hr, hown, hb⟩ := hrel
    have hbs := hb.size
    have hy0 : wr.cell? ⟨w.heap.size, 0, none⟩ = some (.string en) := by rw [hb.cell hs1]; exact hx0
    have hy1 : wr.cell? ⟨w.heap.size, 1, none⟩ = some (.int .i64 z) := by rw [hb.cell hs1]; exact hx1
    by_cases hlt : k < n
    · obtain ⟨b, o, hl1, t, rfl, hbl, ht, hc0, hc1⟩ := Ents.at_ (H.out.below hb) hlt
      have hlb := less_bytes t en
      by_cases hl : lt t.data.toList en.data.toList
      · have t1 : Op.bytesLess t.toList en.toList = true := by rw [hlb]; simpa using hl
        have HX := Lib.hid (filter_next (p := fun a => decide (lt a.1 en.data.toList)) hl1 (by rw [← ht]; simpa using hl))
        rw [← hr.out] at HX
        have HT := Lib.hid (ent_text ht)
        clear hlb hl ht
        go_wp2_with fail
        go_quiet (fail)
        have hown2 : Hid (OwnEnts (wr.drewN nq) w1.heap.size _ out) := hown
        have hb2 : Below w1.heap.size w1 (wr.drewN nq) := hb.trans ((below_draws wr nq).mono hbs)
        have hbs2 := hb2.size
        have d0 : (wr.drewN nq).cell? ⟨b, o + k * 2, none⟩ = some (.string t) := hc0
        have d1 : (wr.drewN nq).cell? ⟨b, o + k * 2 + 1, none⟩ = some (.int .i64 (M[k]).2) := hc1
        generalize wr.drewN nq = W at *
        clear hc0 hc1 hy0 hy1
        go_wp2_with (at_builtin; refine wpList_append_own _ rfl (.tmp 26) (.tmp 31) 81 rfl w1.heap.size 104 i0 (.agg #[.string ⟨#[]⟩, .int .i64 0]) 2 24 Tryz.underlying81 hi hz0 hz1 hz2 rfl (by decide) _ _ _ rfl (own_alloc hown2.out _) ⟨_, 0, none⟩ 1 1 [.string t, .int .i64 (M[k]).2] rfl rfl (cells_new _ [_, _] _) (by intro u hu; simp at hu; rcases hu with rfl | rfl <;> rfl) (by unfold maxLen; omega) (by omega) (by simp; omega) ?_; intro v1 w2 hown1 hgrow1 _)
        rw [HT.out] at hown1
        have B2 := Lib.hid (below_more2 hb2 hbs2 hown2.out hgrow1)
        have O1 := Lib.hid (own_ents_more hown1)
        clear hown1 hgrow1
        go_wp2
        go_roundw
        case rel => exact ⟨k + 1, _, by omega, by go_num, by rw [List.length_append]; simp; omega, HX.symm, O1, B2.out⟩
        case measure => simp [intOf]; omega
      · have t1 : Op.bytesLess t.toList en.toList = false := by rw [hlb]; simpa using hl
        have HX := Lib.hid (hr.out.trans (filter_skip (p := fun a => decide (lt a.1 en.data.toList)) hl1 (by rw [← ht]; simpa using hl)).symm)
        clear hlb hl ht
        go_wp2_with fail
        go_quiet (fail)
        go_wp2_with fail
        go_roundw
        case rel => exact ⟨k + 1, out, by omega, by go_num, by omega, HX, hown, hb.trans ((below_draws wr _).mono hbs)⟩
        case measure => simp [intOf]; omega
    · have HX : Hid (out = M.filter (fun a => decide (lt a.1 en.data.toList))) := hr.out.trans (by rw [take_all (by rw [HM.out]; exact hlt)])
      have HE : Hid (Value.string en = strV en.data.toList) := by show _ = _; unfold strV; rw [mk_bytes]
      go_wp2_with (at_builtin; refine wpList_append_own _ rfl (.tmp 33) (.tmp 35) 81 rfl w1.heap.size 104 i0 (.agg #[.string ⟨#[]⟩, .int .i64 0]) 2 24 Tryz.underlying81 hi hz0 hz1 hz2 rfl (by decide) _ _ _ rfl (own_alloc hown.out _) ⟨_, 0, none⟩ 1 1 [.string en, .int .i64 z] rfl rfl (cells_new _ [_, _] _) (by intro u hu; simp at hu; rcases hu with rfl | rfl <;> rfl) (by unfold maxLen; omega) (by omega) (by simp; omega) ?_; intro v1 w2 hown1 hgrow1 _)
      rw [HE.out] at hown1
      have B2 := Lib.hid (below_more2 hb hbs hown.out hgrow1)
      have O1 := Lib.hid (own_ents_more (e := (en.data.toList, z)) hown1)
      clear hown1 hgrow1
      go_wp2_with fail
      go_loopw [5, 7] (fun u i wr => ∃ (k : Nat) (out2 : List Ent), k ≤ n ∧ i = .int .i64 k ∧ out2.length ≤ k ∧ Hid (out2 = (M.take k).filter (fun a => decide (lt en.data.toList a.1))) ∧ Hid (OwnEnts wr w1.heap.size u (out ++ [(en.data.toList, z)] ++ out2)) ∧ Below w1.heap.size w1 wr) (fun _ i _ => n - (intOf i).toNat)
      case atStart => exact ⟨0, [], Nat.zero_le _, rfl, Nat.le_refl _, rfl, by rw [List.append_nil]; exact O1, B2.out⟩
      case round =>
        clear B2 O1 hown hb hbs hy0 hy1 hlt
        obtain ⟨k2, out2, hk2, rfl, hout2, hr2, hown, hb⟩ := hrel
        have hbs := hb.size
        have hy0 : wr.cell? ⟨w.heap.size, 0, none⟩ = some (.string en) := by rw [hb.cell hs1]; exact hx0
        have hy1 : wr.cell? ⟨w.heap.size, 1, none⟩ = some (.int .i64 z) := by rw [hb.cell hs1]; exact hx1
        by_cases hlt : k2 < n
        · obtain ⟨b, o, hl1, t, rfl, hbl, ht, hc0, hc1⟩ := Ents.at_ (H.out.below hb) hlt
          have hlb := less_bytes t en
          have hsb := same_bytes t en
          by_cases hl : lt en.data.toList t.data.toList
          · have t1 : Op.bytesLess t.toList en.toList = false := by rw [hlb]; simpa using M03.lt_asymm hl
            have t2 : (t.toList == en.toList) = false := by rw [hsb]; simpa using fun e : t.data.toList = en.data.toList => M03.lt_irrefl _ (e ▸ hl)
            clear hsb
            have HX2 := Lib.hid (filter_next (p := fun a => decide (lt en.data.toList a.1)) hl1 (by rw [← ht]; simpa using hl))
            rw [← hr2.out] at HX2
            have HT := Lib.hid (ent_text ht)
            have hll : (out ++ [(en.data.toList, z)] ++ out2).length = out.length + 1 + out2.length := by rw [List.length_append, List.length_append]; rfl
            clear hlb hl ht
            go_wp2_with fail
            go_quiet (fail)
            have hown2 : Hid (OwnEnts (wr.drewN nq) w1.heap.size _ (out ++ [(en.data.toList, z)] ++ out2)) := hown
            have hb2 : Below w1.heap.size w1 (wr.drewN nq) := hb.trans ((below_draws wr nq).mono hbs)
            have hbs2 := hb2.size
            have d0 : (wr.drewN nq).cell? ⟨b, o + k2 * 2, none⟩ = some (.string t) := hc0
            have d1 : (wr.drewN nq).cell? ⟨b, o + k2 * 2 + 1, none⟩ = some (.int .i64 (M[k2]).2) := hc1
            have a1 : (out ++ [(en.data.toList, z)] ++ out2).length + 1 ≤ maxLen := by unfold maxLen; omega
            have a2 : ((out ++ [(en.data.toList, z)] ++ out2).length + 1) * 24 ≤ 140737488355328 := by omega
            clear hll
            generalize wr.drewN nq = W at *
            clear hc0 hc1 hy0 hy1
            go_wp2_with (at_builtin; refine wpList_append_own _ rfl (.tmp 51) (.tmp 56) 81 rfl w1.heap.size 104 i0 (.agg #[.string ⟨#[]⟩, .int .i64 0]) 2 24 Tryz.underlying81 hi hz0 hz1 hz2 rfl (by decide) _ _ _ rfl (own_alloc hown2.out _) ⟨_, 0, none⟩ 1 1 [.string t, .int .i64 (M[k2]).2] rfl rfl (cells_new _ [_, _] _) (by intro u hu; simp at hu; rcases hu with rfl | rfl <;> rfl) a1 a2 (by simp; omega) ?_; intro v1 w2 hown1 hgrow1 _)
            rw [HT.out] at hown1
            have B2 := Lib.hid (below_more2 hb2 hbs2 hown2.out hgrow1)
            have O1 := Lib.hid (own_ents_more hown1)
            rw [List.append_assoc (out ++ [(en.data.toList, z)])] at O1
            clear hown1 hgrow1 a1 a2
            go_wp2
            go_roundw
            case rel => exact ⟨k2 + 1, _, by omega, by go_num, by rw [List.length_append]; simp; omega, HX2.symm, O1, B2.out⟩
            case measure => simp [intOf]; omega
          · have HX2 := Lib.hid (hr2.out.trans (filter_skip (p := fun a => decide (lt en.data.toList a.1)) hl1 (by rw [← ht]; simpa using hl)).symm)
            by_cases hl2 : lt t.data.toList en.data.toList
            · have t1 : Op.bytesLess t.toList en.toList = true := by rw [hlb]; simpa using hl2
              clear hl2
              clear hlb hsb hl ht
              go_wp2_with fail
              go_quiet (fail)
              go_wp2_with fail
              go_roundw
              case rel => exact ⟨k2 + 1, out2, by omega, by go_num, by omega, HX2, hown, hb.trans ((below_draws wr _).mono hbs)⟩
              case measure => simp [intOf]; omega
            · have t1 : Op.bytesLess t.toList en.toList = false := by rw [hlb]; simpa using hl2
              have t2 : (t.toList == en.toList) = true := by
                rw [hsb]
                rcases M03.lt_total t.data.toList en.data.toList with e | e | e
                · exact absurd e hl2
                · simpa using e
                · exact absurd e hl
              clear hl2
              clear hlb hsb hl ht
              go_wp2_with fail
              go_quiet (fail)
              go_wp2_with fail
              go_roundw
              case rel => exact ⟨k2 + 1, out2, by omega, by go_num, by omega, HX2, hown, hb.trans ((below_draws wr _).mono hbs)⟩
              case measure => simp [intOf]; omega
        · have HX2 : Hid (out2 = M.filter (fun a => decide (lt en.data.toList a.1))) := hr2.out.trans (by rw [take_all (by rw [HM.out]; exact hlt)])
          have HR : Hid (R = out ++ [(en.data.toList, z)] ++ out2) := by show _ = _; rw [HPU.out, HX.out, HX2.out]; simp
          go_wp2_with fail
          go_ret
          exact ⟨_, rfl, by rw [HR.out]; exact own_lower (by omega) hown.out, on B1.out hb⟩
end Go.Proofs.YtolhniepejhmfaaGreatDoor.W06
/-
  Layer 6 (ents), walks: the plain answers Merge, Next and Same: what each returns; new memory may be laid, nothing that was there is changed.
-/
namespace Go.Proofs.YtolhniepejhmfaaGreatDoor.W06
set_option maxRecDepth 100000
open Go Go.RowKit Go.Proofs.YtolhniepejhmfaaGreatDoor.Strs Go.Proofs.YtolhniepejhmfaaGreatDoor.Recs Go.Proofs.YtolhniepejhmfaaGreatDoor.M06
open Go.Proofs.YtolhniepejhmfaaGreatDoor.M03 (lt)
open Go.Proofs.YtolhniepejhmfaaGreatDoor.W03 (less_bytes same_bytes)
open Go.Proofs.YtolhniepejhmfaaGreatDoor.Kit (ret_str ret_bool ret_int mk_of mk_bytes ba_ext below_draws on)

/-- what a call returns that hands out entries -/
def HandsE (w : World) (L : List Ent) (e : Ending) (w' : World) : Prop := ∃ v, e = .returned v ∧ Ents w'.heap.size w' v L ∧ Below w.heap.size w w'
theorem makes_handsE {w w' : World} {L : List Ent} {e : Ending} (h : MakesE w L e w') : HandsE w L e w' := by
  obtain ⟨v, he, hown, hb⟩ := h
  exact ⟨v, he, hown.reads, hb⟩
theorem fold_at {M out : List Ent} {k : Nat} (hk : k < M.length) : (M.take (k + 1)).foldl put out = put ((M.take k).foldl put out) M[k] := by
  rw [take_at hk, List.foldl_append]; rfl

/-! ### Next -/
theorem next_here {L : List Ent} {s : List UInt8} {k : Nat} (hk : k < L.length) (h : lt s (L[k]).1) : next (L.drop k) s = (L[k], true) := by
  rw [drop_at hk, next, if_pos h]
theorem next_on {L : List Ent} {s : List UInt8} {k : Nat} (hk : k < L.length) (h : ¬ lt s (L[k]).1) : next (L.drop k) s = next (L.drop (k + 1)) s := by
  rw [drop_at hk, next, if_neg h]
theorem next_end {L : List Ent} {s : List UInt8} {k : Nat} (hk : ¬ k < L.length) : next (L.drop k) s = (([], 0), false) := by
  rw [List.drop_of_length_le (by omega)]; rfl
theorem below_box (w : World) (o : Obj) (q : Nat) (v0 v1 : Value) : Below w.heap.size w ((((w.alloc o).drewN q).setCell ⟨w.heap.size, 0, none⟩ v0).setCell ⟨w.heap.size, 1, none⟩ v1) := by
  have h1 : Below w.heap.size w ((w.alloc o).drewN q) := ((Below.refl w.heap.size w).alloc (Nat.le_refl _) o).trans ((below_draws (w.alloc o) q).mono (by simp))
  exact (h1.setCell (Nat.le_refl _) _).setCell (Nat.le_refl _) _
/-- an entry's value -/
def entV (e : Ent) : Value := .agg #[strV e.1, .int .i64 e.2]


/-! ### Same -/
theorem ents_upto {La Lb : List Ent} {k : Nat} (hl : La.length = Lb.length) (hk : ¬ k < La.length) (h : ∀ j (h1 : j < La.length) (h2 : j < Lb.length), j < k → La[j] = Lb[j]) : La = Lb := by
  apply List.ext_getElem hl
  intro i h1 h2
  exact h i h1 h2 (by omega)
set_option maxHeartbeats 400000 in
theorem refSame_any (va vb : Value) (La Lb : List Ent) (B : Nat) (w : World) (ha : Ents B w va La) (hb : Ents B w vb Lb) :
    Calls Tryz.prog 34 #[va, vb] w fun e w' => e = .returned (.bool (decide (La = Lb))) ∧ ∃ n, w' = w.drewN n := by
  obtain ⟨A, c, rfl, hA1, hA2⟩ := ha.form
  obtain ⟨A', c', rfl, hB1, hB2⟩ := hb.form
  unfold maxLen at hA2 hB2
  by_cases hl : La.length = Lb.length
  · have HL := Lib.hid hl
    have HA := Lib.hid ha
    have HB := Lib.hid (hl ▸ hb)
    have hne : ((La.length : Int) != (Lb.length : Int)) = false := by simp [hl]
    rw [← hl]
    rw [← hl] at hB1 hne
    clear hl ha hb hne
    generalize hn : La.length = n at *
    have HN := Lib.hid hn
    clear hn
    go_enter Tryz.func34, Tryz.ntmps34
    go_wp2
    go_loopw [5] (fun i wr => ∃ k : Nat, k ≤ n ∧ i = .int .i64 k ∧ Hid (∀ j (h1 : j < La.length) (h2 : j < Lb.length), j < k → La[j] = Lb[j]) ∧ ∃ q, wr = w.drewN q) (fun i _ => n - (intOf i).toNat)
    case atStart => exact ⟨0, Nat.zero_le _, rfl, fun j _ _ hj => by omega, 0, rfl⟩
    case round =>
      obtain ⟨k, hk, rfl, hr, q, rfl⟩ := hrel
      by_cases hlt : k < n
      · obtain ⟨b, o, hl1, s, rfl, hbl, hs, hc0, hc1⟩ := Ents.at_ HA.out hlt
        obtain ⟨b', o', hl2, s', rfl, hbl', hs', hd0, hd1⟩ := Ents.at_ HB.out hlt
        have HS := Lib.hid hs
        have HS' := Lib.hid hs'
        clear hs hs'
        have HE : Hid (La[k] = Lb[k] ↔ s.data.toList = s'.data.toList ∧ (La[k]).2 = (Lb[k]).2) := by
          show _ ↔ _
          rw [HS.out, HS'.out]
          exact Prod.ext_iff
        have hsb := same_bytes s s'
        by_cases h1 : s.data.toList = s'.data.toList
        · have t1 : (s.toList == s'.toList) = true := by rw [hsb]; simpa using h1
          by_cases h2 : (La[k]).2 = (Lb[k]).2
          · have t2 : ((La[k]).2 == (Lb[k]).2) = true := by simpa using h2
            have HX : Hid (La[k] = Lb[k]) := HE.out.2 ⟨h1, h2⟩
            clear h1 h2 hsb
            go_wp2_with fail
            go_quiet (fail)
            go_wp2_with fail
            go_roundw
            case rel => exact ⟨k + 1, by omega, by go_num, fun j h1 h2 hj => by
              by_cases e : j = k
              · subst e; exact HX.out
              · exact hr.out j h1 h2 (by omega), q + nq, by first | rfl | rw [World.drewN_drewN]⟩
            case measure => simp [intOf]; omega
          · have t2 : ((La[k]).2 == (Lb[k]).2) = false := by simpa using h2
            have HX : Hid (¬ La = Lb) := fun e => h2 (by simp only [e])
            clear h1 h2 hsb
            go_wp2_with fail
            go_quiet (fail)
            go_wp2_with fail
            go_ret
            exact ⟨ret_bool (decide_eq_false HX.out).symm, q + nq, by first | rfl | rw [World.drewN_drewN]⟩
        · have t1 : (s.toList == s'.toList) = false := by rw [hsb]; simpa using h1
          have HX : Hid (¬ La = Lb) := fun e => h1 (by rw [HS.out, HS'.out]; simp only [e])
          clear h1 hsb
          go_wp2_with fail
          go_quiet (fail)
          go_wp2_with fail
          go_ret
          exact ⟨ret_bool (decide_eq_false HX.out).symm, q + nq, by first | rfl | rw [World.drewN_drewN]⟩
      · have HX := Lib.hid (ents_upto (HN.out.trans HL.out) (k := k) (by rw [HN.out]; exact hlt) hr.out)
        go_wp2
        go_ret
        exact ⟨ret_bool (decide_eq_true HX.out).symm, q, rfl⟩
  · have hne : ((La.length : Int) != (Lb.length : Int)) = true := by simp; omega
    have hd : ¬ La = Lb := fun e => hl (by rw [e])
    go_enter Tryz.func34, Tryz.ntmps34
    go_wp2
    go_ret
    exact ⟨ret_bool (by simp [hd]), 0, rfl⟩
end Go.Proofs.YtolhniepejhmfaaGreatDoor.W06
/-
  Layer 7 (tree), walks: the plain answers At, In, dir, may: what each returns; new memory may be laid, nothing that was there is changed.
-/
namespace Go.Proofs.YtolhniepejhmfaaGreatDoor.W07
set_option maxRecDepth 100000
open Go Go.RowKit Go.Proofs.YtolhniepejhmfaaGreatDoor.Strs Go.Proofs.YtolhniepejhmfaaGreatDoor.Recs Go.Proofs.YtolhniepejhmfaaGreatDoor.M07
open Go.Proofs.YtolhniepejhmfaaGreatDoor.M06 (Ent)
open Go.Proofs.YtolhniepejhmfaaGreatDoor.W03 (less_bytes same_bytes)
open Go.Proofs.YtolhniepejhmfaaGreatDoor.Kit (ret_str ret_bool ret_int mk_of mk_bytes ba_ext below_draws on list_full list_ne list_none list_nil bytes_nil bytes_cons)

/-- a node's cells -/
def nodeC (x : Nd) : List Value := [.int .i64 x.num, .int .i64 x.up, strV x.name, .int .i64 x.kind, strV x.data]
def nodeV (x : Nd) : Value := .agg #[.int .i64 x.num, .int .i64 x.up, .string ⟨x.name.toArray⟩, .int .i64 x.kind, .string ⟨x.data.toArray⟩]
theorem nodeC_len (x : Nd) : (nodeC x).length = 5 := rfl
abbrev Nodes (B : Nat) (w : World) (v : Value) (L : List Nd) : Prop := Recs nodeC 5 B w v L
theorem Nodes.at_ {B : Nat} {w : World} {L : List Nd} {A : Option Addr} {n c : Nat} (h : Nodes B w (.slice A n c) L) {k : Nat} (hk : k < n) : ∃ (b o : Nat) (hl : k < L.length), A = some ⟨b, o, none⟩ ∧ b < B ∧ w.cell? ⟨b, o + k * 5, none⟩ = some (.int .i64 (L[k]).num) ∧ w.cell? ⟨b, o + k * 5 + 1, none⟩ = some (.int .i64 (L[k]).up) ∧ w.cell? ⟨b, o + k * 5 + 2, none⟩ = some (.string ⟨(L[k]).name.toArray⟩) ∧ w.cell? ⟨b, o + k * 5 + 3, none⟩ = some (.int .i64 (L[k]).kind) ∧ w.cell? ⟨b, o + k * 5 + 4, none⟩ = some (.string ⟨(L[k]).data.toArray⟩) := by
  obtain ⟨b, o, hl, rfl, hb, hc⟩ := Recs.flat_ h nodeC_len (by omega) hk
  exact ⟨b, o, hl, rfl, hb, hc 0 (by omega), hc 1 (by omega), hc 2 (by omega), hc 3 (by omega), hc 4 (by omega)⟩
/-- a tree's value, and what it reads as -/
def TreeV (B : Nat) (w : World) (tv : Value) (t : Tr) : Prop := ∃ v, tv = .agg #[v, .int .i64 t.last] ∧ Nodes B w v t.L

theorem results_cell_one {fn : Func} {p : Tmp} {ty : TypeId} (h : fn.results = #[.cell p ty]) (tmps : Array Value) (P : Program) (w : World) :
    (results fn tmps).run P w = ((asAddr (tmps.getD p undef)).run P w).andThen fun a w₁ => ((loadVar ty a).run P w₁).andThen fun v w₂ => .ok v w₂ := by
  simp only [results, h]
  simp [Sem.run_bind, Result.andThen]
  split
  · split <;> simp_all
  · rfl

theorem below_two (w : World) (o1 o2 : Obj) : Below w.heap.size w ((w.alloc o1).alloc o2) := ((Below.refl w.heap.size w).alloc (Nat.le_refl _) o1).alloc (by simp) o2
theorem below_one (w : World) (o1 : Obj) : Below w.heap.size w (w.alloc o1) := (Below.refl w.heap.size w).alloc (Nat.le_refl _) o1

set_option maxHeartbeats 2000000 in
theorem refAt_any (v : Value) (L : List Nd) (last n : Int) (B : Nat) (w : World) (h : Nodes B w v L) (hB : B ≤ w.heap.size) (hn : L.length ≤ 1099511627776) :
    Calls Tryz.prog 29 #[.agg #[v, .int .i64 last], .int .i64 n] w fun e w' => e = .returned (nodeV (nodeAt L n)) ∧ Below w.heap.size w w' := by
  have H := Lib.hid h
  obtain ⟨A, c, rfl, hA1, hA2⟩ := h.form
  unfold maxLen at hA2
  clear h
  generalize hm : L.length = m at *
  have HM := Lib.hid hm
  clear hm
  go_enter Tryz.func29, Tryz.ntmps29
  go_wp2_with fail
  go_loopw [5] (fun i wr => ∃ k : Nat, k ≤ m ∧ i = .int .i64 k ∧ Hid (nodeAt L n = nodeAt (L.drop k) n) ∧ wr = (w.alloc (.cells #[.slice A m c, .int .i64 last] 30)).alloc (.cells #[.int .i64 0, .int .i64 0, .string ⟨#[]⟩, .int .i64 0, .string ⟨#[]⟩] 77)) (fun i _ => m - (intOf i).toNat)
  case atStart => exact ⟨0, Nat.zero_le _, rfl, rfl, rfl⟩
  case round =>
    obtain ⟨k, hk, rfl, hr, rfl⟩ := hrel
    by_cases hlt : k < m
    · obtain ⟨b, o, hl1, rfl, hbl, hc0, hc1, hc2, hc3, hc4⟩ := Nodes.at_ H.out hlt
      have hbw : b < w.heap.size := by omega
      by_cases hnum : (L[k]).num = n
      · have t1 : ((L[k]).num == n) = true := by simpa using hnum
        have HX := Lib.hid (hr.out.trans (at_here hl1 hnum))
        clear hnum
        go_wp2_with fail
        refine bodyPost_ret_by (v := nodeV L[k]) ?_ rfl ⟨by rw [HX.out], ?_⟩
        · rw [results_cell_one rfl]
          go_simp
          rfl
        · exact below_two w _ _
      · have t1 : ((L[k]).num == n) = false := by simpa using hnum
        have HX := Lib.hid (hr.out.trans (at_on hl1 hnum))
        clear hnum
        go_wp2_with fail
        go_roundw
        case rel => exact ⟨k + 1, by omega, by go_num, HX, by trivial⟩
        case measure => simp [intOf]; omega
    · have HX := Lib.hid (hr.out.trans (at_end (by rw [HM.out]; exact hlt)))
      go_wp2_with fail
      refine bodyPost_ret_by (v := nodeV zero) ?_ rfl ⟨by rw [HX.out], ?_⟩
      · rw [results_cell_one rfl]
        go_simp
        rfl
      · exact below_two w _ _

/-! ### dir and may -/
theorem field_num (a b : Int) (c : ByteArray) (k : Int) (d : ByteArray) (w : World) : (Instr.field 77 (.agg #[.int .i64 a, .int .i64 b, .string c, .int .i64 k, .string d]) 0).run Tryz.prog w = .ok (.int .i64 a) w := by kernel_rfl
theorem field_up (a b : Int) (c : ByteArray) (k : Int) (d : ByteArray) (w : World) : (Instr.field 77 (.agg #[.int .i64 a, .int .i64 b, .string c, .int .i64 k, .string d]) 1).run Tryz.prog w = .ok (.int .i64 b) w := by kernel_rfl
theorem field_kind (a b : Int) (c : ByteArray) (k : Int) (d : ByteArray) (w : World) : (Instr.field 77 (.agg #[.int .i64 a, .int .i64 b, .string c, .int .i64 k, .string d]) 3).run Tryz.prog w = .ok (.int .i64 k) w := by kernel_rfl
theorem field_data (a b : Int) (c : ByteArray) (k : Int) (d : ByteArray) (w : World) : (Instr.field 77 (.agg #[.int .i64 a, .int .i64 b, .string c, .int .i64 k, .string d]) 4).run Tryz.prog w = .ok (.string d) w := by kernel_rfl
theorem refDir_any (v : Value) (L : List Nd) (last n : Int) (B : Nat) (w : World) (h : Nodes B w v L) (hB : B ≤ w.heap.size) (hn : L.length ≤ 1099511627776) :
    Calls Tryz.prog 39 #[.agg #[v, .int .i64 last], .int .i64 n] w fun e w' => e = .returned (.int .i64 (dirErr L n)) ∧ Below w.heap.size w w' := by
  obtain ⟨A, c, rfl, hA1, hA2⟩ := h.form
  have HA := Lib.hid (refAt_any _ L last n B (w.alloc (.cells #[.slice A L.length c, .int .i64 last] 30)) (h.alloc hB _) (by simp; omega) hn)
  clear h
  have HD : Hid (dirErr L n = if (nodeAt L n).kind = 0 then 5 else if (nodeAt L n).kind = 1 then 0 else 7) := rfl
  generalize dirErr L n = r at *
  generalize nodeAt L n = x at *
  unfold nodeV at HA
  have kf := field_kind x.num x.up ⟨x.name.toArray⟩ x.kind ⟨x.data.toArray⟩
  go_enter Tryz.func39, Tryz.ntmps39
  by_cases h0 : x.kind = 0
  · have t0 : (x.kind == 0) = true := by simpa using h0
    have HX : Hid (r = 5) := by have := HD.out; rw [if_pos h0] at this; exact this
    clear h0
    go_wp2_with fail
    refine HA.out.mono ?_
    rintro e w1 ⟨rfl, hb⟩
    have B1 := Lib.hid ((below_one w _).trans (hb.mono (by simp)))
    clear hb
    go_wp2_with fail
    go_ret
    exact ⟨ret_int HX.out.symm, B1.out⟩
  · have t0 : (x.kind == 0) = false := by simpa using h0
    by_cases h1 : x.kind = 1
    · have t1 : (x.kind == 1) = true := by simpa using h1
      have HX : Hid (r = 0) := by have := HD.out; rw [if_neg h0, if_pos h1] at this; exact this
      clear h0 h1
      go_wp2_with fail
      refine HA.out.mono ?_
      rintro e w1 ⟨rfl, hb⟩
      have B1 := Lib.hid ((below_one w _).trans (hb.mono (by simp)))
      clear hb
      go_wp2_with fail
      go_ret
      exact ⟨ret_int HX.out.symm, B1.out⟩
    · have t1 : (x.kind == 1) = false := by simpa using h1
      have HX : Hid (r = 7) := by have := HD.out; rw [if_neg h0, if_neg h1] at this; exact this
      clear h0 h1
      go_wp2_with fail
      refine HA.out.mono ?_
      rintro e w1 ⟨rfl, hb⟩
      have B1 := Lib.hid ((below_one w _).trans (hb.mono (by simp)))
      clear hb
      go_wp2_with fail
      go_ret
      exact ⟨ret_int HX.out.symm, B1.out⟩
set_option maxHeartbeats 400000 in
theorem refMay_any (kind : Int) (s : ByteArray) (hs : s.size ≤ maxLen) (w : World) :
    Calls Tryz.prog 42 #[.int .i64 kind, .string s] w fun e w' => e = .returned (.int .i64 (mayErr kind s.data.toList)) ∧ w' = w := by
  unfold maxLen at hs
  have HL := Lib.hid (Lib.size_eq s)
  by_cases h1 : kind < 1
  · have HX : Hid (mayErr kind s.data.toList = 2) := if_pos (Or.inl h1)
    generalize mayErr kind s.data.toList = r at *
    go_enter Tryz.func42, Tryz.ntmps42
    go_wp2_with fail
    go_ret
    exact ⟨ret_int HX.out.symm, rfl⟩
  · by_cases h3 : 3 < kind
    · have HX : Hid (mayErr kind s.data.toList = 2) := if_pos (Or.inr h3)
      generalize mayErr kind s.data.toList = r at *
      go_enter Tryz.func42, Tryz.ntmps42
      go_wp2_with fail
      go_ret
      exact ⟨ret_int HX.out.symm, rfl⟩
    · have HM : Hid (mayErr kind s.data.toList = if (kind = 1 ∧ s.data.toList ≠ []) ∨ (kind = 3 ∧ s.data.toList = []) then 3 else if 65536 < s.data.toList.length then 4 else 0) := if_neg (by omega)
      by_cases h0 : 0 < s.size
      · have hf := list_full h0
        have hn := list_ne h0
        have hne : s.data.toList ≠ [] := Kit.bytes_ne h0
        by_cases k1 : kind = 1
        · have HX : Hid (mayErr kind s.data.toList = 3) := HM.out.trans (if_pos (Or.inl ⟨k1, hne⟩))
          generalize mayErr kind s.data.toList = r at *
          subst k1
          clear hne
          go_enter Tryz.func42, Tryz.ntmps42
          go_wp2_with fail
          go_ret
          exact ⟨ret_int HX.out.symm, rfl⟩
        · have HM2 : Hid (mayErr kind s.data.toList = if 65536 < s.data.toList.length then 4 else 0) := HM.out.trans (if_neg (by rintro (e | e); exact k1 e.1; exact hne e.2))
          have t1 : (kind == 1) = false := by simpa using k1
          clear hne HM
          by_cases hbig : (65536 : Int) < s.size
          · have HX : Hid (mayErr kind s.data.toList = 4) := HM2.out.trans (if_pos (by rw [← HL.out]; omega))
            generalize mayErr kind s.data.toList = r at *
            cases k3 : (kind == 3) <;>
            · go_enter Tryz.func42, Tryz.ntmps42
              go_wp2_with fail
              go_ret
              exact ⟨ret_int HX.out.symm, rfl⟩
          · have HX : Hid (mayErr kind s.data.toList = 0) := HM2.out.trans (if_neg (by rw [← HL.out]; omega))
            generalize mayErr kind s.data.toList = r at *
            cases k3 : (kind == 3) <;>
            · go_enter Tryz.func42, Tryz.ntmps42
              go_wp2_with fail
              go_ret
              exact ⟨ret_int HX.out.symm, rfl⟩
      · have hf := list_none h0
        have hn := list_nil h0
        have hne : s.data.toList = [] := bytes_nil h0
        have hz : (s.size : Int) ≤ 65536 := by omega
        by_cases k3 : kind = 3
        · have HX : Hid (mayErr kind s.data.toList = 3) := HM.out.trans (if_pos (Or.inr ⟨k3, hne⟩))
          generalize mayErr kind s.data.toList = r at *
          subst k3
          clear hne
          go_enter Tryz.func42, Tryz.ntmps42
          go_wp2_with fail
          go_ret
          exact ⟨ret_int HX.out.symm, rfl⟩
        · have HX : Hid (mayErr kind s.data.toList = 0) := HM.out.trans ((if_neg (by rintro (e | e); exact e.2 hne; exact k3 e.1)).trans (if_neg (by rw [← HL.out]; omega)))
          have t3 : (kind == 3) = false := by simpa using k3
          generalize mayErr kind s.data.toList = r at *
          clear hne k3 HM
          cases k1 : (kind == 1) <;>
          · go_enter Tryz.func42, Tryz.ntmps42
            go_wp2_with fail
            go_ret
            exact ⟨ret_int HX.out.symm, rfl⟩
end Go.Proofs.YtolhniepejhmfaaGreatDoor.W07
