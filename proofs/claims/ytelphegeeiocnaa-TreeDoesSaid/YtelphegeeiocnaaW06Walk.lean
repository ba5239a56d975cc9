/-
  Layer 6 (ents), walks: the plain answers Right, all, Find, Cut: what each returns; new memory may be laid, nothing that was there is changed.
-/
import Derived.Test.YtelphegeeiocnaaW06Math
import Derived.Test.YtelphegeeiocnaaRecs
import Derived.Test.YtelphegeeiocnaaStrOwn
import Derived.Test.YtelphegeeiocnaaW03Find
import Derived.WalkSpells
import Derived.WalkLawsBesides
import Derived.BigQuiet
namespace Go.Proofs.Ytelphegeeiocnaa.W06
open Go Go.RowKit Go.Proofs.Ytelphegeeiocnaa.Strs Go.Proofs.Ytelphegeeiocnaa.Recs Go.Proofs.Ytelphegeeiocnaa.M06
open Go.Proofs.Ytelphegeeiocnaa.M03 (lt)
open Go.Proofs.Ytelphegeeiocnaa.W03 (less_bytes same_bytes)
open Go.Proofs.Ytelphegeeiocnaa.Kit (ret_str ret_bool ret_int mk_of mk_bytes ba_ext below_draws on)

/-- an entry's cells -/
def entC (e : Ent) : List Value := [strV e.1, .int .i64 e.2]
theorem entC_len (e : Ent) : (entC e).length = 2 := rfl
abbrev Ents (B : Nat) (w : World) (v : Value) (L : List Ent) : Prop := Recs entC 2 B w v L
theorem Ents.at_ {B : Nat} {w : World} {L : List Ent} {A : Option Addr} {n c : Nat} (h : Ents B w (.slice A n c) L) {k : Nat} (hk : k < n) : ∃ (b o : Nat) (hl : k < L.length) (s : ByteArray), A = some ⟨b, o, none⟩ ∧ b < B ∧ s.data.toList = (L[k]).1 ∧ w.cell? ⟨b, o + k * 2, none⟩ = some (.string s) ∧ w.cell? ⟨b, o + k * 2 + 1, none⟩ = some (.int .i64 (L[k]).2) := by
  obtain ⟨b, o, hl, rfl, hb, hc⟩ := Recs.flat_ h entC_len (by omega) hk
  exact ⟨b, o, hl, ⟨(L[k]).1.toArray⟩, rfl, hb, rfl, hc 0 (by omega), hc 1 (by omega)⟩

set_option maxHeartbeats 400000 in
theorem refRight_any (v : Value) (L : List Ent) (B : Nat) (w : World) (h : Ents B w v L) (hn : L.length ≤ 1099511627776) :
    Calls Try.prog 64 #[v] w fun e w' => e = .returned (.bool (right L)) ∧ ∃ n, w' = w.drewN n := by
  obtain ⟨A, c, rfl, hA1, hA2⟩ := h.form
  have H := Lib.hid h
  unfold maxLen at hA2
  clear h
  generalize hm : L.length = n at *
  have HM := Lib.hid hm
  clear hm
  go_enter Try.func64, Try.ntmps64
  go_wp2
  go_loopw [3] (fun i wr => ∃ k : Nat, k ≤ n ∧ i = .int .i64 k ∧ Hid (right L = right (L.drop k)) ∧ ∃ q, wr = w.drewN q) (fun i _ => n - (intOf i).toNat)
  case atStart => exact ⟨0, Nat.zero_le _, rfl, rfl, 0, rfl⟩
  case round =>
    obtain ⟨k, hk, rfl, hr, q, rfl⟩ := hrel
    by_cases hlt : k + 1 < n
    · obtain ⟨b, o, hl1, s, rfl, hbl, hs, hc0, hc1⟩ := Ents.at_ H.out (k := k) (by omega)
      obtain ⟨b', o', hl2, t, he, hbl2, ht, hd0, hd1⟩ := Ents.at_ H.out (k := k + 1) hlt
      cases he
      have HS := Lib.hid (right_step (L := L) (k := k) hl2)
      rw [← hs, ← ht, ← hr.out] at HS
      have hlb := less_bytes s t
      clear hs ht
      by_cases hl : lt s.data.toList t.data.toList
      · have t1 : Op.bytesLess s.toList t.toList = true := by rw [hlb]; simpa using hl
        have HX : Hid (right L = right (L.drop (k + 1))) := by have := HS.out; rw [decide_eq_true hl, Bool.true_and] at this; exact this
        clear hlb hl
        go_wp2_with fail
        go_quiet (fail)
        go_wp2_with fail
        go_roundw
        case rel => exact ⟨k + 1, by omega, by go_num, HX, q + nq, by first | rfl | rw [World.drewN_drewN]⟩
        case measure => simp [intOf]; omega
      · have t1 : Op.bytesLess s.toList t.toList = false := by rw [hlb]; simpa using hl
        have HX : Hid (right L = false) := by have := HS.out; rw [decide_eq_false hl, Bool.false_and] at this; exact this
        clear hlb hl
        go_wp2_with fail
        go_quiet (fail)
        go_wp2_with fail
        go_ret
        exact ⟨ret_bool HX.out.symm, q + nq, by first | rfl | rw [World.drewN_drewN]⟩
    · have HX := Lib.hid (hr.out.trans (right_last (by rw [HM.out]; exact hlt)))
      go_wp2_with fail
      go_ret
      exact ⟨ret_bool HX.out.symm, q, rfl⟩
theorem refAll_any (v : Value) (L : List Ent) (B : Nat) (w : World) (h : Ents B w v L) (hn : L.length ≤ 1099511627776) :
    Calls Try.prog 62 #[v] w fun e w' => (∃ u, e = .returned u ∧ Ents B w u (all L)) ∧ ∃ n, w' = w.drewN n := by
  have HR := Lib.hid (refRight_any v L B w h hn)
  have H := Lib.hid h
  obtain ⟨A, c, rfl, hA1, hA2⟩ := h.form
  clear h
  cases hr : right L with
  | true =>
    have HA := Lib.hid (all_right hr)
    rw [hr] at HR
    clear hr
    go_enter Try.func62, Try.ntmps62
    go_wp2_with fail
    refine HR.out.mono ?_
    rintro e w1 ⟨rfl, q, rfl⟩
    go_wp2_with fail
    go_ret
    exact ⟨⟨_, rfl, by rw [HA.out]; exact H.out⟩, q, rfl⟩
  | false =>
    have HA : Hid (all L = []) := by show _ = _; unfold all; rw [hr]; rfl
    rw [hr] at HR
    clear hr
    go_enter Try.func62, Try.ntmps62
    go_wp2_with fail
    refine HR.out.mono ?_
    rintro e w1 ⟨rfl, q, rfl⟩
    go_wp2_with fail
    go_ret
    exact ⟨⟨_, rfl, by rw [HA.out]; exact recs_nil _ _ _ _⟩, q, rfl⟩
/-! ### Find -/
theorem find_here {L : List Ent} {s : List UInt8} {k : Nat} (hk : k < L.length) (h : (L[k]).1 = s) : M06.find (L.drop k) s = ((L[k]).2, true) := by
  rw [drop_at hk, M06.find, if_pos h]
theorem find_on {L : List Ent} {s : List UInt8} {k : Nat} (hk : k < L.length) (h : ¬ (L[k]).1 = s) : M06.find (L.drop k) s = M06.find (L.drop (k + 1)) s := by
  rw [drop_at hk, M06.find, if_neg h]
theorem find_end {L : List Ent} {s : List UInt8} {k : Nat} (hk : ¬ k < L.length) : M06.find (L.drop k) s = (0, false) := by
  rw [List.drop_of_length_le (by omega)]; rfl
theorem ret_node {a b : Int} {c d : Bool} (h : a = b) (h2 : c = d) : Ending.returned (.tuple #[.int .i64 a, .bool c]) = .returned (.tuple #[.int .i64 b, .bool d]) := by rw [h, h2]


/-! ### Cut -/
theorem ent_info : (Try.prog.info? 45).map (fun i => (i.zero, i.size, i.bytes)) = some (some (.agg #[.string ⟨#[]⟩, .int .i64 0]), 2, 24) := by kernel_rfl
theorem cut_keep {L : List Ent} {s : List UInt8} {k : Nat} (hk : k < L.length) (h : ¬ (L[k]).1 = s) : cutL (L.take (k + 1)) s = cutL (L.take k) s ++ [L[k]] := by
  unfold cutL; rw [take_at hk, List.filter_append]; simp [h]
theorem cut_drop {L : List Ent} {s : List UInt8} {k : Nat} (hk : k < L.length) (h : (L[k]).1 = s) : cutL (L.take (k + 1)) s = cutL (L.take k) s := by
  unfold cutL; rw [take_at hk, List.filter_append]; simp [h]
theorem take_all {L : List Ent} {k : Nat} (hk : ¬ k < L.length) : L.take k = L := List.take_of_length_le (by omega)
/-- a row of entries that a call makes -/
def OwnEnts (w : World) (base : Nat) (v : Value) (L : List Ent) : Prop := w.ownsRow base 45 2 v L.length (L.flatMap entC)
def MakesE (w : World) (L : List Ent) (e : Ending) (w' : World) : Prop := ∃ v, e = .returned v ∧ OwnEnts w' w.heap.size v L ∧ Below w.heap.size w w'
theorem OwnEnts.reads {w : World} {base : Nat} {v : Value} {L : List Ent} (h : OwnEnts w base v L) : Ents w.heap.size w v L := Recs.of_own entC_len rfl h
theorem own_ents_nil (w : World) (base : Nat) : OwnEnts w base (.slice none 0 0) [] := World.ownsRow_nil _ _ _ _
theorem own_ents_more {w : World} {base : Nat} {v : Value} {out : List Ent} {e : Ent} (h : w.ownsRow base 45 2 v (out.length + 1) (out.flatMap entC ++ [strV e.1, .int .i64 e.2])) : OwnEnts w base v (out ++ [e]) := by
  unfold OwnEnts
  rw [List.length_append, List.flatMap_append]
  have : ([e].flatMap entC) = [strV e.1, .int .i64 e.2] := by simp [entC]
  rw [this]; exact h
theorem below_more2 {w wr w1 : World} {base : Nat} {o : Obj} {v : Value} {n size : Nat} {xs : List Value} {e : TypeId} (hb : Below base w wr) (hbase : base ≤ wr.heap.size) (hown : wr.ownsRow base e size v n xs) (hg : (wr.alloc o).grownBy w1 v.ownBlock) : Below base w w1 :=
  (hb.alloc hbase o).grown hg (by simp; omega) (fun k hk => (hown.lt k hk).1)

theorem own_alloc {w : World} {base : Nat} {v : Value} {L : List Ent} (h : OwnEnts w base v L) (o : Obj) : (w.alloc o).ownsRow base 45 2 v L.length (L.flatMap entC) := World.ownsRow.alloc h o
theorem ent_text {s : ByteArray} {e : Ent} (h : s.data.toList = e.1) : Value.string s = strV e.1 := by rw [← h]; unfold strV; rw [mk_bytes]

set_option maxHeartbeats 1000000 in
theorem refCut_any (v : Value) (L : List Ent) (B : Nat) (s : ByteArray) (w : World) (h : Ents B w v L) (hB : B ≤ w.heap.size) (hn : L.length ≤ 1099511627776) :
    Calls Try.prog 59 #[v, .string s] w (MakesE w (cut L s.data.toList)) := by
  obtain ⟨i0, hi, hz0, hz1, hz2⟩ := info_parts ent_info
  have HA := Lib.hid (refAll_any v L B w h hn)
  obtain ⟨A0, c0, rfl, -, -⟩ := h.form
  have hn2 := all_len L
  clear h
  unfold cut
  generalize all L = M at *
  go_enter Try.func59, Try.ntmps59
  go_wp2_with fail
  refine HA.out.mono ?_
  rintro e w1 ⟨⟨u, rfl, hu⟩, q0, rfl⟩
  have H := Lib.hid hu
  obtain ⟨A, c, rfl, hA1, hA2⟩ := hu.form
  unfold maxLen at hA2
  clear hu
  generalize hm : M.length = n at *
  have HM := Lib.hid hm
  clear hm
  go_wp2
  go_loopw [5, 6] (fun u i wr => ∃ (k : Nat) (out : List Ent), k ≤ n ∧ i = .int .i64 k ∧ out.length ≤ k ∧ Hid (out = cutL (M.take k) s.data.toList) ∧ Hid (OwnEnts wr w.heap.size u out) ∧ Below w.heap.size w wr) (fun _ i _ => n - (intOf i).toNat)
  case atStart => exact ⟨0, [], Nat.zero_le _, rfl, Nat.le_refl _, rfl, own_ents_nil _ _, below_draws w q0⟩
  case round =>
    obtain ⟨k, out, hk, rfl, hout, hr, hown, hb⟩ := hrel
    have hbs := hb.size
    by_cases hlt : k < n
    · obtain ⟨b, o, hl1, t, rfl, hbl, ht, hc0, hc1⟩ := Ents.at_ (H.out.below (hb.mono hB)) hlt
      by_cases hts : t.data.toList = s.data.toList
      · have tt : (t.toList == s.toList) = true := by rw [same_bytes]; simpa using hts
        have HX := Lib.hid (hr.out.trans (cut_drop hl1 (ht.symm.trans hts)).symm)
        clear ht hts
        go_wp2_with fail
        go_roundw
        case rel => exact ⟨k + 1, out, by omega, by go_num, by omega, HX, hown, hb⟩
        case measure => simp [intOf]; omega
      · have tt : (t.toList == s.toList) = false := by rw [same_bytes]; simpa using hts
        have HX := Lib.hid (cut_keep (s := s.data.toList) hl1 (fun e => hts (ht.trans e)))
        rw [← hr.out] at HX
        have HT := Lib.hid (ent_text ht)
        clear hts ht
        go_wp2_with (at_builtin; refine wpList_append_own _ rfl (.tmp 22) (.tmp 27) 41 rfl w.heap.size 45 i0 (.agg #[.string ⟨#[]⟩, .int .i64 0]) 2 24 Try.underlying41 hi hz0 hz1 hz2 rfl (by decide) _ _ _ rfl (own_alloc hown.out _) ⟨_, 0, none⟩ 1 1 [.string t, .int .i64 (M[k]).2] rfl rfl (cells_new _ [_, _] _) (by intro u hu; simp at hu; rcases hu with rfl | rfl <;> rfl) (by unfold maxLen; omega) (by omega) (by simp; omega) ?_; intro v1 w2 hown1 hgrow1 _)
        rw [HT.out] at hown1
        have B2 := Lib.hid (below_more2 hb hbs hown.out hgrow1)
        have O1 := Lib.hid (own_ents_more hown1)
        clear hown1 hgrow1
        go_wp2
        go_roundw
        case rel => exact ⟨k + 1, _, by omega, by go_num, by rw [List.length_append]; simp; omega, HX.symm, O1, B2.out⟩
        case measure => simp [intOf]; omega
    · have HX := Lib.hid (hr.out.trans (by rw [take_all (by rw [HM.out]; exact hlt)]))
      go_wp2_with fail
      go_ret
      exact ⟨_, rfl, by rw [← HX.out]; exact hown.out, hb⟩
end Go.Proofs.Ytelphegeeiocnaa.W06
