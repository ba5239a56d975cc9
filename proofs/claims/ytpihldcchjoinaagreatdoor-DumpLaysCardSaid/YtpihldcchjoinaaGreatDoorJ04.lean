/-
  Texts joined, in build order, each with its own comment and its own conditions: W02Same, W04Use, W03Find, W06Walk, W11Rows, OpenRows, RecCut, RecAppend, W11Ref.
-/
import Derived.Test.YtpihldcchjoinaaGreatDoorJ01
import Derived.Test.YtpihldcchjoinaaGreatDoorChecked
import Derived.WalkSpells
import Derived.WalkLawsBesides
import Derived.Deep.QuietTactic
import Derived.BigQuiet
import Derived.Test.YtpihldcchjoinaaGreatDoorJ03
import Derived.Deep.RegionHeld3
import Derived.Laws.OwnMore
import Derived.Tactics
/-
  Layer 2 (words), a walk: the plain answer's Same: whether two slices of texts read alike; the world as it was, but for draws.
-/
namespace Go.Proofs.YtpihldcchjoinaaGreatDoor.W02
set_option maxRecDepth 100000
open Go Go.RowKit Go.Proofs.YtpihldcchjoinaaGreatDoor.Strs

theorem ret_bool {a b : Bool} (h : a = b) : Ending.returned (.bool a) = .returned (.bool b) := by rw [h]
theorem same_upto {La Lb : List (List UInt8)} {k : Nat} (hl : La.length = Lb.length) (hk : ¬ k < La.length) (h : ∀ j, j < k → La.getD j [] = Lb.getD j []) : La = Lb := by
  apply List.ext_getElem hl
  intro i h1 h2
  have := h i (by omega)
  simpa [List.getD_eq_getElem?_getD, h1, h2] using this
theorem differ_at {La Lb : List (List UInt8)} {k : Nat} (h : ¬ La.getD k [] = Lb.getD k []) : ¬ La = Lb := fun e => h (by rw [e])

set_option maxHeartbeats 400000 in
theorem same_any (va vb : Value) (La Lb : List (List UInt8)) (B : Nat) (w : World) (ha : Texts B w va La) (hb : Texts B w vb Lb) :
    Calls Tryz.prog 14 #[va, vb] w fun e w' => e = .returned (.bool (decide (La = Lb))) ∧ ∃ n, w' = w.drewN n := by
  obtain ⟨A, c, rfl, hA1, hA2⟩ := ha.form
  obtain ⟨A', c', rfl, hB1, hB2⟩ := hb.form
  unfold maxLen at hA2 hB2
  by_cases hl : La.length = Lb.length
  · have HL := Lib.hid hl
    have HA := Lib.hid ha
    have HB := Lib.hid (hl ▸ hb)
    have hne : ((La.length : Int) != (Lb.length : Int)) = false := by simp [hl]
    rw [← hl]
    rw [← hl] at hB1 hne
    clear hl ha hb hne
    generalize hn : La.length = n at *
    have HN := Lib.hid hn
    clear hn
    go_enter Tryz.func14, Tryz.ntmps14
    go_wp2
    go_loopw [5] (fun i wr => ∃ k : Nat, k ≤ n ∧ i = .int .i64 k ∧ Hid (∀ j, j < k → La.getD j [] = Lb.getD j []) ∧ ∃ q, wr = w.drewN q) (fun i _ => n - (intOf i).toNat)
    case atStart => exact ⟨0, Nat.zero_le _, rfl, fun j hj => by omega, 0, rfl⟩
    case round =>
      obtain ⟨k, hk, rfl, hr, q, rfl⟩ := hrel
      by_cases hlt : k < n
      · obtain ⟨ad, s, rfl, hbl, hc, hs⟩ := HA.out.at_ hlt
        obtain ⟨ad', s', rfl, hbl', hc', hs'⟩ := HB.out.at_ hlt
        have HS := Lib.hid hs
        have HS' := Lib.hid hs'
        clear hs hs'
        cases he : (s.toList == s'.toList) with
        | true =>
          have hE := Lib.hid (beq_iff_eq.1 he)
          go_wp2_with fail
          go_quiet (fail)
          go_wp2_with fail
          go_roundw
          case rel => exact ⟨k + 1, by omega, by go_num, fun j hj => by
            by_cases e : j = k
            · rw [e, ← HS.out, ← HS'.out, ← Lib.toList_data, ← Lib.toList_data]; exact hE.out
            · exact hr.out j (by omega), q + nq, by first | rfl | rw [World.drewN_drewN]⟩
          case measure => simp [intOf]; omega
        | false =>
          have hE := Lib.hid (beq_eq_false_iff_ne.1 he)
          go_wp2_with fail
          go_quiet (fail)
          go_wp2_with fail
          go_ret
          refine ⟨ret_bool ?_, q + nq, by first | rfl | rw [World.drewN_drewN]⟩
          have := differ_at (La := La) (Lb := Lb) (k := k) (by rw [← HS.out, ← HS'.out, ← Lib.toList_data, ← Lib.toList_data]; exact hE.out)
          simp [this]
      · go_wp2
        go_ret
        refine ⟨ret_bool ?_, q, rfl⟩
        have := same_upto (HN.out.trans HL.out) (k := k) (by rw [HN.out]; exact hlt) hr.out
        simp [this]
  · have hne : ((La.length : Int) != (Lb.length : Int)) = true := by simp; omega
    have hd : ¬ La = Lb := fun e => hl (by rw [e])
    go_enter Tryz.func14, Tryz.ntmps14
    go_wp2
    go_ret
    exact ⟨ret_bool (by simp [hd]), 0, rfl⟩
end Go.Proofs.YtpihldcchjoinaaGreatDoor.W02
/-
  Layer 4 (path): what layers above use of it: readings of what the plain answers hand out. No condition but those that each theorem bears.
-/
namespace Go.Proofs.YtpihldcchjoinaaGreatDoor.W04
open Go Go.RowKit Go.Proofs.YtpihldcchjoinaaGreatDoor.Strs Go.Proofs.YtpihldcchjoinaaGreatDoor.M04
open Go.Proofs.YtpihldcchjoinaaGreatDoor.Kit (ret_str ret_bool mk_of mk_bytes below_draws on)

/-- what a call returns that hands out texts -/
def Hands (w : World) (L : List Bytes) (e : Ending) (w' : World) : Prop := ∃ v, e = .returned v ∧ Texts w'.heap.size w' v L ∧ Below w.heap.size w w'
theorem makes_hands {w w' : World} {L : List Bytes} {e : Ending} (h : Makes w L e w') : Hands w L e w' := by
  obtain ⟨v, he, hown, hb⟩ := h
  exact ⟨v, he, Texts.of_own hown, hb⟩

theorem refParts_hands (s : ByteArray) (hs : s.size ≤ 2147483648) (w : World) : Calls Tryz.prog 68 #[.string s] w (Hands w (parts s.data.toList)) :=
  (refParts_any s (by omega) w).mono fun _ _ h => makes_hands h
theorem text_of (l : Bytes) : ∃ d : ByteArray, d.data.toList = l := ⟨⟨l.toArray⟩, rfl⟩
end Go.Proofs.YtpihldcchjoinaaGreatDoor.W04
/-
  Layer 3 (name), walks: the plain answer's Find: where a text stands in a slice of texts, and whether it is there; the world as it was, but for draws.
-/
namespace Go.Proofs.YtpihldcchjoinaaGreatDoor.W03
open Go Go.RowKit Go.Proofs.YtpihldcchjoinaaGreatDoor.Strs Go.Proofs.YtpihldcchjoinaaGreatDoor.M03
open Go.Proofs.YtpihldcchjoinaaGreatDoor.Kit (below_draws ba_ext)

theorem less_bytes (a b : ByteArray) : Op.bytesLess a.toList b.toList = decide (lt a.data.toList b.data.toList) := by rw [Lib.toList_data, Lib.toList_data, less_cmp]
theorem same_bytes (a b : ByteArray) : (a.toList == b.toList) = decide (a.data.toList = b.data.toList) := by
  rw [Lib.toList_data, Lib.toList_data]
  by_cases h : a.data.toList = b.data.toList
  · simp [h]
  · rw [decide_eq_false h, beq_eq_false_iff_ne]; exact h
theorem ret_place {a b : Int} {c d : Bool} (h : a = b) (h2 : c = d) : Ending.returned (.tuple #[.int .i64 a, .bool c]) = .returned (.tuple #[.int .i64 b, .bool d]) := by rw [h, h2]

end Go.Proofs.YtpihldcchjoinaaGreatDoor.W03
/-
  Layer 6 (ents), walks: the plain answers Right, all, Find, Cut: what each returns; new memory may be laid, nothing that was there is changed.
-/
namespace Go.Proofs.YtpihldcchjoinaaGreatDoor.W06
set_option maxRecDepth 100000
open Go Go.RowKit Go.Proofs.YtpihldcchjoinaaGreatDoor.Strs Go.Proofs.YtpihldcchjoinaaGreatDoor.Recs Go.Proofs.YtpihldcchjoinaaGreatDoor.M06
open Go.Proofs.YtpihldcchjoinaaGreatDoor.M03 (lt)
open Go.Proofs.YtpihldcchjoinaaGreatDoor.W03 (less_bytes same_bytes)
open Go.Proofs.YtpihldcchjoinaaGreatDoor.Kit (ret_str ret_bool ret_int mk_of mk_bytes ba_ext below_draws on)

/-- an entry's cells -/
def entC (e : Ent) : List Value := [strV e.1, .int .i64 e.2]
theorem entC_len (e : Ent) : (entC e).length = 2 := rfl
abbrev Ents (B : Nat) (w : World) (v : Value) (L : List Ent) : Prop := Recs entC 2 B w v L
theorem Ents.at_ {B : Nat} {w : World} {L : List Ent} {A : Option Addr} {n c : Nat} (h : Ents B w (.slice A n c) L) {k : Nat} (hk : k < n) : ∃ (b o : Nat) (hl : k < L.length) (s : ByteArray), A = some ⟨b, o, none⟩ ∧ b < B ∧ s.data.toList = (L[k]).1 ∧ w.cell? ⟨b, o + k * 2, none⟩ = some (.string s) ∧ w.cell? ⟨b, o + k * 2 + 1, none⟩ = some (.int .i64 (L[k]).2) := by
  obtain ⟨b, o, hl, rfl, hb, hc⟩ := Recs.flat_ h entC_len (by omega) hk
  exact ⟨b, o, hl, ⟨(L[k]).1.toArray⟩, rfl, hb, rfl, hc 0 (by omega), hc 1 (by omega)⟩

set_option maxHeartbeats 400000 in
theorem refRight_any (v : Value) (L : List Ent) (B : Nat) (w : World) (h : Ents B w v L) (hn : L.length ≤ 1099511627776) :
    Calls Tryz.prog 138 #[v] w fun e w' => e = .returned (.bool (right L)) ∧ ∃ n, w' = w.drewN n := by
  obtain ⟨A, c, rfl, hA1, hA2⟩ := h.form
  have H := Lib.hid h
  unfold maxLen at hA2
  clear h
  generalize hm : L.length = n at *
  have HM := Lib.hid hm
  clear hm
  go_enter Tryz.func138, Tryz.ntmps138
  go_wp2
  go_loopw [3] (fun i wr => ∃ k : Nat, k ≤ n ∧ i = .int .i64 k ∧ Hid (right L = right (L.drop k)) ∧ ∃ q, wr = w.drewN q) (fun i _ => n - (intOf i).toNat)
  case atStart => exact ⟨0, Nat.zero_le _, rfl, rfl, 0, rfl⟩
  case round =>
    obtain ⟨k, hk, rfl, hr, q, rfl⟩ := hrel
    by_cases hlt : k + 1 < n
    · obtain ⟨b, o, hl1, s, rfl, hbl, hs, hc0, hc1⟩ := Ents.at_ H.out (k := k) (by omega)
      obtain ⟨b', o', hl2, t, he, hbl2, ht, hd0, hd1⟩ := Ents.at_ H.out (k := k + 1) hlt
      cases he
      have HS := Lib.hid (right_step (L := L) (k := k) hl2)
      rw [← hs, ← ht, ← hr.out] at HS
      have hlb := less_bytes s t
      clear hs ht
      by_cases hl : lt s.data.toList t.data.toList
      · have t1 : Op.bytesLess s.toList t.toList = true := by rw [hlb]; simpa using hl
        have HX : Hid (right L = right (L.drop (k + 1))) := by have := HS.out; rw [decide_eq_true hl, Bool.true_and] at this; exact this
        clear hlb hl
        go_wp2_with fail
        go_quiet (fail)
        go_wp2_with fail
        go_roundw
        case rel => exact ⟨k + 1, by omega, by go_num, HX, q + nq, by first | rfl | rw [World.drewN_drewN]⟩
        case measure => simp [intOf]; omega
      · have t1 : Op.bytesLess s.toList t.toList = false := by rw [hlb]; simpa using hl
        have HX : Hid (right L = false) := by have := HS.out; rw [decide_eq_false hl, Bool.false_and] at this; exact this
        clear hlb hl
        go_wp2_with fail
        go_quiet (fail)
        go_wp2_with fail
        go_ret
        exact ⟨ret_bool HX.out.symm, q + nq, by first | rfl | rw [World.drewN_drewN]⟩
    · have HX := Lib.hid (hr.out.trans (right_last (by rw [HM.out]; exact hlt)))
      go_wp2_with fail
      go_ret
      exact ⟨ret_bool HX.out.symm, q, rfl⟩
theorem refAll_any (v : Value) (L : List Ent) (B : Nat) (w : World) (h : Ents B w v L) (hn : L.length ≤ 1099511627776) :
    Calls Tryz.prog 125 #[v] w fun e w' => (∃ u, e = .returned u ∧ Ents B w u (all L)) ∧ ∃ n, w' = w.drewN n := by
  have HR := Lib.hid (refRight_any v L B w h hn)
  have H := Lib.hid h
  obtain ⟨A, c, rfl, hA1, hA2⟩ := h.form
  clear h
  cases hr : right L with
  | true =>
    have HA := Lib.hid (all_right hr)
    rw [hr] at HR
    clear hr
    go_enter Tryz.func125, Tryz.ntmps125
    go_wp2_with fail
    refine HR.out.mono ?_
    rintro e w1 ⟨rfl, q, rfl⟩
    go_wp2_with fail
    go_ret
    exact ⟨⟨_, rfl, by rw [HA.out]; exact H.out⟩, q, rfl⟩
  | false =>
    have HA : Hid (all L = []) := by show _ = _; unfold all; rw [hr]; rfl
    rw [hr] at HR
    clear hr
    go_enter Tryz.func125, Tryz.ntmps125
    go_wp2_with fail
    refine HR.out.mono ?_
    rintro e w1 ⟨rfl, q, rfl⟩
    go_wp2_with fail
    go_ret
    exact ⟨⟨_, rfl, by rw [HA.out]; exact recs_nil _ _ _ _⟩, q, rfl⟩
/-! ### Find -/
/-! ### Cut -/
theorem ent_info : (Tryz.prog.info? 114).map (fun i => (i.zero, i.size, i.bytes)) = some (some (.agg #[.string ⟨#[]⟩, .int .i64 0]), 2, 24) := by kernel_rfl
theorem cut_keep {L : List Ent} {s : List UInt8} {k : Nat} (hk : k < L.length) (h : ¬ (L[k]).1 = s) : cutL (L.take (k + 1)) s = cutL (L.take k) s ++ [L[k]] := by
  unfold cutL; rw [take_at hk, List.filter_append]; simp [h]
theorem cut_drop {L : List Ent} {s : List UInt8} {k : Nat} (hk : k < L.length) (h : (L[k]).1 = s) : cutL (L.take (k + 1)) s = cutL (L.take k) s := by
  unfold cutL; rw [take_at hk, List.filter_append]; simp [h]
theorem take_all {L : List Ent} {k : Nat} (hk : ¬ k < L.length) : L.take k = L := List.take_of_length_le (by omega)
/-- a row of entries that a call makes -/
def OwnEnts (w : World) (base : Nat) (v : Value) (L : List Ent) : Prop := w.ownsRow base 114 2 v L.length (L.flatMap entC)
def MakesE (w : World) (L : List Ent) (e : Ending) (w' : World) : Prop := ∃ v, e = .returned v ∧ OwnEnts w' w.heap.size v L ∧ Below w.heap.size w w'
theorem OwnEnts.reads {w : World} {base : Nat} {v : Value} {L : List Ent} (h : OwnEnts w base v L) : Ents w.heap.size w v L := Recs.of_own entC_len rfl h
theorem own_ents_nil (w : World) (base : Nat) : OwnEnts w base (.slice none 0 0) [] := World.ownsRow_nil _ _ _ _
theorem own_ents_more {w : World} {base : Nat} {v : Value} {out : List Ent} {e : Ent} (h : w.ownsRow base 114 2 v (out.length + 1) (out.flatMap entC ++ [strV e.1, .int .i64 e.2])) : OwnEnts w base v (out ++ [e]) := by
  unfold OwnEnts
  rw [List.length_append, List.flatMap_append]
  have : ([e].flatMap entC) = [strV e.1, .int .i64 e.2] := by simp [entC]
  rw [this]; exact h
theorem below_more2 {w wr w1 : World} {base : Nat} {o : Obj} {v : Value} {n size : Nat} {xs : List Value} {e : TypeId} (hb : Below base w wr) (hbase : base ≤ wr.heap.size) (hown : wr.ownsRow base e size v n xs) (hg : (wr.alloc o).grownBy w1 v.ownBlock) : Below base w w1 :=
  (hb.alloc hbase o).grown hg (by simp; omega) (fun k hk => (hown.lt k hk).1)

theorem own_alloc {w : World} {base : Nat} {v : Value} {L : List Ent} (h : OwnEnts w base v L) (o : Obj) : (w.alloc o).ownsRow base 114 2 v L.length (L.flatMap entC) := World.ownsRow.alloc h o
theorem ent_text {s : ByteArray} {e : Ent} (h : s.data.toList = e.1) : Value.string s = strV e.1 := by rw [← h]; unfold strV; rw [mk_bytes]

set_option maxHeartbeats 1000000 in
theorem refCut_any (v : Value) (L : List Ent) (B : Nat) (s : ByteArray) (w : World) (h : Ents B w v L) (hB : B ≤ w.heap.size) (hn : L.length ≤ 1099511627776) :
    Calls Tryz.prog 103 #[v, .string s] w (MakesE w (cut L s.data.toList)) := by
  obtain ⟨i0, hi, hz0, hz1, hz2⟩ := info_parts ent_info
  have HA := Lib.hid (refAll_any v L B w h hn)
  obtain ⟨A0, c0, rfl, -, -⟩ := h.form
  have hn2 := all_len L
  clear h
  unfold cut
  generalize all L = M at *
  go_enter Tryz.func103, Tryz.ntmps103
  go_wp2_with fail
  refine HA.out.mono ?_
  rintro e w1 ⟨⟨u, rfl, hu⟩, q0, rfl⟩
  have H := Lib.hid hu
  obtain ⟨A, c, rfl, hA1, hA2⟩ := hu.form
  unfold maxLen at hA2
  clear hu
  generalize hm : M.length = n at *
  have HM := Lib.hid hm
  clear hm
  go_wp2
  go_loopw [5, 6] (fun u i wr => ∃ (k : Nat) (out : List Ent), k ≤ n ∧ i = .int .i64 k ∧ out.length ≤ k ∧ Hid (out = cutL (M.take k) s.data.toList) ∧ Hid (OwnEnts wr w.heap.size u out) ∧ Below w.heap.size w wr) (fun _ i _ => n - (intOf i).toNat)
  case atStart => exact ⟨0, [], Nat.zero_le _, rfl, Nat.le_refl _, rfl, own_ents_nil _ _, below_draws w q0⟩
  case round =>
    obtain ⟨k, out, hk, rfl, hout, hr, hown, hb⟩ := hrel
    have hbs := hb.size
    by_cases hlt : k < n
    · obtain ⟨b, o, hl1, t, rfl, hbl, ht, hc0, hc1⟩ := Ents.at_ (H.out.below (hb.mono hB)) hlt
      by_cases hts : t.data.toList = s.data.toList
      · have tt : (t.toList == s.toList) = true := by rw [same_bytes]; simpa using hts
        have HX := Lib.hid (hr.out.trans (cut_drop hl1 (ht.symm.trans hts)).symm)
        clear ht hts
        go_wp2_with fail
        go_roundw
        case rel => exact ⟨k + 1, out, by omega, by go_num, by omega, HX, hown, hb⟩
        case measure => simp [intOf]; omega
      · have tt : (t.toList == s.toList) = false := by rw [same_bytes]; simpa using hts
        have HX := Lib.hid (cut_keep (s := s.data.toList) hl1 (fun e => hts (ht.trans e)))
        rw [← hr.out] at HX
        have HT := Lib.hid (ent_text ht)
        clear hts ht
        go_wp2_with (at_builtin; refine wpList_append_own _ rfl (.tmp 22) (.tmp 27) 89 rfl w.heap.size 114 i0 (.agg #[.string ⟨#[]⟩, .int .i64 0]) 2 24 Tryz.underlying89 hi hz0 hz1 hz2 rfl (by decide) _ _ _ rfl (own_alloc hown.out _) ⟨_, 0, none⟩ 1 1 [.string t, .int .i64 (M[k]).2] rfl rfl (cells_new _ [_, _] _) (by intro u hu; simp at hu; rcases hu with rfl | rfl <;> rfl) (by unfold maxLen; omega) (by omega) (by simp; omega) ?_; intro v1 w2 hown1 hgrow1 _)
        rw [HT.out] at hown1
        have B2 := Lib.hid (below_more2 hb hbs hown.out hgrow1)
        have O1 := Lib.hid (own_ents_more hown1)
        clear hown1 hgrow1
        go_wp2
        go_roundw
        case rel => exact ⟨k + 1, _, by omega, by go_num, by rw [List.length_append]; simp; omega, HX.symm, O1, B2.out⟩
        case measure => simp [intOf]; omega
    · have HX := Lib.hid (hr.out.trans (by rw [take_all (by rw [HM.out]; exact hlt)]))
      go_wp2_with fail
      go_ret
      exact ⟨_, rfl, by rw [← HX.out]; exact hown.out, hb⟩
end Go.Proofs.YtpihldcchjoinaaGreatDoor.W06
/-
  Layer 11 (rows): rows in memory; walks of the plain answers Same, fits, Right, Less: what each returns; nothing that was there is changed. The conditions stand in the statements.
-/
namespace Go.Proofs.YtpihldcchjoinaaGreatDoor.W11
set_option maxRecDepth 100000
open Go Go.RowKit Go.Proofs.YtpihldcchjoinaaGreatDoor.Strs Go.Proofs.YtpihldcchjoinaaGreatDoor.Recs
open Go.Proofs.YtpihldcchjoinaaGreatDoor.M12
open Go.Proofs.YtpihldcchjoinaaGreatDoor.M04 (parts isPath)
open Go.Proofs.YtpihldcchjoinaaGreatDoor.M03 (lt)
open Go.Proofs.YtpihldcchjoinaaGreatDoor.W03 (less_bytes same_bytes)
open Go.Proofs.YtpihldcchjoinaaGreatDoor.W04 (Hands)
open Go.Proofs.YtpihldcchjoinaaGreatDoor.Kit (ret_str ret_bool ret_int mk_of mk_bytes ba_ext below_draws on)

abbrev Bytes := List UInt8
/-- a row's cells -/
def rowC (x : Rw) : List Value := [strV x.path, .int .i64 x.kind, strV x.data]
def rowV (x : Rw) : Value := .agg #[.string ⟨x.path.toArray⟩, .int .i64 x.kind, .string ⟨x.data.toArray⟩]
theorem rowC_len (x : Rw) : (rowC x).length = 3 := rfl
theorem rowC_one (x : Rw) : ∀ c ∈ rowC x, c.oneCell' = true := by
  intro c hc
  simp only [rowC, List.mem_cons, List.not_mem_nil, or_false] at hc
  rcases hc with rfl | rfl | rfl <;> rfl
theorem row_info : (Tryz.prog.info? 41).map (fun i => (i.zero, i.size, i.bytes)) = some (some (.agg #[.string ⟨#[]⟩, .int .i64 0, .string ⟨#[]⟩]), 3, 40) := by kernel_rfl
abbrev RowList (B : Nat) (w : World) (v : Value) (L : List Rw) : Prop := Recs rowC 3 B w v L
theorem RowList.at_ {B : Nat} {w : World} {L : List Rw} {A : Option Addr} {n c : Nat} (h : RowList B w (.slice A n c) L) {k : Nat} (hk : k < n) : ∃ (b o : Nat) (hl : k < L.length) (s x : ByteArray), A = some ⟨b, o, none⟩ ∧ b < B ∧ s.data.toList = (L[k]).path ∧ x.data.toList = (L[k]).data ∧ w.cell? ⟨b, o + k * 3, none⟩ = some (.string s) ∧ w.cell? ⟨b, o + k * 3 + 1, none⟩ = some (.int .i64 (L[k]).kind) ∧ w.cell? ⟨b, o + k * 3 + 2, none⟩ = some (.string x) := by
  obtain ⟨b, o, hl, rfl, hb, hc⟩ := Recs.flat_ h rowC_len (by omega) hk
  exact ⟨b, o, hl, ⟨(L[k]).path.toArray⟩, ⟨(L[k]).data.toArray⟩, rfl, hb, rfl, rfl, hc 0 (by omega), hc 1 (by omega), hc 2 (by omega)⟩
/-- rows are handed out -/
def HandsR (w : World) (L : List Rw) (e : Ending) (w' : World) : Prop := ∃ v, e = .returned v ∧ RowList w'.heap.size w' v L ∧ Below w.heap.size w w'

/-! Same -/
theorem upto_all {La Lb : List Rw} {k : Nat} (hl : La.length = Lb.length) (hk : ¬ k < La.length) (h : ∀ j, j < k → La[j]? = Lb[j]?) : La = Lb := by
  apply List.ext_getElem? 
  intro i
  by_cases hi : i < k
  · exact h i hi
  · rw [List.getElem?_eq_none (by omega), List.getElem?_eq_none (by omega)]
theorem row_ext {x y : Rw} (h1 : x.path = y.path) (h2 : x.kind = y.kind) (h3 : x.data = y.data) : x = y := by
  cases x; cases y; simp at h1 h2 h3; rw [h1, h2, h3]
set_option maxHeartbeats 1000000 in
theorem refSame_any (va vb : Value) (La Lb : List Rw) (B : Nat) (w : World) (ha : RowList B w va La) (hb : RowList B w vb Lb) :
    Calls Tryz.prog 13 #[va, vb] w fun e w' => e = .returned (.bool (decide (La = Lb))) ∧ ∃ n, w' = w.drewN n := by
  obtain ⟨A, c, rfl, hA1, hA2⟩ := ha.form
  obtain ⟨A', c', rfl, hB1, hB2⟩ := hb.form
  unfold maxLen at hA2 hB2
  by_cases hl : La.length = Lb.length
  · have HL := Lib.hid hl
    have HA := Lib.hid ha
    have HB := Lib.hid (hl ▸ hb)
    rw [← hl]
    rw [← hl] at hB1
    clear hl ha hb
    generalize hn : La.length = n at *
    have HN := Lib.hid hn
    clear hn
    go_enter Tryz.func13, Tryz.ntmps13
    go_wp2
    go_loopw [5] (fun i wr => ∃ k : Nat, k ≤ n ∧ i = .int .i64 k ∧ Hid (∀ j, j < k → La[j]? = Lb[j]?) ∧ ∃ q, wr = w.drewN q) (fun i _ => n - (intOf i).toNat)
    case atStart => exact ⟨0, Nat.zero_le _, rfl, fun j hj => by omega, 0, rfl⟩
    case round =>
      obtain ⟨k, hk, rfl, hr, q, rfl⟩ := hrel
      by_cases hlt : k < n
      · obtain ⟨b, o, hl1, s, x, rfl, hbl, hs, hx, hc0, hc1, hc2⟩ := RowList.at_ HA.out hlt
        obtain ⟨b', o', hl2, s', x', rfl, hbl', hs', hx', hd0, hd1, hd2⟩ := RowList.at_ HB.out hlt
        have hk1 : Hid (La[k]? = some La[k]) := List.getElem?_eq_getElem hl1
        have hk2 : Hid (Lb[k]? = some Lb[k]) := List.getElem?_eq_getElem hl2
        generalize La[k] = ra at *
        generalize Lb[k] = rb at *
        have HE := Lib.hid (fun (h1 : s.data.toList = s'.data.toList) (h2 : ra.kind = rb.kind) (h3 : x.data.toList = x'.data.toList) => row_ext (x := ra) (y := rb) (by rw [← hs, ← hs', h1]) h2 (by rw [← hx, ← hx', h3]))
        have HD := Lib.hid (fun (h : ra = rb) => (⟨by rw [hs, hs', h], by rw [h], by rw [hx, hx', h]⟩ : s.data.toList = s'.data.toList ∧ ra.kind = rb.kind ∧ x.data.toList = x'.data.toList))
        clear hs hs' hx hx'
        generalize ra.kind = ka at *
        generalize rb.kind = kb at *
        have no : Hid ((¬ (s.data.toList = s'.data.toList ∧ ka = kb ∧ x.data.toList = x'.data.toList)) → decide (La = Lb) = false) := fun h => by
          refine decide_eq_false (fun e => h (HD.out ?_))
          have := hk1.out
          rw [e, hk2.out] at this
          exact (Option.some.inj this).symm
        have yes : Hid ((s.data.toList = s'.data.toList ∧ ka = kb ∧ x.data.toList = x'.data.toList) → ∀ j, j < k + 1 → La[j]? = Lb[j]?) := fun h j hj => by
          by_cases e : j = k
          · rw [e, hk1.out, hk2.out, HE.out h.1 h.2.1 h.2.2]
          · exact hr.out j (by omega)
        clear hk1 hk2 HE HD
        by_cases e1 : s.data.toList = s'.data.toList
        · have t1 : (s.toList == s'.toList) = true := by rw [Lib.toList_data, Lib.toList_data]; simpa using e1
          by_cases e2 : ka = kb
          · have t2 : (ka == kb) = true := by simpa using e2
            by_cases e3 : x.data.toList = x'.data.toList
            · have t3 : (x.toList == x'.toList) = true := by rw [Lib.toList_data, Lib.toList_data]; simpa using e3
              have hE := Lib.hid (yes.out ⟨e1, e2, e3⟩)
              clear e1 e2 e3
              go_wp2_with fail
              go_quiet (fail)
              go_wp2_with fail
              go_roundw
              case rel => exact ⟨k + 1, by omega, by go_num, hE, q + nq, by first | rfl | rw [World.drewN_drewN]⟩
              case measure => simp [intOf]; omega
            · have t3 : (x.toList == x'.toList) = false := by rw [Lib.toList_data, Lib.toList_data]; simpa using e3
              have hE := Lib.hid (no.out (fun h => e3 h.2.2))
              clear e1 e2 e3
              go_wp2_with fail
              go_quiet (fail)
              go_wp2_with fail
              go_ret
              exact ⟨ret_bool hE.out.symm, q + nq, by first | rfl | rw [World.drewN_drewN]⟩
          · have t2 : (ka == kb) = false := by simpa using e2
            have hE := Lib.hid (no.out (fun h => e2 h.2.1))
            clear e1 e2
            go_wp2_with fail
            go_quiet (fail)
            go_wp2_with fail
            go_ret
            exact ⟨ret_bool hE.out.symm, q + nq, by first | rfl | rw [World.drewN_drewN]⟩
        · have t1 : (s.toList == s'.toList) = false := by rw [Lib.toList_data, Lib.toList_data]; simpa using e1
          have hE := Lib.hid (no.out (fun h => e1 h.1))
          clear e1
          go_wp2_with fail
          go_quiet (fail)
          go_wp2_with fail
          go_ret
          exact ⟨ret_bool hE.out.symm, q + nq, by first | rfl | rw [World.drewN_drewN]⟩
      · go_wp2
        go_ret
        refine ⟨ret_bool ?_, q, rfl⟩
        have := upto_all (HN.out.trans HL.out) (k := k) (by rw [HN.out]; exact hlt) hr.out
        simp [this]
  · have hne : ((La.length : Int) != (Lb.length : Int)) = true := by simp; omega
    have hd : ¬ La = Lb := fun e => hl (by rw [e])
    go_enter Tryz.func13, Tryz.ntmps13
    go_wp2
    go_ret
    exact ⟨ret_bool (by simp [hd]), 0, rfl⟩

/-! fits -/
def wordByte (c : UInt8) : Bool := decide (c ≠ 10) && decide (c ≠ 0)
theorem fits_all {s : ByteArray} : fitsR s.data.toList = ((s.data.toList.all wordByte) && decide (s.size ≤ 4096)) := by unfold fitsR; rw [← Lib.size_eq]; rfl
theorem take_step {s : ByteArray} {k : Nat} (hk : k < s.size) (h : (s.data.toList.take k).all wordByte = true) (hw : wordByte s[k] = true) : (s.data.toList.take (k + 1)).all wordByte = true := by
  rw [Kit.take_next s k hk, List.all_append, h]; simp [hw]
theorem all_no {s : ByteArray} {k : Nat} (hk : k < s.size) (hw : wordByte s[k] = false) : fitsR s.data.toList = false := by
  rw [fits_all, Bool.and_eq_false_iff]
  left
  rw [List.all_eq_false]
  have hk2 : k < s.data.toList.length := by rw [← Lib.size_eq]; exact hk
  exact ⟨s.data.toList[k], List.getElem_mem hk2, by show ¬ wordByte s[k] = true; rw [hw]; decide⟩
set_option maxHeartbeats 1000000 in
theorem fits_any (s : ByteArray) (hs : s.size ≤ 1099511627776) (w : World) : Calls Tryz.prog 50 #[.string s] w fun e w' => e = .returned (.bool (fitsR s.data.toList)) ∧ w' = w := by
  go_enter Tryz.func50, Tryz.ntmps50
  go_wp2
  go_loop [3] (fun i => ∃ k : Nat, k ≤ s.size ∧ i = .int .i64 k ∧ Hid ((s.data.toList.take k).all wordByte = true)) (fun i => s.size - (intOf i).toNat)
  case atStart => exact ⟨0, Nat.zero_le _, rfl, Lib.hid rfl⟩
  case round =>
    obtain ⟨k, hk, rfl, hr⟩ := hrel
    by_cases hlt : k < s.size
    · have HY := Lib.hid (fun h => take_step hlt hr.out h)
      have HN := Lib.hid (fun h => all_no hlt h)
      by_cases e1 : (s[k].toNat : Int) = 10
      · have t1 : ((s[k].toNat : Int) == 10) = true := by rw [beq_iff_eq]; exact e1
        have HX := Lib.hid (HN.out (by have := Kit.byte_eq (d := 10) e1; simp [wordByte, this]))
        clear HY HN
        go_wp2
        go_ret
        exact ⟨ret_bool HX.out.symm, rfl⟩
      · have u1 : ((s[k].toNat : Int) == 10) = false := by rw [beq_eq_false_iff_ne]; exact e1
        by_cases e2 : (s[k].toNat : Int) = 0
        · have u2 : ((s[k].toNat : Int) == 0) = true := by rw [beq_iff_eq]; exact e2
          have HX := Lib.hid (HN.out (by have := Kit.byte_eq (d := 0) e2; simp [wordByte, this]))
          clear HY HN
          go_wp2
          go_ret
          exact ⟨ret_bool HX.out.symm, rfl⟩
        · have u2 : ((s[k].toNat : Int) == 0) = false := by rw [beq_eq_false_iff_ne]; exact e2
          have HX := Lib.hid (HY.out (by have a1 := Kit.byte_ne (d := 10) e1; have a2 := Kit.byte_ne (d := 0) e2; simp [wordByte, a1, a2]))
          clear HY HN
          go_wp2
          go_round
          case rel => exact ⟨k + 1, by omega, by go_num, HX⟩
          case measure => simp [intOf]; omega
    · have e : k = s.size := by omega
      subst e
      have HX : Hid (fitsR s.data.toList = decide ((s.size : Int) ≤ 4096)) := by
        show _ = _
        rw [fits_all]
        have := hr.out
        rw [Kit.take_end s s.size (Nat.lt_irrefl _)] at this
        rw [this, Bool.true_and]
        exact decide_eq_decide.2 (by omega)
      clear hr
      go_wp2
      go_ret
      exact ⟨ret_bool HX.out.symm, rfl⟩
end Go.Proofs.YtpihldcchjoinaaGreatDoor.W11
/-
  Arguments that are slices of rows, opened. For this program's types; no condition but those that each theorem bears.
-/
namespace Go.Proofs.YtpihldcchjoinaaGreatDoor.W11
open Go Go.RowKit Go.ChangeShapes Go.WideShapes Go.Deep Go.Joins
open Go.Proofs.YtpihldcchjoinaaGreatDoor.M12
open Go.Proofs.YtpihldcchjoinaaGreatDoor.Strs (strV)
open Go.Proofs.YtpihldcchjoinaaGreatDoor.Recs
open Go.Proofs.YtpihldcchjoinaaGreatDoor.Kit (mk_bytes)

theorem rw_struct : ∃ f0 f1 f2 : Field, Tryz.prog.underlying 41 = some (.struct #[f0, f1, f2]) ∧ f0.type = 9 ∧ f1.type = 3 ∧ f2.type = 9 ∧ oneCellFields Tryz.prog #[f0, f1, f2] = true :=
  ⟨_, _, _, Tryz.underlying41, rfl, rfl, rfl, by kernel_rfl⟩
theorem rw_cells : Tryz.prog.cellsOf 41 = 3 := by kernel_rfl
theorem three_of {α : Type} : ∀ {l : List α}, l.length = 3 → ∃ a b c, l = [a, b, c]
  | [a, b, c], _ => ⟨a, b, c, rfl⟩
section
variable {H : Type} {enc : TypeId × Value → H} {W : World} {base : Nat}
theorem rw_read (n : Nat) (cs : List Value) (x : DataW H × List MemPlace) (hl : cs.length = 3) (h : DataW.trod enc Tryz.prog W 0 (fun _ => true) true n 41 cs = some x) : ∃ r : Rw, cs = rowC r ∧ r.data.length ≤ maxLen := by
  obtain ⟨f0, f1, f2, hs, e0, e1, e2, hone⟩ := rw_struct
  obtain ⟨o0, k0⟩ := hone_of hone 0 f0 rfl
  obtain ⟨o1, k1⟩ := hone_of hone 1 f1 rfl
  obtain ⟨o2, k2⟩ := hone_of hone 2 f2 rfl
  obtain ⟨xs, m, _, _, _, hxl, hf⟩ := DataW.trod_struct hs h
  have hxl3 : xs.length = 3 := hxl
  have g0 := hf 0 f0 rfl
  have g1 := hf 1 f1 rfl
  have g2 := hf 2 f2 rfl
  rw [o0, k0, e0, List.getElem?_eq_getElem (by omega)] at g0
  rw [o1, k1, e1, List.getElem?_eq_getElem (by omega)] at g1
  rw [o2, k2, e2, List.getElem?_eq_getElem (by omega)] at g2
  obtain ⟨c0, c1, c2, rfl⟩ := three_of hl
  obtain ⟨s0, q0, _, _⟩ := DataW.trod_string Tryz.underlying9 g0
  obtain ⟨z1, q1, _, _⟩ := DataW.trod_int Tryz.underlying3 g1
  obtain ⟨s2, q2, _, hm⟩ := DataW.trod_string Tryz.underlying9 g2
  simp at q0 q1 q2
  subst q0 q1 q2
  refine ⟨⟨s0.data.toList, z1, s2.data.toList⟩, ?_, by rw [← Lib.size_eq]; exact hm⟩
  show _ = [strV s0.data.toList, _, strV s2.data.toList]
  unfold strV
  rw [mk_bytes, mk_bytes]
set_option maxRecDepth 100000 in
theorem open_rows {v : Value} {d : DataW H} {p : List MemPlace} (hok : Value.okWide Tryz.prog W .any base 31 v) (h : DataW.Trod enc Tryz.prog W 0 (fun _ => true) true 31 v d p) (hlt : ∀ x ∈ p, x.block < W.heap.size) :
    ∃ L : List Rw, RowList W.heap.size W v L ∧ ∀ r ∈ L, r.data.length ≤ maxLen :=
  open_recs Tryz.underlying31 rw_cells (by omega) rw_read hok h hlt
end
end Go.Proofs.YtpihldcchjoinaaGreatDoor.W11
/-
  Slices of records: parts of one (the first ones, those from a place on, those between), as the walk spells the cut's value. Plain lemmas on worlds, for every program; no condition but those that each theorem bears.
-/
namespace Go.Proofs.YtpihldcchjoinaaGreatDoor.Recs
open Go Go.RowKit
open Go.Proofs.YtpihldcchjoinaaGreatDoor.Strs (block_add strV)
section
variable {α : Type} {enc : α → List Value} {sz : Nat} {B : Nat} {w : World} {A : Option Addr} {n c : Nat} {L : List α}
theorem Recs.count (h : Recs enc sz B w (.slice A n c) L) : n = L.length ∧ n ≤ c ∧ c ≤ maxLen := by
  obtain ⟨A', c', e, h1, h2, h3⟩ := h
  injection e with e1 e2 e3
  subst e1 e2 e3
  exact ⟨rfl, h1, h2⟩
/-- no record: whatever the address -/
theorem recs_none (enc : α → List Value) (sz B : Nat) (w : World) (A : Option Addr) {c : Nat} (hc : c ≤ maxLen) : Recs enc sz B w (.slice A 0 c) [] := ⟨A, c, rfl, Nat.zero_le _, hc, fun h => absurd h (by simp)⟩
theorem Recs.take (h : Recs enc sz B w (.slice A n c) L) {k : Nat} (hk : k ≤ n) : Recs enc sz B w (.slice A k c) (L.take k) := by
  obtain ⟨hn, hc1, hc2⟩ := h.count
  subst hn
  obtain ⟨A0, c0, e, h1, h2, h3⟩ := h
  cases e
  have hl : (L.take k).length = k := by rw [List.length_take]; omega
  refine ⟨A, c, by rw [hl], by omega, hc2, fun h0 => ?_⟩
  obtain ⟨ad, rfl, hb, hc⟩ := h3 (by omega)
  refine ⟨ad, rfl, hb, fun i hi j hj => ?_⟩
  rw [hc i (by omega) j hj, List.getElem_take]
theorem Recs.drop (h : Recs enc sz B w (.slice A n c) L) (he : ∀ x : α, (enc x).length = sz) (h0 : 0 < sz) {k : Nat} (hk : k ≤ n) : Recs enc sz B w (.slice (A.map fun x => x.add (k * sz)) (n - k) (c - k)) (L.drop k) := by
  obtain ⟨hn, hc1, hc2⟩ := h.count
  have hfl : 0 < n → ∃ b o, A = some ⟨b, o, none⟩ := fun hp => by
    obtain ⟨b, o, _, e, _⟩ := h.flat_ he h0 hp
    exact ⟨b, o, e⟩
  subst hn
  obtain ⟨A0, c0, e, h1, h2, h3⟩ := h
  cases e
  refine ⟨_, c - k, by rw [List.length_drop], by rw [List.length_drop]; omega, by omega, fun hp => ?_⟩
  rw [List.length_drop] at hp
  obtain ⟨b, o, rfl⟩ := hfl (by omega)
  obtain ⟨ad, e, hb, hc⟩ := h3 (by omega)
  cases e
  refine ⟨_, rfl, by rw [block_add]; exact hb, fun i hi j hj => ?_⟩
  rw [List.length_drop] at hi
  have := hc (k + i) (by omega) j hj
  rw [Addr.add_lit] at this
  show w.cell? (((⟨b, o, none⟩ : Addr).add (k * sz)).add (i * sz + j)) = _
  rw [Addr.add_lit, Addr.add_lit, show o + k * sz + (i * sz + j) = o + ((k + i) * sz + j) by rw [Nat.add_mul]; omega, this]
  congr 2
  simp
theorem Recs.drop_all (h : Recs enc sz B w (.slice A n c) L) {k : Nat} (hk : k ≤ n) (hkc : c = k) {m : Nat} (hm : m ≤ maxLen) : Recs enc sz B w (.slice A (n - k) m) (L.drop k) := by
  obtain ⟨hn, hc1, hc2⟩ := h.count
  have e1 : n - k = 0 := by omega
  have e2 : L.drop k = [] := List.drop_of_length_le (by omega)
  rw [e1, e2]
  exact recs_none _ _ _ _ _ hm
/-- those between two places, the address moved -/
theorem Recs.mid (h : Recs enc sz B w (.slice A n c) L) (he : ∀ x : α, (enc x).length = sz) (h0 : 0 < sz) {i j : Nat} (hij : i ≤ j) (hj : j ≤ n) : Recs enc sz B w (.slice (A.map fun x => x.add (i * sz)) (j - i) (c - i)) ((L.take j).drop i) := (h.take hj).drop he h0 hij
/-- one alone, at its place -/
theorem Recs.one (h : Recs enc sz B w (.slice A n c) L) (he : ∀ x : α, (enc x).length = sz) (h0 : 0 < sz) {i : Nat} (hj : i + 1 ≤ n) : Recs enc sz B w (.slice (A.map fun x => x.add (i * sz)) 1 (c - i)) ((L.take (i + 1)).drop i) := by
  have := h.mid he h0 (Nat.le_succ i) hj
  rwa [show i + 1 - i = 1 by omega] at this
theorem Recs.one_last {i : Nat} (h : Recs enc sz B w (.slice A n (i + 1)) L) (he : ∀ x : α, (enc x).length = sz) (h0 : 0 < sz) (hj : i + 1 ≤ n) : Recs enc sz B w (.slice (A.map fun x => x.add (i * sz)) 1 1) ((L.take (i + 1)).drop i) := by
  have := h.one he h0 hj
  rwa [show i + 1 - i = 1 by omega] at this
theorem Recs.drop_last {k : Nat} (h : Recs enc sz B w (.slice A n k) L) (hk : k ≤ n) : Recs enc sz B w (.slice A 0 0) (L.drop k) := by
  have h2 := h.count
  have := h.drop_all hk rfl (Nat.zero_le maxLen)
  rwa [show n - k = 0 by omega] at this
theorem Recs.void {i : Nat} {A' : Option Addr} {c' : Nat} (hc : c' ≤ maxLen) : Recs enc sz B w (.slice A' 0 c') ((L.take i).drop i) := by
  rw [List.drop_of_length_le (by rw [List.length_take]; omega)]
  exact recs_none _ _ _ _ _ hc
end
end Go.Proofs.YtpihldcchjoinaaGreatDoor.Recs
/-
  append(own, records...) where the first is a row of the call's own and the other one whatever slice of records: with an address or without, empty or not: one law. For every program; the conditions stand in the statement.
-/
namespace Go.Proofs.YtpihldcchjoinaaGreatDoor.Recs
open Go Go.RowKit

theorem run_append_void {P : Program} {w : World} (base : Nat) (t ty e : TypeId) (i : TypeInfo) (size : Nat) (ht : P.underlying t = some (.slice e)) (hi : P.info? e = some i)
    (v : Value) (n c : Nat) (xs : List Value) (hown : w.ownsRow base e size v n xs) :
    (Builtin.append_ #[t, t] ty #[v, .slice none 0 c]).run P w = .ok v w := by
  rcases hown.2 with ⟨rfl, rfl⟩ | ⟨g, cap, cur, rfl, _, _, hnc, _⟩
  · simp [Builtin.append_, run_underlying ht, sizeOf, typeInfo, hi, Builtin.lenOf, Builtin.firstCells]
  · simp [Builtin.append_, run_underlying ht, sizeOf, typeInfo, hi, Builtin.lenOf, Builtin.firstCells, hnc, storeCells]
/-- where the block of what an append gives lies -/
theorem own_block_next {P : Program} (w : World) (base : Nat) (t ty e : TypeId) (i : TypeInfo) (z : Value) (size bytes : Nat) (ht : P.underlying t = some (.slice e)) (hi : P.info? e = some i) (hz : i.zero = some z)
    (hsize : i.size = size) (hby : i.bytes = bytes) (hzs : z.cells.size = size) (hsz : 0 < size)
    (v : Value) (n : Nat) (xs : List Value) (hown : w.ownsRow base e size v n xs)
    (a : Addr) (m c : Nat) (news : List Value) (hl : news.length = m * size) (hnews : ∀ j u, news[j]? = some u → w.cell? (a.add j) = some u) (h1 : ∀ u ∈ news, u.oneCell' = true)
    (h63 : n + m ≤ maxLen) (hbytes : (n + m) * bytes ≤ 140737488355328) {v' : Value} {w' : World} (hr : (Builtin.append_ #[t, t] ty #[v, .slice (some a) m c]).run P w = .ok v' w') :
    ∀ k, v'.ownBlock = some k → v.ownBlock = some k ∨ w.heap.size ≤ k := by
  subst hsize
  subst hby
  have hsmall : n + m ≤ 9223372036854775807 := by simp only [maxLen] at h63; omega
  intro k hk
  rcases hown.2 with ⟨rfl, rfl⟩ | ⟨g, cap, cur, rfl, hbg, hg, hnc, hcm, hcs, htake⟩
  · obtain ⟨v2, w2, hr2, ho2, -, -⟩ := run_append_own w w.heap.size t ty e i z i.size i.bytes ht hi hz rfl rfl hzs hsz (.slice none 0 0) 0 xs (by have hx : xs = [] := List.eq_nil_of_length_eq_zero (by simpa using hown.1); rw [hx]; exact World.ownsRow_nil _ _ _ _) a m c news hl hnews h1 h63 hbytes (Nat.le_refl _)
    rw [hr] at hr2
    cases hr2
    exact Or.inr (ho2.lt k hk).1
  · by_cases hroom : n + m ≤ cap
    · have hfit : n * i.size + news.length ≤ cur.size := by rw [hl, hcs, ← Nat.add_mul]; exact Nat.mul_le_mul_right _ hroom
      rw [run_append_room w t ty e i ht hi g n cap cur hg a m c news hl hnews h1 hroom hfit] at hr
      cases hr
      exact Or.inl hk
    · have holds : ∀ j u, xs[j]? = some u → w.cell? ((⟨g, 0, none⟩ : Addr).add j) = some u := hown.cells (g := g) rfl
      rw [run_append_grow w t ty e i z ht hi hz ⟨g, 0, none⟩ n cap xs hown.1 holds a m c news hl hnews (by omega) (by omega) (growslice_fits (by omega) hbytes)] at hr
      cases hr
      simp [Value.ownBlock] at hk
      exact Or.inr (by omega)
theorem wp_append_recs {α : Type} {enc : α → List Value} {P : Program} {w : World} {o : Oper} {a : Act} {K : Act → World → Prop} {Q : Exit → Act → World → Prop} (s x : Operand) (t : TypeId)
    (ho : o.op = .call { callee := .builtin .append, args := #[s, x], argTypes := #[t, t] })
    (base : Nat) (e : TypeId) (i : TypeInfo) (z : Value) (size bytes : Nat) (ht : P.underlying t = some (.slice e)) (hi : P.info? e = some i) (hz : i.zero = some z)
    (hsize : i.size = size) (hby : i.bytes = bytes) (hzs : z.cells.size = size) (hsz : 0 < size)
    (v : Value) (n : Nat) (xs : List Value) (hs : a.eval s = v) (hown : w.ownsRow base e size v n xs)
    (u : Value) (L : List α) (B : Nat) (hx : a.eval x = u) (hu : Recs enc size B w u L) (he : ∀ r : α, (enc r).length = size) (h1 : ∀ r : α, ∀ c ∈ enc r, c.oneCell' = true)
    (h63 : n + L.length ≤ maxLen) (hbytes : (n + L.length) * bytes ≤ 140737488355328) (hbase : base ≤ w.heap.size)
    (h : ∀ v' w', w'.ownsRow base e size v' (n + L.length) (xs ++ L.flatMap enc) → w.grownBy w' v.ownBlock → (∀ k, v'.ownBlock = some k → v.ownBlock = some k ∨ w.heap.size ≤ k) → K (a.put o.dst v') w') : o.wp P a w K Q := by
  obtain ⟨A, c, rfl, hc1, hc2⟩ := hu.form
  have hfl : (L.flatMap enc).length = L.length * size := flat_len he L
  have hone : ∀ u ∈ L.flatMap enc, u.oneCell' = true := fun q hq => by
    obtain ⟨r, _, hr⟩ := List.mem_flatMap.1 hq
    exact h1 r q hr
  cases A with
  | none =>
    have h0 : L.length = 0 := by
      rcases Nat.eq_zero_or_pos L.length with q | q
      · exact q
      · obtain ⟨b, o, hf, _⟩ := hu.news he hsz q
        cases hf
    have hL : L = [] := List.length_eq_zero_iff.1 h0
    subst hL
    have hrun := run_append_void (P := P) (w := w) base t o.type e i size ht hi v n c xs hown
    have hx' : a.eval x = .slice none 0 c := hx
    unfold Oper.wp
    simp [execOp, ho, resolve, invoke, builtin, hs, hx', hrun, Result.andThen]
    exact h v w (by simpa using hown) ⟨rfl, rfl, rfl, Nat.le_refl _, fun _ _ _ => rfl⟩ (fun k hk => Or.inl hk)
  | some ad =>
    have hnews : ∀ j q, (L.flatMap enc)[j]? = some q → w.cell? (ad.add j) = some q := by
      intro j q hq
      rcases Nat.eq_zero_or_pos L.length with h0 | h0
      · have : L = [] := List.length_eq_zero_iff.1 h0
        subst this
        simp at hq
      · obtain ⟨b, o, hf, _, hcell⟩ := hu.news he hsz h0
        cases hf
        exact hcell j q hq
    obtain ⟨v', w', hr, h2, h3, -⟩ := run_append_own (P := P) w base t o.type e i z size bytes ht hi hz hsize hby hzs hsz v n xs hown ad L.length c (L.flatMap enc) hfl hnews hone h63 hbytes hbase
    have h4 := own_block_next w base t o.type e i z size bytes ht hi hz hsize hby hzs hsz v n xs hown ad L.length c (L.flatMap enc) hfl hnews hone h63 hbytes hr
    have hx' : a.eval x = .slice (some ad) L.length c := hx
    unfold Oper.wp execOp
    simp only [ho, resolve, invoke, builtin, Sem.run_bind, Sem.run_pure, Result.andThen_ok, List.map_toArray, List.map_cons, List.map_nil, hs, hx', hr]
    exact h v' w' h2 h3 h4
theorem wpList_append_recs {α : Type} {enc : α → List Value} {P : Program} {w : World} {ops : Array Oper} {rest : List Oper} {o : Oper} {a : Act} {Q : Exit → Act → World → Prop} (hgd : o.guard = none) (s x : Operand) (t : TypeId)
    (ho : o.op = .call { callee := .builtin .append, args := #[s, x], argTypes := #[t, t] })
    (base : Nat) (e : TypeId) (i : TypeInfo) (z : Value) (size bytes : Nat) (ht : P.underlying t = some (.slice e)) (hi : P.info? e = some i) (hz : i.zero = some z)
    (hsize : i.size = size) (hby : i.bytes = bytes) (hzs : z.cells.size = size) (hsz : 0 < size)
    (v : Value) (n : Nat) (xs : List Value) (hs : a.eval s = v) (hown : w.ownsRow base e size v n xs)
    (u : Value) (L : List α) (B : Nat) (hx : a.eval x = u) (hu : Recs enc size B w u L) (he : ∀ r : α, (enc r).length = size) (h1 : ∀ r : α, ∀ c ∈ enc r, c.oneCell' = true)
    (h63 : n + L.length ≤ maxLen) (hbytes : (n + L.length) * bytes ≤ 140737488355328) (hbase : base ≤ w.heap.size)
    (h : ∀ v' w', w'.ownsRow base e size v' (n + L.length) (xs ++ L.flatMap enc) → w.grownBy w' v.ownBlock → (∀ k, v'.ownBlock = some k → v.ownBlock = some k ∨ w.heap.size ≤ k) → wpList P ops Q rest (a.put o.dst v') w') : wpList P ops Q (o :: rest) a w :=
  wpList_plain hgd fun _ hK => wp_append_recs s x t ho base e i z size bytes ht hi hz hsize hby hzs hsz v n xs hs hown u L B hx hu he h1 h63 hbytes hbase fun v' w' h2 h3 h4 => hK _ _ (h v' w' h2 h3 h4)
end Go.Proofs.YtpihldcchjoinaaGreatDoor.Recs
/-
  Layer 11 (rows), walks of the plain answers Right, Less, Sort: what each returns; new memory may be laid, nothing that was there is changed. The conditions stand in the statements.
-/
namespace Go.Proofs.YtpihldcchjoinaaGreatDoor.W11
set_option maxRecDepth 100000
open Go Go.RowKit Go.Proofs.YtpihldcchjoinaaGreatDoor.Strs Go.Proofs.YtpihldcchjoinaaGreatDoor.Recs
open Go.Proofs.YtpihldcchjoinaaGreatDoor.M12
open Go.Proofs.YtpihldcchjoinaaGreatDoor.M04 (parts isPath)
open Go.Proofs.YtpihldcchjoinaaGreatDoor.M03 (lt)
open Go.Proofs.YtpihldcchjoinaaGreatDoor.W03 (less_bytes same_bytes)
open Go.Proofs.YtpihldcchjoinaaGreatDoor.W04 (Hands)
open Go.Proofs.YtpihldcchjoinaaGreatDoor.Kit (ret_str ret_bool ret_int mk_of mk_bytes ba_ext below_draws on)

/-- a row's box -/
structure RowBox (w : World) (b : Nat) (s : ByteArray) (k : Int) (x : ByteArray) : Prop where
  c0 : w.cell? ⟨b, 0, none⟩ = some (.string s)
  c1 : w.cell? ⟨b, 1, none⟩ = some (.int .i64 k)
  c2 : w.cell? ⟨b, 2, none⟩ = some (.string x)
theorem RowBox.below {w w' : World} {b : Nat} {s : ByteArray} {k : Int} {x : ByteArray} {B : Nat} (h : RowBox w b s k x) (hb : Below B w w') (hl : b < B) : RowBox w' b s k x := ⟨(hb.cell hl).trans h.c0, (hb.cell hl).trans h.c1, (hb.cell hl).trans h.c2⟩
theorem RowBox.new (w : World) (s : ByteArray) (k : Int) (x : ByteArray) (t : TypeId) : RowBox (w.alloc (.cells #[.string s, .int .i64 k, .string x] t)) w.heap.size s k x := by
  have h := cells_new w [.string s, .int .i64 k, .string x] t
  have add0 : ∀ j, (⟨w.heap.size, 0, none⟩ : Addr).add j = ⟨w.heap.size, j, none⟩ := fun j => by unfold Addr.add; split <;> simp_all
  exact ⟨by have := h 0 _ rfl; rwa [add0] at this, by have := h 1 _ rfl; rwa [add0] at this, by have := h 2 _ rfl; rwa [add0] at this⟩
theorem right_is {p x : Bytes} {k : Int} {a b c d e : Bool} (h1 : isPath p = a) (h2 : decide (p ≠ [47]) = b) (h3 : fitsR p = c) (h4 : fitsR x = d) (h5 : mayHave k x = e) : rightR ⟨p, k, x⟩ = (a && b && c && d && e) := by
  unfold rightR; rw [h1, h2, h3, h4, h5]
theorem below_box (w : World) (o : Obj) : Below w.heap.size w (w.alloc o) := (Below.refl _ w).alloc (Nat.le_refl _) o
set_option maxHeartbeats 2000000 in
theorem refRight_any (p x : ByteArray) (k : Int) (hp : p.size ≤ 1099511627776) (hx : x.size ≤ 1099511627776) (w : World) :
    Calls Tryz.prog 23 #[.agg #[.string p, .int .i64 k, .string x]] w fun e w' => e = .returned (.bool (rightR ⟨p.data.toList, k, x.data.toList⟩)) ∧ Below w.heap.size w w' := by
  obtain ⟨w1, hw1⟩ : ∃ w1, w.alloc (.cells #[.string p, .int .i64 k, .string x] 41) = w1 := ⟨_, rfl⟩
  have hb1 : Below w.heap.size w w1 := by rw [← hw1]; exact below_box w _
  have hs1 : w.heap.size < w1.heap.size := by rw [← hw1, World.size_alloc]; omega
  have X1 : RowBox w1 w.heap.size p k x := by rw [← hw1]; exact RowBox.new _ _ _ _ _
  have HI := Lib.hid (W04.refIs_any p hp w1)
  have HP := Lib.hid (fun w => fits_any p hp w)
  have HX := Lib.hid (fun w => fits_any x hx w)
  have HR := Lib.hid (fun (a b c d e : Bool) => @right_is p.data.toList x.data.toList k a b c d e)
  obtain ⟨x0, x1, x2⟩ := X1
  go_enter Tryz.func23, Tryz.ntmps23
  go_wp2_with fail
  refine HI.out.mono ?_
  rintro e w2 ⟨rfl, hb⟩
  have hbb := Lib.hid (on hb1 hb)
  have y0 : w2.cell? ⟨w.heap.size, 0, none⟩ = _ := (hb.cell (p := ⟨w.heap.size, 0, none⟩) hs1).trans x0
  have y1 : w2.cell? ⟨w.heap.size, 1, none⟩ = _ := (hb.cell (p := ⟨w.heap.size, 1, none⟩) hs1).trans x1
  have y2 : w2.cell? ⟨w.heap.size, 2, none⟩ = _ := (hb.cell (p := ⟨w.heap.size, 2, none⟩) hs1).trans x2
  clear x0 x1 x2 hw1 hb hb1 HI
  cases h1 : isPath p.data.toList with
  | false =>
    have HE := Lib.hid (HR.out _ _ _ _ _ h1 rfl rfl rfl rfl)
    go_wp2_with fail
    go_ret
    exact ⟨ret_bool (by rw [HE.out]; rfl), hbb.out⟩
  | true =>
    by_cases h2 : p.data.toList = [47]
    · have t2 : (p.toList == [47]) = true := by rw [Lib.toList_data]; simpa using h2
      have HE := Lib.hid (HR.out _ _ _ _ _ h1 (decide_eq_false (fun h => h h2)) rfl rfl rfl)
      clear h2
      go_wp2_with fail
      go_ret
      exact ⟨ret_bool (by rw [HE.out]; rfl), hbb.out⟩
    · have t2 : (p.toList == [47]) = false := by rw [Lib.toList_data]; simpa using h2
      have h2' := Lib.hid (decide_eq_true h2)
      clear h2
      cases h3 : fitsR p.data.toList with
      | false =>
        have HE := Lib.hid (HR.out _ _ _ _ _ h1 h2'.out h3 rfl rfl)
        rw [h3] at HP
        go_wp2_with fail
        refine (HP.out _).mono ?_
        rintro e w' ⟨rfl, rfl⟩
        go_wp2_with fail
        go_ret
        exact ⟨ret_bool (by rw [HE.out]; rfl), hbb.out⟩
      | true =>
        rw [h3] at HP
        cases h4 : fitsR x.data.toList with
        | false =>
          have HE := Lib.hid (HR.out _ _ _ _ _ h1 h2'.out h3 h4 rfl)
          rw [h4] at HX
          go_wp2_with fail
          refine (HP.out _).mono ?_
          rintro e w' ⟨rfl, rfl⟩
          go_wp2_with fail
          refine (HX.out _).mono ?_
          rintro e w' ⟨rfl, rfl⟩
          go_wp2_with fail
          go_ret
          exact ⟨ret_bool (by rw [HE.out]; rfl), hbb.out⟩
        | true =>
          rw [h4] at HX
          have HE := Lib.hid (fun (e : Bool) h5 => HR.out _ _ _ _ e h1 h2'.out h3 h4 h5)
          have hmay : Hid (mayHave k x.data.toList = (decide (k = 1 ∧ x.data.toList = []) || decide (k = 2) || decide (k = 3 ∧ x.data.toList ≠ []))) := rfl
          clear h1 h2' h3 h4 HR
          by_cases hx0 : 0 < x.size
          · have n1 := Kit.list_full hx0
            have n2 := Kit.list_ne hx0
            have hne : x.data.toList ≠ [] := by rw [← Lib.toList_data]; exact n2
            by_cases e2 : k = 2
            · subst e2
              have HF := Lib.hid (HE.out true (hmay.out.trans (by simp)))
              clear HE hmay hne
              go_wp2_with fail
              refine (HP.out _).mono ?_
              rintro e w' ⟨rfl, rfl⟩
              go_wp2_with fail
              refine (HX.out _).mono ?_
              rintro e w' ⟨rfl, rfl⟩
              go_wp2_with fail
              go_ret
              exact ⟨ret_bool (by rw [HF.out]; rfl), hbb.out⟩
            · have u2 : (k == 2) = false := by simpa using e2
              by_cases e3 : k = 3
              · subst e3
                have HF := Lib.hid (HE.out true (hmay.out.trans (by simp [hne])))
                clear HE hmay hne
                go_wp2_with fail
                refine (HP.out _).mono ?_
                rintro e w' ⟨rfl, rfl⟩
                go_wp2_with fail
                refine (HX.out _).mono ?_
                rintro e w' ⟨rfl, rfl⟩
                go_wp2_with fail
                go_ret
                exact ⟨ret_bool (by rw [HF.out]; rfl), hbb.out⟩
              · have u3 : (k == 3) = false := by simpa using e3
                have HF := Lib.hid (HE.out false (hmay.out.trans (by simp [hne, e2, e3])))
                clear HE hmay hne
                by_cases e1 : k = 1
                · subst e1
                  go_wp2_with fail
                  refine (HP.out _).mono ?_
                  rintro e w' ⟨rfl, rfl⟩
                  go_wp2_with fail
                  refine (HX.out _).mono ?_
                  rintro e w' ⟨rfl, rfl⟩
                  go_wp2_with fail
                  go_ret
                  exact ⟨ret_bool (by rw [HF.out]; rfl), hbb.out⟩
                · have u1 : (k == 1) = false := by simpa using e1
                  go_wp2_with fail
                  refine (HP.out _).mono ?_
                  rintro e w' ⟨rfl, rfl⟩
                  go_wp2_with fail
                  refine (HX.out _).mono ?_
                  rintro e w' ⟨rfl, rfl⟩
                  go_wp2_with fail
                  go_ret
                  exact ⟨ret_bool (by rw [HF.out]; rfl), hbb.out⟩
          · have n1 := Kit.list_none hx0
            have n2 := Kit.list_nil hx0
            have hne : x.data.toList = [] := by rw [← Lib.toList_data]; exact n2
            by_cases e1 : k = 1
            · subst e1
              have HF := Lib.hid (HE.out true (hmay.out.trans (by simp [hne])))
              clear HE hmay hne
              go_wp2_with fail
              refine (HP.out _).mono ?_
              rintro e w' ⟨rfl, rfl⟩
              go_wp2_with fail
              refine (HX.out _).mono ?_
              rintro e w' ⟨rfl, rfl⟩
              go_wp2_with fail
              go_ret
              exact ⟨ret_bool (by rw [HF.out]; rfl), hbb.out⟩
            · have u1 : (k == 1) = false := by simpa using e1
              by_cases e2 : k = 2
              · subst e2
                have HF := Lib.hid (HE.out true (hmay.out.trans (by simp)))
                clear HE hmay hne
                go_wp2_with fail
                refine (HP.out _).mono ?_
                rintro e w' ⟨rfl, rfl⟩
                go_wp2_with fail
                refine (HX.out _).mono ?_
                rintro e w' ⟨rfl, rfl⟩
                go_wp2_with fail
                go_ret
                exact ⟨ret_bool (by rw [HF.out]; rfl), hbb.out⟩
              · have u2 : (k == 2) = false := by simpa using e2
                have HF := Lib.hid (HE.out false (hmay.out.trans (by simp [hne, e1, e2])))
                clear HE hmay hne
                by_cases e3 : k = 3
                · subst e3
                  go_wp2_with fail
                  refine (HP.out _).mono ?_
                  rintro e w' ⟨rfl, rfl⟩
                  go_wp2_with fail
                  refine (HX.out _).mono ?_
                  rintro e w' ⟨rfl, rfl⟩
                  go_wp2_with fail
                  go_ret
                  exact ⟨ret_bool (by rw [HF.out]; rfl), hbb.out⟩
                · have u3 : (k == 3) = false := by simpa using e3
                  go_wp2_with fail
                  refine (HP.out _).mono ?_
                  rintro e w' ⟨rfl, rfl⟩
                  go_wp2_with fail
                  refine (HX.out _).mono ?_
                  rintro e w' ⟨rfl, rfl⟩
                  go_wp2_with fail
                  go_ret
                  exact ⟨ret_bool (by rw [HF.out]; rfl), hbb.out⟩
end Go.Proofs.YtpihldcchjoinaaGreatDoor.W11
