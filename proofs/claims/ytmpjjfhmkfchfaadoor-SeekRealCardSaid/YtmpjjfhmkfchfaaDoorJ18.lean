/-
  Texts joined, in build order, each with its own comment and its own conditions: W04IsCode, W04Real, W04Code, LibReverse, LibJoin, W08Asks.
-/
import Derived.Test.YtmpjjfhmkfchfaaDoorJ17
import Derived.Test.YtmpjjfhmkfchfaaDoorJ15
import Derived.Test.YtmpjjfhmkfchfaaDoorJ13
import Derived.Test.YtmpjjfhmkfchfaaDoorJ02
import Derived.Lib.OwnBridge
import Derived.Test.YtmpjjfhmkfchfaaDoorJ09
import Derived.Laws.OwnMore
import Derived.Tactics
import Derived.Test.YtmpjjfhmkfchfaaDoorJ14
import Derived.Test.YtmpjjfhmkfchfaaDoorJ07
import Derived.Test.YtmpjjfhmkfchfaaDoorJ16
/-
  Layer 4 (path), walks: the program's hasOnly with name.Right, isClean and Is, at every text of at most 2^31 bytes.
-/
namespace Go.Proofs.YtmpjjfhmkfchfaaDoor.W04
open Go Go.RowKit Go.Shelf Go.Proofs.YtmpjjfhmkfchfaaDoor.Range Go.Proofs.YtmpjjfhmkfchfaaDoor.M04 Go.Proofs.YtmpjjfhmkfchfaaDoor.Strs
open Go.Proofs.YtmpjjfhmkfchfaaDoor.M03 (check)
open Go.Proofs.YtmpjjfhmkfchfaaDoor.Kit (ret_str ret_bool ret_int mk_of mk_bytes ba_ext below_draws on)
attribute [local go_sem] Oper.semAt_some

def rightOf (x : ByteArray) : Bool := decide (check x.data.toList = 0)
theorem part_size {pre : List ByteArray} {x s : ByteArray} (h : pre ++ [x] <+: partsOf s) : x.size ≤ s.size := by have := buf_room h; omega

set_option maxRecDepth 100000 in
set_option maxHeartbeats 2000000 in
theorem hasOnly_right (s : ByteArray) (hs : s.size ≤ 2147483648) (w : World) : Calls Tryd.prog 41 #[.string s, .func (.func 42) #[] #[]] w fun e w' => e = .returned (.bool ((partsOf s).all rightOf)) ∧ Below w.heap.size w w' := by
  have HP := Lib.hid (parts_at s)
  refine (callsIn_wide (n := 9)).1 ?_
  refine callsIn_of_wp_marks Tryd.func41 rfl trivial ?_ rfl
  simp only [Tryd.ntmps41, List.size_toArray, List.length_cons, List.length_nil, Nat.reduceAdd, Nat.reduceSub, Array.replicate_succ, Array.replicate_zero, List.push_toArray, List.append_toArray, List.nil_append, List.cons_append]
  gi_wp2
  refine ⟨trivial, ?_⟩
  gi_at_call 53
  refine (callsIn_wide.2 (HP.out _)).mono ?_
  rintro e w1 ⟨rfl, rfl⟩
  gi_wp2
  have y0 := Boxed.new w 46 (.func (.func 42) #[] #[])
  have x0 := Boxed.new (w.alloc (.cells #[.func (.func 42) #[] #[]] 46)) 4 (.bool false)
  have x1 := Boxed.new ((w.alloc (.cells #[.func (.func 42) #[] #[]] 46)).alloc (.cells #[.bool false] 4)) 9 (.string s)
  simp only [World.size_alloc] at x0 x1
  replace y0 := (y0.alloc (.cells #[.bool false] 4)).alloc (.cells #[.string s] 9)
  replace x0 := x0.alloc (.cells #[.string s] 9)
  have hb : Below w.heap.size w (((w.alloc (.cells #[.func (.func 42) #[] #[]] 46)).alloc (.cells #[.bool false] 4)).alloc (.cells #[.string s] 9)) := (((Below.refl _ w).alloc (Nat.le_refl _) _).alloc (by simp) _).alloc (by simp; omega) _
  have hsz : (((w.alloc (.cells #[.func (.func 42) #[] #[]] 46)).alloc (.cells #[.bool false] 4)).alloc (.cells #[.string s] 9)).heap.size = w.heap.size + 3 := by simp
  generalize ((w.alloc (.cells #[.func (.func 42) #[] #[]] 46)).alloc (.cells #[.bool false] 4)).alloc (.cells #[.string s] 9) = U at *
  refine wp_range (gf := 68) (lb := #[.pointer (some ⟨w.heap.size + 1 + 1, 0, none⟩)]) rfl (enters_of Tryd.func68 (by kernel_rfl) rfl)
    (parts_seq (w.heap.size + 1 + 1) s (by omega) U x1.cell (by omega)) (fun k hk => hk.elim) rfl
    (fun k => w.heap.size + 3 ≤ k ∧ k < w.heap.size + 11) (fun k => by unfold Its; rw [hsz]; simp)
    (fun pre W => Hid (pre.all rightOf = true) ∧ Boxed W w.heap.size 46 (.func (.func 42) #[] #[]) ∧ Boxed W (w.heap.size + 1) 4 (.bool false) ∧ Below w.heap.size w W)
    (fun c pre W => c = .ret ∧ Hid (pre.all rightOf = false) ∧ Boxed W (w.heap.size + 1) 4 (.bool false) ∧ Below w.heap.size w W)
    (by
      rintro pre X Y ⟨h0, h1, h2, h3⟩ ht
      exact ⟨h0, ht.keeps h1 (by omega), ht.keeps h2 (by omega), h3.trans (ht.below (by intro k hk; omega) h3.size)⟩)
    (by
      rintro c pre X Y ⟨h0, h1, h2, h3⟩ ht
      exact ⟨h0, h1, ht.keeps h2 (by omega), h3.trans (ht.below (by intro k hk; omega) h3.size)⟩)
    ⟨rfl, y0, x0, hb⟩
    (fun x => { tmps := #[.string s, .func (.func 42) #[] #[], undef, .pointer (some ⟨w.heap.size, 0, none⟩), .pointer (some ⟨w.heap.size + 1, 0, none⟩), .string x, .string s, .func (.func 68) #[] #[.pointer (some ⟨w.heap.size + 1 + 1, 0, none⟩)], .string x, undef, undef, undef, undef], defers := [] }) ?assign ?body ?done ?stop
  case assign =>
    intro l x W K hK
    gi_wp2
    exact hK
  case body =>
    rintro l pre x W ⟨hal, hm, hv, hB⟩ hW hpre
    have hcm := hm.cell
    have hc := hv.cell
    have hf := hv.frozen
    have HR := Lib.hid (W03.right_any x (by have := part_size hpre; omega))
    have HA : Hid ((pre ++ [x]).all rightOf = rightOf x) := by show _ = _; rw [List.all_append, hal.out]; simp
    rw [show decide (check x.data.toList = 0) = rightOf x from rfl] at HR
    clear hal hpre
    cases hrx : rightOf x with
    | true =>
      rw [hrx] at HR HA
      gi_wp2
      refine ⟨trivial, ?_⟩
      gi_at_call 42
      refine (CallsIn.inRound l (callsIn_wide.2 (HR.out _))).mono ?_
      rintro e w5 ⟨rfl, hb5⟩
      gi_wp2
      exact ⟨Turns.new hb5, HA, (Turns.new hb5 (T := fun _ => False)).keeps hm id, (Turns.new hb5 (T := fun _ => False)).keeps hv id, on hB hb5⟩
    | false =>
      rw [hrx] at HR HA
      gi_wp2
      refine ⟨trivial, ?_⟩
      gi_at_call 42
      refine (CallsIn.inRound l (callsIn_wide.2 (HR.out _))).mono ?_
      rintro e w5 ⟨rfl, hb5⟩
      have hv5 : Boxed w5 (w.heap.size + 1) 4 (.bool false) := (Turns.new hb5 (T := fun _ => False)).keeps hv id
      have hc5 := hv5.cell
      have hf5 := hv5.frozen
      gi_wp2
      exact ⟨(Turns.new hb5).trans (Turns.setCell _ (by simp)), rfl, HA, hv5.set _, (on hB hb5).setCell (p := ⟨w.heap.size + 1, 0, none⟩) (by simp) _⟩
  case done =>
    rintro W ⟨hal, hm, hv, hB⟩ hK
    have hc := hv.cell
    have hf := hv.frozen
    have hv2 := hv.set (.bool true)
    have hK' : (W.setCell ⟨w.heap.size + 1, 0, none⟩ (.bool true)).heap[U.heap.size]? = some (.deferred (some [])) := (Turns.setCell (T := fun k => k = w.heap.size + 1) _ rfl).keeps hK (by omega)
    gi_wp2
    refine ⟨by simp, .inl ⟨_, _, rfl, run_takeDeferred hK', ?_⟩⟩
    have hv3 : Boxed ((W.setCell ⟨w.heap.size + 1, 0, none⟩ (.bool true)).putObj U.heap.size (.deferred none)) (w.heap.size + 1) 4 (.bool true) := (Turns.putObj (T := fun k => k = U.heap.size) _ rfl).keeps hv2 (by omega)
    have hc5 := hv3.cell
    refine ⟨.bool true, ?_, by rw [hal.out], (hB.setCell (p := ⟨w.heap.size + 1, 0, none⟩) (by simp) _).trans ((Turns.putObj (T := fun k => w.heap.size ≤ k) _ (by omega)).below (fun _ h => h) (by simpa using hB.size))⟩
    simp [results, Tryd.f41, go_sem, hc5]
  case stop =>
    rintro c pre W hpre ⟨rfl, hal, hv, hB⟩ hK
    gi_wp2
    refine ⟨by simp, .inl ⟨_, _, rfl, run_takeDeferred hK, ?_⟩⟩
    have hv3 : Boxed (W.putObj U.heap.size (.deferred none)) (w.heap.size + 1) 4 (.bool false) := (Turns.putObj (T := fun k => k = U.heap.size) _ rfl).keeps hv (by omega)
    have hc5 := hv3.cell
    have hall : (partsOf s).all rightOf = false := by
      obtain ⟨t, ht⟩ := hpre
      rw [← ht, List.all_append, hal.out]; rfl
    refine ⟨.bool false, ?_, by rw [hall], hB.trans ((Turns.putObj (T := fun k => w.heap.size ≤ k) _ (by omega)).below (fun _ h => h) hB.size)⟩
    simp [results, Tryd.f41, go_sem, hc5]
end Go.Proofs.YtmpjjfhmkfchfaaDoor.W04
/-
  Layer 4 (path), plain mathematics: how the landed program reckons Is, Join, Dir, Base and Under of texts of bytes, and that it comes to what the plain answers tell. No condition but those that each theorem bears.
-/
namespace Go.Proofs.YtmpjjfhmkfchfaaDoor.W04
open Go Go.RowKit Go.Proofs.YtmpjjfhmkfchfaaDoor.M04
open Go.Proofs.YtmpjjfhmkfchfaaDoor.M03 (check)
open Go.Proofs.YtmpjjfhmkfchfaaDoor.Kit (mk_bytes mk_of ba_ext take_bytes drop_bytes cat_bytes)

theorem check_points : ¬ check [46, 46] = 0 := by decide
/-- Is -/
theorem isPath_real (l : Bytes) : isPath l = (decide (l.length ≤ 1024) && decide (clean l = l) && (parts l).all (fun p => decide (check p = 0))) := by
  unfold isPath
  cases h : (parts l).all (fun p => decide (check p = 0)) with
  | false => simp
  | true =>
    have hp : ∀ p ∈ parts l, p ≠ [46, 46] := by
      intro p hm e
      have := (List.all_eq_true.1 h) p hm
      rw [e] at this
      exact check_points (of_decide_eq_true this)
    have e : clean l = text (parts l) := by unfold clean; rw [cparts_plain hp]
    rw [e, Bool.and_true, Bool.and_true, Bool.and_comm]
    congr 1
    exact decide_eq_decide.2 ⟨fun h => h.symm, fun h => h.symm⟩
/-- Join -/
theorem prefix_slash (l : Bytes) : Lib.hasPrefix l [47] = decide (l.head? = some 47) := by
  unfold Lib.hasPrefix
  cases l with
  | nil => rfl
  | cons c r =>
    show ((47 : UInt8) == c && ([] : Bytes).isPrefixOf r) = _
    rw [List.isPrefixOf_nil_left, Bool.and_true]
    by_cases h : c = 47
    · subst h; simp
    · have h2 : ¬ (47 : UInt8) = c := fun e => h e.symm
      simp [h, h2]
theorem flat_nil : flat [] = [] := rfl
theorem text_flat {L : List Bytes} (h : L ≠ []) : text L = flat L := by unfold text; rw [if_neg h]; rfl
theorem flat_pos {L : List Bytes} (h : L ≠ []) : 0 < (flat L).length := by
  cases L with
  | nil => exact absurd rfl h
  | cons p q => unfold flat; rw [List.flatMap_cons]; simp
theorem last_more {o : List Bytes} {p : Bytes} (hp : (47 : UInt8) ∉ p) : lastSlash (flat (o ++ [p])) = ((flat o).length : Int) := by
  refine last_at ?_ ?_ ?_
  · rw [flat_more]; simp
  · rw [flat_more, List.getD_eq_getElem?_getD, List.getElem?_append_right (Nat.le_refl _)]; simp
  · rw [flat_more, List.drop_append, List.drop_of_length_le (Nat.le_succ _)]; simpa using hp
/-- Dir -/
theorem dir_real (l : Bytes) : (clean l).take (max 1 (lastSlash (clean l))).toNat = dirOf l := by
  have hp := fun p hm => (clean_parts_plain l p hm).1
  unfold dirOf
  rw [parts_clean] at hp ⊢
  show (text (cparts (parts l))).take (max 1 (lastSlash (text (cparts (parts l))))).toNat = _
  generalize cparts (parts l) = L at *
  rcases List.eq_nil_or_concat L with rfl | ⟨o, p, rfl⟩
  · rfl
  · rw [List.concat_eq_append] at *
    have h1 := (hp p (by simp)).1
    rw [text_flat (by simp), last_more h1, List.dropLast_concat]
    by_cases ho : o = []
    · subst ho
      rw [flat_more]
      rfl
    · have := flat_pos ho
      rw [text_flat ho, flat_more, show (max 1 ((flat o).length : Int)).toNat = (flat o).length by omega, List.take_left]
/-- Base -/
theorem base_real (l : Bytes) : (clean l).drop (lastSlash (clean l) + 1).toNat = base l := by
  have hp := fun p hm => (clean_parts_plain l p hm).1
  unfold base
  rw [parts_clean] at hp ⊢
  show (text (cparts (parts l))).drop (lastSlash (text (cparts (parts l))) + 1).toNat = _
  generalize cparts (parts l) = L at *
  rcases List.eq_nil_or_concat L with rfl | ⟨o, p, rfl⟩
  · rfl
  · rw [List.concat_eq_append] at *
    have h1 := (hp p (by simp)).1
    rw [text_flat (by simp), last_more h1, flat_more, show (((flat o).length : Int) + 1).toNat = (flat o).length + 1 by omega]
    rw [List.drop_append, List.drop_of_length_le (Nat.le_succ _)]
    simp
/-- Under -/
theorem parts_of_flat {L : List Bytes} (h : ∀ p ∈ L, Part p) : parts (flat L) = L := parts_flat L h
theorem suffix_root {D : List Bytes} (h : ∀ p ∈ D, Part p) : Lib.trimSuffix (text D) [47] = flat D := by
  unfold Lib.trimSuffix
  rcases List.eq_nil_or_concat D with rfl | ⟨o, p, rfl⟩
  · rfl
  · rw [List.concat_eq_append] at *
    have hp := h p (by simp)
    rw [text_flat (by simp), if_neg]
    intro hs
    have hs2 := List.isSuffixOf_iff_suffix.1 hs
    obtain ⟨t, ht⟩ := hs2
    rw [flat_more] at ht
    have e := congrArg List.getLast? ht
    obtain ⟨q, c, hq⟩ : ∃ q c, p = q ++ [c] := by
      rcases List.eq_nil_or_concat p with h0 | ⟨q, c, hq⟩
      · exact absurd h0 hp.2.1
      · exact ⟨q, c, by rw [hq, List.concat_eq_append]⟩
    have hc : (47 : UInt8) ≠ c := fun e => hp.1 (by rw [hq, ← e]; simp)
    have e3 : (47 :: (q ++ [c])).getLast? = some c := by rw [← List.cons_append, List.getLast?_append]; rfl
    rw [hq, List.getLast?_append, List.getLast?_append, e3] at e
    simp at e
    exact hc e
theorem slashed_flat : ∀ (L : List Bytes), L ≠ [] → flat L = 47 :: slashed L
  | [], h => absurd rfl h
  | [p], _ => by simp [flat, slashed]
  | p :: q :: r, _ => by
    have ih := slashed_flat (q :: r) (by simp)
    show 47 :: p ++ flat (q :: r) = _
    rw [ih]; rfl
theorem flat_append (A B : List Bytes) : flat (A ++ B) = flat A ++ flat B := List.flatMap_append
/-- what the program reckons, of clean texts -/
theorem under_real {s d : Bytes} (hs : clean s = s) (hd : clean d = d) :
    let t := Lib.trimSuffix d [47]
    let r := Lib.trimPrefix s t
    (Lib.hasPrefix s t = true ∧ (r = [] ∨ r.head? = some 47) → under s d = (Lib.trimPrefix r [47], true)) ∧
    (¬ (Lib.hasPrefix s t = true ∧ (r = [] ∨ r.head? = some 47)) → under s d = ([], false)) := by
  have hS : ∀ p ∈ parts s, Part p := parts_are s
  have hD : ∀ p ∈ parts d, Part p := parts_are d
  have es := text_parts hs
  have ed := text_parts hd
  intro t r
  have et : t = flat (parts d) := by
    show Lib.trimSuffix d [47] = _
    conv => lhs; rw [← ed]
    exact suffix_root hD
  have hu : isUnder s d = (parts d).isPrefixOf (parts s) := by simp [isUnder, hs, hd]
  -- of / itself
  by_cases e0 : parts s = []
  · have e1 : s = [47] := by rw [← es, e0]; rfl
    by_cases e2 : parts d = []
    · have et2 : t = [] := by rw [et, e2]; rfl
      have er : r = [47] := by show Lib.trimPrefix s t = _; rw [et2, e1]; rfl
      have h1 : Lib.hasPrefix s t = true := by rw [et2, e1]; rfl
      refine ⟨fun _ => ?_, fun h => absurd ⟨h1, Or.inr (by rw [er]; rfl)⟩ h⟩
      unfold under
      rw [hu, e0, e2, er]
      rfl
    · have h1 : ¬ Lib.hasPrefix s t = true := by
        rw [et, e1]
        intro h
        have h2 := (List.isPrefixOf_iff_prefix.1 h).length_le
        cases hc : parts d with
        | nil => exact e2 hc
        | cons p q =>
          rw [hc] at h2 hD
          have hp := hD p (by simp)
          have : 0 < p.length := List.length_pos_iff.2 hp.2.1
          have h3 : (flat (p :: q)).length = p.length + 1 + (flat q).length := by unfold flat; rw [List.flatMap_cons, List.length_append, List.length_cons]
          rw [h3, List.length_singleton] at h2
          omega
      refine ⟨fun h => absurd h.1 h1, fun _ => ?_⟩
      unfold under
      rw [hu, e0, if_neg]
      cases hc : parts d with
      | nil => exact absurd hc e2
      | cons p q => simp
  · have es2 : s = flat (parts s) := by conv => lhs; rw [← es, text_flat e0]
    by_cases hpre : (parts d).isPrefixOf (parts s) = true
    · obtain ⟨E, hE⟩ := List.isPrefixOf_iff_prefix.1 hpre
      have h1 : s = t ++ flat E := by rw [et, ← flat_append, hE]; exact es2
      have h2 : Lib.hasPrefix s t = true := List.isPrefixOf_iff_prefix.2 ⟨flat E, h1.symm⟩
      have er : r = flat E := by
        show Lib.trimPrefix s t = _
        unfold Lib.trimPrefix
        rw [if_pos h2]
        conv => lhs; rw [h1]
        exact List.drop_left
      have hE2 : (parts s).drop (parts d).length = E := by rw [← hE, List.drop_left]
      have hr : r = [] ∨ r.head? = some 47 := by
        rw [er]
        by_cases e : E = []
        · subst e; exact Or.inl rfl
        · right; rw [slashed_flat E e]; rfl
      refine ⟨fun _ => ?_, fun h => absurd ⟨h2, hr⟩ h⟩
      unfold under
      rw [hu, if_pos hpre, hE2, er]
      by_cases e : E = []
      · subst e; rfl
      · rw [slashed_flat E e]; rfl
    · refine ⟨fun h => ?_, fun _ => ?_⟩
      · exfalso
        obtain ⟨h1, h2⟩ := h
        obtain ⟨x, hx⟩ := List.isPrefixOf_iff_prefix.1 h1
        have er : r = x := by
          show Lib.trimPrefix s t = _
          unfold Lib.trimPrefix
          rw [if_pos h1]
          conv => lhs; rw [← hx]
          exact List.drop_left
        apply hpre
        rw [List.isPrefixOf_iff_prefix]
        rw [er] at h2
        rcases h2 with h2 | h2
        · rw [h2, List.append_nil, et] at hx
          have := congrArg parts hx
          rw [parts_of_flat hD] at this
          rw [← this]
          exact List.prefix_refl _
        · cases x with
          | nil => simp at h2
          | cons c y =>
            simp at h2
            subst h2
            have := congrArg parts hx
            rw [parts_slash, et, parts_of_flat hD] at this
            exact ⟨_, this⟩
      · unfold under
        rw [hu, if_neg hpre]
theorem clean_pos (l : Bytes) : 1 ≤ (clean l).length := by
  unfold clean
  by_cases h : cparts (parts l) = []
  · rw [h]; exact Nat.le_refl _
  · rw [text_flat h]; exact flat_pos h
theorem last_lt {l : Bytes} (h : 1 ≤ l.length) : -1 ≤ lastSlash l ∧ lastSlash l + 1 ≤ l.length := by unfold lastSlash; split <;> omega
end Go.Proofs.YtmpjjfhmkfchfaaDoor.W04
/-
  Layer 4 (path), walks: what the program's isClean, Is, Join, Dir, Base, Under and Within return at texts of less than 2^48 bytes (Is: of at most 2^31); nothing that was there is changed.
-/
namespace Go.Proofs.YtmpjjfhmkfchfaaDoor.W04
set_option maxRecDepth 100000
open Go Go.RowKit Go.Proofs.YtmpjjfhmkfchfaaDoor.Strs Go.Proofs.YtmpjjfhmkfchfaaDoor.M04
open Go.Proofs.YtmpjjfhmkfchfaaDoor.M03 (check)
open Go.Proofs.YtmpjjfhmkfchfaaDoor.Kit (ret_str ret_bool ret_int mk_of mk_bytes ba_ext below_draws on take_bytes drop_bytes cat_bytes bytes_nil bytes_cons list_full list_ne list_none list_nil)

theorem same_bytes (a b : ByteArray) : (a.toList == b.toList) = decide (a.data.toList = b.data.toList) := by
  rw [Lib.toList_data, Lib.toList_data]
  by_cases h : a.data.toList = b.data.toList
  · simp [h]
  · rw [decide_eq_false h]
    exact beq_eq_false_iff_ne.2 h
theorem isClean_any (s : ByteArray) (hs : s.size < 281474976710656) (w : World) : Calls Tryd.prog 40 #[.string s] w fun e w' => e = .returned (.bool (decide (clean s.data.toList = s.data.toList))) ∧ Below w.heap.size w w' := by
  obtain ⟨c, hc⟩ := text_of (clean s.data.toList)
  have HC := Lib.hid (clean_at s c hc (by omega))
  have HE := Lib.hid (same_bytes c s)
  rw [hc] at HE
  clear hc
  generalize decide (clean s.data.toList = s.data.toList) = r at *
  go_enter Tryd.func40, Tryd.ntmps40
  go_wp2_with fail
  refine (HC.out _).mono ?_
  rintro e w1 ⟨rfl, hb⟩
  go_wp2_with fail
  go_ret
  exact ⟨ret_bool HE.out, hb⟩
theorem all_parts (s : ByteArray) : (partsOf s).all rightOf = (parts s.data.toList).all (fun p => decide (check p = 0)) := by
  unfold partsOf
  rw [List.all_map]
  rfl
theorem is_any (s : ByteArray) (hs : s.size ≤ 2147483648) (w : World) : Calls Tryd.prog 17 #[.string s] w fun e w' => e = .returned (.bool (isPath s.data.toList)) ∧ Below w.heap.size w w' := by
  have HC := Lib.hid (isClean_any s (by omega))
  have HO := Lib.hid (hasOnly_right s hs)
  have HE := Lib.hid (isPath_real s.data.toList)
  rw [← all_parts, ← Lib.size_eq] at HE
  generalize isPath s.data.toList = r at *
  generalize decide (clean s.data.toList = s.data.toList) = a at *
  generalize (partsOf s).all rightOf = b at *
  by_cases hl : (s.size : Int) ≤ 1024
  · rw [decide_eq_true (by omega), Bool.true_and] at HE
    cases a with
    | true =>
      go_enter Tryd.func17, Tryd.ntmps17
      go_wp2_with fail
      refine (HC.out _).mono ?_
      rintro e w1 ⟨rfl, hb⟩
      go_wp2_with fail
      refine (HO.out _).mono ?_
      rintro e w2 ⟨rfl, hb2⟩
      go_wp2_with fail
      go_ret
      exact ⟨ret_bool (by rw [HE.out]; rfl), on hb hb2⟩
    | false =>
      go_enter Tryd.func17, Tryd.ntmps17
      go_wp2_with fail
      refine (HC.out _).mono ?_
      rintro e w1 ⟨rfl, hb⟩
      go_wp2_with fail
      go_ret
      exact ⟨ret_bool (by rw [HE.out]; rfl), hb⟩
  · rw [decide_eq_false (by omega), Bool.false_and, Bool.false_and] at HE
    go_enter Tryd.func17, Tryd.ntmps17
    go_wp2_with fail
    go_ret
    exact ⟨ret_bool HE.out.symm, Below.refl _ _⟩
theorem under_flag (s d : Bytes) : (under s d).2 = isUnder s d := by
  unfold under
  split
  · rename_i h; exact h.symm
  · rename_i h; simp at h; exact h.symm
theorem not_clean_under {s d : Bytes} (h : ¬ (clean s = s ∧ clean d = d)) : under s d = ([], false) := by
  unfold under isUnder
  rw [if_neg]
  intro e
  simp only [Bool.and_eq_true, decide_eq_true_eq] at e
  exact h e.1
theorem head_byte {r : ByteArray} (h : 0 < r.size) : (r.data.toList = [] ∨ r.data.toList.head? = some 47) ↔ (r[0].toNat : Int) = 47 := by
  rw [bytes_cons h]
  constructor
  · rintro (e | e)
    · cases e
    · simp at e
      rw [e]; rfl
  · intro e
    right
    have : r[0] = 47 := Kit.byte_eq (d := 47) e
    simp [this]
theorem ret_text_bool {a b : ByteArray} (h : a = b) (x : Bool) : Ending.returned (.tuple #[.string a, .bool x]) = .returned (.tuple #[.string b, .bool x]) := by rw [h]
end Go.Proofs.YtmpjjfhmkfchfaaDoor.W04
/-
  Go's slices.Reverse on a slice of texts, in words of rows that a call owns: out of the laid contracts. No condition but those that the theorem bears.
-/
namespace Go.Proofs.YtmpjjfhmkfchfaaDoor.Strs
open Go Go.RowKit Go.Sort

theorem reverse_own (v : Value) (L : List (List UInt8)) (n base : Nat) (w : World) (h : w.ownsRow base 9 1 v n (L.map strV)) (hn : L.length ≤ 8796093022208) :
    Calls Tryd.prog 34 #[v] w fun e w' => e = .returned (.tuple #[]) ∧ w'.ownsRow base 9 1 v n (L.reverse.map strV) ∧ Below base w w' := by
  have hl : L.length = n := by have := h.1; simpa using this
  rcases h.2 with ⟨rfl, h0⟩ | ⟨g, cap, cur, rfl, hg, hh, h1, h2, h3, h4⟩
  · subst h0
    have hL : L = [] := List.length_eq_zero_iff.1 hl
    subst hL
    refine (Tryd.slices_Reverse_string_empty none 0 w).mono ?_
    rintro e w' ⟨rfl, rfl⟩
    exact ⟨rfl, by simpa using h, Below.refl _ _⟩
  · obtain ⟨g', cap', e, hg', hlt, -, -, -, hH⟩ := Lib.holds_of_ownsRow (enc := encStr) h (by simp)
    injection e with e1 e2 e3
    injection e1 with e1
    injection e1 with e1
    subst e1 e3
    subst hl
    refine (Tryd.slices_Reverse_string g 0 cap L w hH (by omega)).mono ?_
    rintro e w' ⟨rfl, k, rfl⟩
    have ho := Lib.ownsRow_putRow (enc := encStr) (q := k) (k := L.length) (ys := L.reverse) h (by simp) (Nat.le_refl _)
    rw [List.take_of_length_le (by simp)] at ho
    exact ⟨rfl, ho, Lib.below_putRow (Below.refl base w) hg⟩
end Go.Proofs.YtmpjjfhmkfchfaaDoor.Strs
/-
  Go's strings.Join of a slice of texts with a slash between, in words of texts: out of the laid contracts. The conditions stand in the statement.
-/
namespace Go.Proofs.YtmpjjfhmkfchfaaDoor.Strs
open Go Go.RowKit Go.Proofs.YtmpjjfhmkfchfaaDoor.M04
open Go.Proofs.YtmpjjfhmkfchfaaDoor.Kit (mk_bytes mk_of ret_str on)

theorem join_slashed : ∀ L : List Bytes, Lib.join L [47] = slashed L
  | [] => rfl
  | [p] => by rw [Lib.join_one]; rfl
  | p :: q :: r => by
    have h := join_slashed (q :: r)
    rw [Lib.join_cons] at h ⊢
    show p ++ Lib.joinTail [47] (q :: r) = p ++ 47 :: slashed (q :: r)
    rw [← h]
    simp [Lib.joinTail]
theorem datas_map (L : List Bytes) : (L.map fun l => (⟨l.toArray⟩ : ByteArray)).map (·.data.toList) = L := by
  rw [List.map_map]
  exact List.map_id _
theorem join_texts (v : Value) (L : List Bytes) (d : ByteArray) (w : World) (h : Texts w.heap.size w v L) (hd : d.data.toList = slashed L) (hn : L.length ≤ 140737488355328) (hl : (slashed L).length ≤ 140737488355328) :
    Calls Tryd.prog 35 #[v, .string ⟨#[47]⟩] w fun e w' => e = .returned (.string d) ∧ Below w.heap.size w w' := by
  obtain ⟨A, c, rfl, h1, h2, h3⟩ := h
  rcases Nat.eq_zero_or_pos L.length with h0 | h0
  · obtain rfl : L = [] := List.length_eq_zero_iff.1 h0
    refine (Tryd.strings_Join_none A c ⟨#[47]⟩ w).mono ?_
    rintro e w' ⟨rfl, rfl⟩
    exact ⟨ret_str (Kit.ba_ext hd.symm), Below.refl _ _⟩
  · obtain ⟨ad, rfl, hb, hc⟩ := h3 h0
    obtain ⟨b, off, spot⟩ := ad
    have hspot : spot = none := by simpa [Addr.add] using World.cell?_spot (hc 0 h0)
    subst hspot
    have hk := Tryd.strings_Join b off c (L.map fun l => (⟨l.toArray⟩ : ByteArray)) ⟨#[47]⟩ w (by
      intro j x hx
      rw [List.getElem?_map] at hx
      obtain ⟨l, hl, rfl⟩ := Option.map_eq_some_iff.1 hx
      have hj : j < L.length := (List.getElem?_eq_some_iff.1 hl).1
      have := hc j hj
      rw [Addr.add_lit, List.getD_eq_getElem?_getD, hl] at this
      exact this) hb (by rw [List.length_map]; exact hn) (by rw [List.length_map]; exact h1) (by rw [datas_map, show (⟨#[47]⟩ : ByteArray).data.toList = [47] from rfl, join_slashed]; exact hl)
    rw [datas_map, show (⟨#[47]⟩ : ByteArray).data.toList = [47] from rfl, join_slashed, List.length_map] at hk
    refine hk.mono ?_
    rintro e w' ⟨rfl, hb2⟩
    exact ⟨ret_str (mk_of hd), hb2⟩
/-- nothing appended: a slice without an address, whatever its room -/
theorem run_append_nothing {P : Program} {w : World} (base : Nat) (t ty e : TypeId) (i : TypeInfo) (size : Nat) (ht : P.underlying t = some (.slice e)) (hi : P.info? e = some i)
    (v : Value) (n c : Nat) (xs : List Value) (hown : w.ownsRow base e size v n xs) :
    (Builtin.append_ #[t, t] ty #[v, .slice none 0 c]).run P w = .ok v w := by
  rcases hown.2 with ⟨rfl, rfl⟩ | ⟨g, cap, cur, rfl, _, _, hnc, _⟩
  · simp [Builtin.append_, run_underlying ht, sizeOf, typeInfo, hi, Builtin.lenOf, Builtin.firstCells]
  · simp [Builtin.append_, run_underlying ht, sizeOf, typeInfo, hi, Builtin.lenOf, Builtin.firstCells, hnc, storeCells]
theorem wpList_append_nothing {P : Program} {w : World} {ops : Array Oper} {rest : List Oper} {o : Oper} {a : Act} {Q : Exit → Act → World → Prop} (hgd : o.guard = none) (s x : Operand) (t : TypeId)
    (ho : o.op = .call { callee := .builtin .append, args := #[s, x], argTypes := #[t, t] })
    (base : Nat) (e : TypeId) (i : TypeInfo) (size : Nat) (ht : P.underlying t = some (.slice e)) (hi : P.info? e = some i)
    (v : Value) (n c : Nat) (xs : List Value) (hs : a.eval s = v) (hown : w.ownsRow base e size v n xs) (hx : a.eval x = .slice none 0 c)
    (h : wpList P ops Q rest (a.put o.dst v) w) : wpList P ops Q (o :: rest) a w := by
  refine wpList_plain hgd fun K hK => ?_
  have hrun := run_append_nothing (P := P) (w := w) base t o.type e i size ht hi v n c xs hown
  unfold Oper.wp
  simp [execOp, ho, resolve, invoke, builtin, hs, hx, hrun, Result.andThen]
  exact hK _ _ h
end Go.Proofs.YtmpjjfhmkfchfaaDoor.Strs
/-
  Layer 8 (seek): Straight: whether a path leads by directories alone; nameOf, Real: a node's own path; nothing that was there is changed. The conditions stand in the statement.
-/
namespace Go.Proofs.YtmpjjfhmkfchfaaDoor.W08
set_option maxRecDepth 100000
open Go Go.RowKit Go.Proofs.YtmpjjfhmkfchfaaDoor.Strs Go.Proofs.YtmpjjfhmkfchfaaDoor.Recs Go.Proofs.YtmpjjfhmkfchfaaDoor.Range
open Go.Proofs.YtmpjjfhmkfchfaaDoor.M07 (Tr Nd nodeAt inDir Right at_some height upOf)
open Go.Proofs.YtmpjjfhmkfchfaaDoor.M08 Go.Proofs.YtmpjjfhmkfchfaaDoor.M04
open Go.Proofs.YtmpjjfhmkfchfaaDoor.M03 (check)
open Go.Proofs.YtmpjjfhmkfchfaaDoor.W07 (Small Trees trees listed)
open Go.Proofs.YtmpjjfhmkfchfaaDoor.Kit (ret_str ret_bool ret_int mk_of mk_bytes ba_ext below_draws on list_full list_ne list_none list_nil bytes_nil bytes_ne cat_bytes)

theorem rep_form {F : Nat → Prop} {w : World} {v : Value} {t : Tr} (P : W07.Rep F w v t) : ∃ sb, v = .pointer (some ⟨sb, 0, none⟩) := by
  obtain ⟨-, sb, mb, lv, rfl, -⟩ := P
  exact ⟨sb, rfl⟩
set_option maxHeartbeats 4000000 in
theorem straight_any {F : Nat → Prop} {w : World} {v : Value} {t : Tr} (P : W07.Rep F w v t) (G : Good t) (p : ByteArray) (hp : p.size ≤ 1048576) : Calls Tryd.prog 15 #[v, .string p] w fun e w' => e = .returned (.bool (straight t p.data.toList)) ∧ Below w.heap.size w w' := by
  have HP := Lib.hid P
  have HG := Lib.hid G
  have HR := Lib.hid (trees.right P)
  obtain ⟨sb, rfl⟩ := rep_form P
  have HIS := Lib.hid (fun w' => W04.is_any p (by omega) w')
  have HPT := Lib.hid (fun w' => W04.parts_any p (by omega) w')
  have HX : Hid (straight t p.data.toList = (isPath p.data.toList && dirs t 1 (parts p.data.toList))) := rfl
  generalize straight t p.data.toList = R at *
  clear P G
  cases hi : isPath p.data.toList with
  | false =>
    have HX : Hid (R = false) := by have := HX.out; rw [hi, Bool.false_and] at this; exact this
    rw [hi] at HIS
    clear hi
    go_enter Tryd.func15, Tryd.ntmps15
    go_wp2_with fail
    refine (HIS.out _).mono ?_
    rintro e w1 ⟨rfl, hb⟩
    go_wp2_with fail
    go_ret
    exact ⟨ret_bool HX.out.symm, hb⟩
  | true =>
    have HX : Hid (R = dirs t 1 (parts p.data.toList)) := by have := HX.out; rw [hi, Bool.true_and] at this; exact this
    rw [hi] at HIS
    clear hi
    generalize parts p.data.toList = PL at *
    go_enter Tryd.func15, Tryd.ntmps15
    go_wp2_with fail
    refine (HIS.out _).mono ?_
    rintro e w1 ⟨rfl, hb⟩
    have B1 := Lib.hid hb
    clear hb
    go_wp2_with fail
    refine (HPT.out _).mono ?_
    rintro e w3 ⟨v3, rfl, ht, hb⟩
    have B3 := Lib.hid (on B1.out hb)
    have T3 := Lib.hid ht
    clear hb ht B1
    obtain ⟨A, c, rfl, hA1, hA2⟩ := T3.out.form
    unfold maxLen at hA2
    generalize hm : PL.length = m at *
    have HM := Lib.hid hm
    clear hm
    go_wp2_with fail
    go_loopw [5, 18] (fun u5 u18 wr => ∃ (a : Int) (k : Nat), k ≤ m ∧ u5 = .int .i64 a ∧ u18 = .int .i64 k ∧ Hid (dirs t 1 PL = dirs t a (PL.drop k)) ∧ Hid (Below w3.heap.size w3 wr)) (fun _ u18 _ => m - (intOf u18).toNat)
    case atStart => exact ⟨1, 0, Nat.zero_le _, rfl, rfl, rfl, Below.refl _ _⟩
    case round =>
      obtain ⟨a, k, hk, rfl, rfl, hd, hb⟩ := hrel
      by_cases hlt : k < m
      · have hk2 : k < PL.length := by rw [HM.out]; exact hlt
        obtain ⟨b, o, q, rfl, hbl, hc, hq⟩ := texts_flat (T3.out.below hb.out) hlt
        have HBW := Lib.hid (on B3.out hb.out)
        have HLS := Lib.hid (trees.list (trees.below HP.out HBW.out) HG.out.small a)
        have HNR := Lib.hid (fun (w' : World) (u : Value) (hu : W06.Ents w'.heap.size w' u (listed t a)) => near_any HR.out HG.out.small a q hu)
        rw [hq] at HNR
        have HDI := Lib.hid (fun h => hd.out.trans (dirs_in (t := t) (a := a) hk2 h))
        have HDO := Lib.hid (fun h => hd.out.trans (dirs_out (t := t) (a := a) hk2 h))
        have HK2 := Lib.hid (fun (w' : World) (hb2 : Below w.heap.size w w') => trees.kind (trees.below HP.out hb2) HG.out.small (inDir t.L a (PL.getD k [])))
        clear hq hd hbl
        generalize inDir t.L a (PL.getD k []) = n2 at *
        by_cases hkn : (nodeAt t.L n2).kind = 1
        · have tk : ((nodeAt t.L n2).kind != 1) = false := by simp [hkn]
          have HDI := Lib.hid (HDI.out hkn)
          clear HDO hkn
          go_wp2_with fail
          refine HLS.out.mono ?_
          rintro e w4 ⟨u4, rfl, hu4, hb4⟩
          go_wp2_with fail
          refine (HNR.out w4 u4 hu4).mono ?_
          rintro e w5 ⟨rfl, hb5⟩
          have B5 := Lib.hid (on hb4 hb5)
          go_wp2_with fail
          refine (HK2.out _ (on HBW.out B5.out)).mono ?_
          rintro e w6 ⟨rfl, hb6⟩
          go_wp2_with fail
          go_round
          case rel => exact ⟨n2, k + 1, by omega, rfl, by go_num, HDI.out, on hb.out (on B5.out hb6)⟩
          case measure => simp [intOf]; omega
        · have tk : ((nodeAt t.L n2).kind != 1) = true := by simpa using hkn
          have HDO := Lib.hid (HDO.out hkn)
          clear HDI hkn
          go_wp2_with fail
          refine HLS.out.mono ?_
          rintro e w4 ⟨u4, rfl, hu4, hb4⟩
          go_wp2_with fail
          refine (HNR.out w4 u4 hu4).mono ?_
          rintro e w5 ⟨rfl, hb5⟩
          have B5 := Lib.hid (on HBW.out (on hb4 hb5))
          go_wp2_with fail
          refine (HK2.out _ B5.out).mono ?_
          rintro e w6 ⟨rfl, hb6⟩
          go_wp2_with fail
          go_ret
          exact ⟨ret_bool (by rw [HX.out, HDO.out]), on B5.out hb6⟩
      · have hz : PL.drop k = [] := List.drop_of_length_le (by rw [HM.out]; omega)
        have HE := Lib.hid hd.out
        rw [hz] at HE
        clear hz hd
        go_wp2_with fail
        go_ret
        exact ⟨ret_bool (by rw [HX.out, HE.out]; rfl), on B3.out hb.out⟩
/-- which entry of a directory is a node's own -/
theorem own_at {t : Tr} (h : Right t) {n : Int} (hk : (nodeAt t.L n).kind ≠ 0) (h1 : n ≠ 1) : ∃ i : Nat, (listed t (nodeAt t.L n).up)[i]? = some ((nodeAt t.L n).name, n) ∧ ∀ (j : Nat) (e : M06.Ent), (listed t (nodeAt t.L n).up)[j]? = some e → j ≠ i → e.2 ≠ n := by
  obtain ⟨A, B, e, hA, hB⟩ := own_entry h hk h1
  rw [e]
  refine ⟨A.length, by simp, fun j x hj hne => ?_⟩
  rcases Nat.lt_or_ge j A.length with q | q
  · rw [List.getElem?_append_left q] at hj
    exact hA _ (List.mem_of_getElem? hj)
  · rw [List.getElem?_append_right q] at hj
    obtain ⟨m, hm⟩ : ∃ m, j - A.length = m + 1 := ⟨j - A.length - 1, by omega⟩
    rw [hm, List.getElem?_cons_succ] at hj
    exact hB _ (List.mem_of_getElem? hj)
/-- an own row stays -/
theorem own_on {w w' : World} {base : Nat} {e : TypeId} {size n : Nat} {v : Value} {xs : List Value} (h : w.ownsRow base e size v n xs) (hb : Below w.heap.size w w') : w'.ownsRow base e size v n xs := (Turns.new (T := fun _ => False) hb).row h (fun _ _ h => h)
/-- the path of the names, as it is put together -/
theorem text_slashed (L : List Bytes) : text L = 47 :: slashed L := by
  by_cases h : L = []
  · subst h; rfl
  · rw [← W04.slashed_flat L h]
    unfold text
    rw [if_neg h]; rfl
set_option maxHeartbeats 4000000 in
theorem nameOf_any {F : Nat → Prop} {w : World} {v : Value} {t : Tr} (P : W07.Rep F w v t) (G : Good t) (n : Int) (hk : (nodeAt t.L n).kind ≠ 0) (h1 : n ≠ 1) (nm : ByteArray) (hnl : nm.data.toList = (nodeAt t.L n).name) : Calls Tryd.prog 33 #[v, .int .i64 n] w fun e w' => e = .returned (.string nm) ∧ Below w.heap.size w w' := by
  have HP := Lib.hid P
  have HG := Lib.hid G
  have HR := Lib.hid (trees.right P)
  obtain ⟨sb, rfl⟩ := rep_form P
  have HUP := Lib.hid (trees.up P G.small n)
  have HLS := Lib.hid (fun (w' : World) (hb : Below w.heap.size w w') => trees.list (trees.below P hb) G.small (nodeAt t.L n).up)
  obtain ⟨i, hown, hoth⟩ := own_at HR.out hk h1
  rw [← hnl] at hown
  have HLL := Lib.hid (listed_len HG.out.small (nodeAt t.L n).up)
  generalize listed t (nodeAt t.L n).up = LS at *
  generalize hup0 : (nodeAt t.L n).up = uk at *
  have HOW := Lib.hid hown
  have HOT := Lib.hid hoth
  clear hk h1 hown hoth hnl P G hup0
  go_enter Tryd.func33, Tryd.ntmps33
  go_wp2_with fail
  refine HUP.out.mono ?_
  rintro e w2 ⟨rfl, hb2⟩
  have B2 := Lib.hid hb2
  clear hb2
  go_wp2_with fail
  refine (HLS.out _ B2.out).mono ?_
  rintro e w3 ⟨u3, rfl, hu3, hb3⟩
  have B3 := Lib.hid (on B2.out hb3)
  have E3 := Lib.hid hu3
  obtain ⟨A3, c3, rfl, hc2, hc3⟩ := hu3.form
  unfold maxLen at hc3
  clear hu3 hb3 B2
  generalize hm : LS.length = m at *
  have HM := Lib.hid hm
  clear hm
  have hil : i < m := by
    have := HOW.out
    rw [← HM.out]
    exact (List.getElem?_eq_some_iff.1 this).1
  go_wp2_with fail
  go_loopw [13] (fun u13 wr => ∃ (j : Nat), j ≤ i ∧ u13 = .int .i64 j ∧ Hid (Below w3.heap.size w3 wr)) (fun u13 _ => m - (intOf u13).toNat)
  case atStart => exact ⟨0, Nat.zero_le _, rfl, Below.refl _ _⟩
  case round =>
    obtain ⟨j, hj, rfl, hb4⟩ := hrel
    have hlt : j < m := by omega
    obtain ⟨b, o, hl1, s, rfl, hbl, hs, hc0, hc1⟩ := W06.Ents.at_ (E3.out.below hb4.out) hlt
    have HA4 := Lib.hid (fun (o : Obj) => hb4.out.alloc hb4.out.size o)
    by_cases hji : j = i
    · have he : LS[j] = (nm.data.toList, n) := by
        have := HOW.out
        rw [← hji, List.getElem?_eq_getElem hl1] at this
        exact Option.some.inj this
      obtain rfl : s = nm := ba_ext (by rw [hs, he])
      rw [he] at hc1
      have tkk : (n == n) = true := by simp
      clear hs he hji hbl
      go_wp2_with fail
      go_ret
      exact ⟨rfl, on B3.out (HA4.out _)⟩
    · have tkk : ((LS[j]).2 == n) = false := by
        rw [beq_eq_false_iff_ne]
        exact HOT.out j _ (List.getElem?_eq_getElem hl1) hji
      have hj2 : j + 1 ≤ i := by omega
      clear hs hji hbl
      go_wp2_with fail
      go_roundw
      case rel => exact ⟨j + 1, hj2, by go_num, HA4.out _⟩
      case measure => simp [intOf]; omega
theorem slashed_bound {L : List Bytes} : (slashed L).length ≤ (flatN L).length := by
  by_cases h : L = []
  · subst h; exact Nat.zero_le _
  · have : flatN L = 47 :: slashed L := W04.slashed_flat L h
    rw [this, List.length_cons]; omega
set_option maxHeartbeats 8000000 in
theorem real_any {F : Nat → Prop} {w : World} {v : Value} {t : Tr} (P : W07.Rep F w v t) (G : Good t) (n : Int) : Calls Tryd.prog 13 #[v, .int .i64 n] w fun e w' => e = .returned (.tuple #[.string ⟨(real t n).1.toArray⟩, .bool (real t n).2]) ∧ Below w.heap.size w w' := by
  obtain ⟨i0, hi, hz0, hz1, hz2⟩ := info_parts text_info
  have HI := Lib.hid hi
  clear hi
  have HP := Lib.hid P
  have HG := Lib.hid G
  have HR := Lib.hid (trees.right P)
  obtain ⟨sb, rfl⟩ := rep_form P
  have HK0 := Lib.hid (trees.kind P G.small n)
  by_cases hk : (nodeAt t.L n).kind = 0
  · have HX : Hid (real t n = ([], false)) := if_pos hk
    generalize real t n = R at *
    rw [hk] at HK0
    clear hk P G
    go_enter Tryd.func13, Tryd.ntmps13
    go_wp2_with fail
    refine HK0.out.mono ?_
    rintro e w2 ⟨rfl, hb⟩
    go_wp2_with fail
    go_ret2
    exact ⟨ret_real (a := ⟨#[]⟩) HX.out, hb⟩
  · have HX : Hid (real t n = (text (names t n), true)) := if_neg hk
    have tk : ((nodeAt t.L n).kind == 0) = false := by simpa using hk
    have HB := Lib.hid (names_bound HR.out HG.out.named hk)
    have HL := Lib.hid HG.out.small.1
    have HKN := Lib.hid hk
    have HNL : Hid ((names t n).length ≤ 1048576) := by
      have h1 := names_len HR.out _ hk rfl
      have h2 := height_le HR.out hk
      have h3 := HL.out
      show _ ≤ 1048576
      omega
    clear hk P G
    generalize real t n = R at *
    go_enter Tryd.func13, Tryd.ntmps13
    go_wp2_with fail
    refine HK0.out.mono ?_
    rintro e w1 ⟨rfl, hb⟩
    have B1 := Lib.hid hb
    clear hb
    go_wp2_with fail
    go_loopw [1, 6] (fun u1 u6 wr => ∃ (k : Int) (acc : List Bytes), u1 = .int .i64 k ∧ Hid (wr.ownsRow w.heap.size 9 1 u6 acc.length (acc.map strV)) ∧ Hid ((nodeAt t.L k).kind ≠ 0) ∧ Hid (names t n = names t k ++ acc.reverse) ∧ Hid (Below w.heap.size w wr)) (fun u1 _ _ => height t.L (intOf u1))
    case atStart => exact ⟨n, [], rfl, World.ownsRow_nil _ _ _ _, HKN.out, by show _ = _; simp, B1.out⟩
    case round =>
      obtain ⟨k, acc, rfl, hown, hk, hf, hb⟩ := hrel
      have hal : acc.length ≤ 1048576 := by
        have h1 := HNL.out
        rw [hf.out, List.length_append, List.length_reverse] at h1
        omega
      by_cases k1 : k = 1
      · subst k1
        have HF : Hid (names t n = acc.reverse) := by
          have := hf.out
          rw [names_root] at this
          exact this
        have HREV := Lib.hid (reverse_own _ acc _ _ wr hown.out (by omega))
        have hsl : (slashed acc.reverse).length ≤ 1099511627776 := by
          rw [← HF.out]
          have h1 := slashed_bound (L := names t n)
          have h2 := HB.out
          have h3 := HL.out
          omega
        obtain ⟨d, hd⟩ : ∃ d : ByteArray, d.data.toList = slashed acc.reverse := ⟨⟨(slashed acc.reverse).toArray⟩, rfl⟩
        have HJ := Lib.hid (fun (u : Value) (w' : World) (h : Texts w'.heap.size w' u acc.reverse) => join_texts u acc.reverse d w' h hd (by rw [List.length_reverse]; omega) (by omega))
        have hds : d.size ≤ 1099511627776 := by rw [Lib.size_eq, hd]; exact hsl
        have HT : Hid (text (names t n) = 47 :: d.data.toList) := by
          show _ = _
          rw [text_slashed, HF.out, hd]
        clear hf hsl hd
        go_wp2_with fail
        refine HREV.out.mono ?_
        rintro e w2 ⟨rfl, ho2, hb2⟩
        have hl2 : acc.length = acc.reverse.length := List.length_reverse.symm
        have T2 := Lib.hid (Texts.of_own (L := acc.reverse) (by exact ho2))
        have B2 : Hid (Below w.heap.size w w2) := hb.out.trans hb2
        clear ho2 hb2 hl2
        go_wp2_with fail
        refine (HJ.out _ _ T2.out).mono ?_
        rintro e w3 ⟨rfl, hb3⟩
        have B3 := Lib.hid (on B2.out hb3)
        clear hb3
        go_wp2_with fail
        go_ret2
        have hfin : R = ((⟨#[47]⟩ ++ d : ByteArray).data.toList, true) := by rw [HX.out, HT.out, cat_bytes]; rfl
        exact ⟨ret_real hfin, B3.out⟩
      · have tn : (k != 1) = true := by simpa using k1
        have HN1 := Lib.hid (names_next HR.out hk.out k1)
        have HH := Lib.hid (height_next (HR.out.reach hk.out) k1)
        have hup := HR.out.up _ (at_some hk.out).1
        have HUK : Hid ((nodeAt t.L (nodeAt t.L k).up).kind ≠ 0) := by show _ ≠ _; rw [hup]; decide
        obtain ⟨nm, hnl⟩ : ∃ nm : ByteArray, nm.data.toList = (nodeAt t.L k).name := ⟨⟨(nodeAt t.L k).name.toArray⟩, rfl⟩
        have HNO := Lib.hid (nameOf_any (W07.trees.below HP.out hb.out) HG.out k hk.out k1 nm hnl)
        have HUP := Lib.hid (fun (w' : World) (hb : Below w.heap.size w w') => trees.up (trees.below HP.out hb) HG.out.small k)
        have HACC : Hid (names t n = names t (nodeAt t.L k).up ++ (acc ++ [nm.data.toList]).reverse) := by
          show _ = _
          rw [hf.out, HN1.out, List.reverse_append, hnl]; simp
        have HM : Hid (∀ uk : Int, (nodeAt t.L k).up = uk → height t.L uk < height t.L k) := fun uk e => by
          have e2 : upOf t.L k = uk := e
          rw [HH.out, e2]
          exact Nat.lt_succ_self _
        generalize hup0 : (nodeAt t.L k).up = uk at *
        have HM := Lib.hid (HM.out uk rfl)
        clear hup k1 HN1 HH hf hnl
        go_wp2_with fail
        refine HNO.out.mono ?_
        rintro e w2 ⟨rfl, hb2⟩
        have B2 := Lib.hid (on hb.out hb2)
        have O2 : Hid (w2.ownsRow w.heap.size 9 1 u6 acc.length (acc.map strV)) := own_on hown.out hb2
        have hsz := B2.out.size
        clear hb2
        go_wp2_with (at_builtin; refine wpList_append_own _ rfl (.tmp 16) (.tmp 20) 60 rfl w.heap.size 9 i0 (.string ⟨#[]⟩) 1 16 Tryd.underlying60 HI.out hz0 hz1 hz2 rfl (by decide) _ _ _ rfl (O2.out.alloc _) ⟨_, 0, none⟩ 1 1 [.string nm] rfl rfl (cell_one_new _ _ _) (by intro u hu; simp at hu; subst hu; rfl) (by unfold maxLen; omega) (by omega) (by simp; omega) ?_; intro v1 w3 hown1 hgrow1 _)
        have B3 := Lib.hid (below_more B2.out O2.out hgrow1)
        have O3 := Lib.hid (own_more hown1)
        clear hown1 hgrow1
        go_wp2_with fail
        refine (HUP.out _ B3.out).mono ?_
        rintro e w4 ⟨rfl, hb4⟩
        have O4 : Hid (w4.ownsRow w.heap.size 9 1 v1 (acc ++ [nm.data.toList]).length ((acc ++ [nm.data.toList]).map strV)) := own_on O3.out hb4
        have B4 := Lib.hid (on B3.out hb4)
        clear hb4
        go_wp2_with fail
        go_roundw
        case rel => exact ⟨uk, acc ++ [nm.data.toList], rfl, O4.out, HUK.out, HACC.out, B4.out⟩
        case measure => exact HM.out
end Go.Proofs.YtmpjjfhmkfchfaaDoor.W08
