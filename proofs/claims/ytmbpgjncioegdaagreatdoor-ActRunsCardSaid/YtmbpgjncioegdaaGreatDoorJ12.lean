/-
  Texts joined, in build order, each with its own comment and its own conditions: W04Iter, W04Buf, W04Use, W04Walk, W04CleanCode, W03Rune, W03May, W03Check, W04IsCode, W04Real.
-/
import Derived.Test.YtmbpgjncioegdaaGreatDoorJ11
import Derived.RangeFuncBox
import Derived.Test.YtmbpgjncioegdaaGreatDoorJ02
import Derived.Room.AppendFits
import Derived.OwnWalkIn
import Derived.Test.YtmbpgjncioegdaaGreatDoorJ09
import Derived.Maps.AppendAt
import Derived.Deep.Onto
import Derived.Laws.RangeAny
import Derived.LoopTactic
/-
  Layer 4 (path), walks: the program's iterator of a path's parts, as a contract of an iterator: it hands out the text's parts, in order; at every text of at most 2^40 bytes.
-/
namespace Go.Proofs.YtmbpgjncioegdaaGreatDoor.W04
set_option maxRecDepth 100000
open Go Go.RowKit Go.Shelf Go.Proofs.YtmbpgjncioegdaaGreatDoor.Range Go.Proofs.YtmbpgjncioegdaaGreatDoor.M04
open Go.Proofs.YtmbpgjncioegdaaGreatDoor.Kit (ret_str ret_bool ret_int mk_of mk_bytes below_draws on)
attribute [local go_sem] Oper.semAt_some

theorem parts_at (s : ByteArray) (w : World) : Calls Tryz.prog 123 #[.string s] w fun e w' => e = .returned (.func (.func 135) #[] #[.pointer (some ⟨w.heap.size, 0, none⟩)]) ∧ w' = w.alloc (.cells #[.string s] 9) := by
  go_enter Tryz.func123, Tryz.ntmps123
  go_wp2_with fail
  go_ret
  exact ⟨rfl, rfl⟩
theorem new_cell (W : World) (v : Value) (t : TypeId) : (W.alloc (.cells #[v] t)).cell? ⟨W.heap.size, 0, none⟩ = some v ∧ (W.alloc (.cells #[v] t)).frozen? ⟨W.heap.size, 0, none⟩ = false := by
  exact ⟨(Boxed.new W t v).cell, (Boxed.new W t v).frozen⟩
theorem three_cells (w : World) (s : ByteArray) : (three w s).cell? ⟨w.heap.size, 0, none⟩ = some (.string s) ∧ (three w s).frozen? ⟨w.heap.size, 0, none⟩ = false ∧ (three w s).cell? ⟨w.heap.size + 1, 0, none⟩ = some (.string ⟨#[47]⟩) ∧ (three w s).cell? ⟨w.heap.size + 2, 0, none⟩ = some (.int .i64 0) := by
  have a0 := new_cell w (.string s) 9
  have a1 := new_cell (w.alloc (.cells #[.string s] 9)) (.string ⟨#[47]⟩) 9
  have a2 := new_cell ((w.alloc (.cells #[.string s] 9)).alloc (.cells #[.string ⟨#[47]⟩] 9)) (.int .i64 0) 3
  simp only [World.size_alloc] at a1 a2
  have g1 := World.grownBy_alloc (w.alloc (.cells #[.string s] 9)) (.cells #[.string ⟨#[47]⟩] 9) none
  have g2 := World.grownBy_alloc ((w.alloc (.cells #[.string s] 9)).alloc (.cells #[.string ⟨#[47]⟩] 9)) (.cells #[.int .i64 0] 3) none
  have t1 : Turns (fun _ => False) (w.alloc (.cells #[.string s] 9)) (three w s) := (Turns.alloc _ _ _).trans (Turns.alloc _ _ _)
  have t2 : Turns (fun _ => False) ((w.alloc (.cells #[.string s] 9)).alloc (.cells #[.string ⟨#[47]⟩] 9)) (three w s) := Turns.alloc _ _ _
  exact ⟨t1.cell a0.1 id, (t1.frozen a0.1 id).trans a0.2, t2.cell a1.1 id, a2.1⟩
theorem keepsOf_void {x : ByteArray} (h : ¬ 0 < x.size) : keepsOf x = false := by unfold keepsOf keeps; rw [Kit.bytes_nil h]; rfl
theorem keepsOf_point {x : ByteArray} (h : (x.toList == [46]) = true) : keepsOf x = false := by unfold keepsOf keeps; rw [← Lib.toList_data, beq_iff_eq.1 h]; rfl
theorem keepsOf_yes {x : ByteArray} (h : 0 < x.size) (h2 : (x.toList == [46]) = false) : keepsOf x = true := by
  unfold keepsOf keeps
  rw [Lib.toList_data] at h2
  simp only [Bool.and_eq_true]
  refine ⟨?_, ?_⟩
  · have := Kit.bytes_ne h; simpa using this
  · simpa using h2
theorem filter_no {pre : List ByteArray} {x : ByteArray} (h : keepsOf x = false) : (pre ++ [x]).filter keepsOf = pre.filter keepsOf := by rw [List.filter_append, List.filter_cons, if_neg (by simp [h]), List.filter_nil, List.append_nil]
theorem filter_yes {pre : List ByteArray} {x : ByteArray} (h : keepsOf x = true) : (pre ++ [x]).filter keepsOf = pre.filter keepsOf ++ [x] := by rw [List.filter_append, List.filter_cons, if_pos h, List.filter_nil]
theorem filter_pre {a b : List ByteArray} (h : a <+: b) : a.filter keepsOf <+: b.filter keepsOf := by
  obtain ⟨t, rfl⟩ := h
  rw [List.filter_append]; exact ⟨_, rfl⟩

set_option maxRecDepth 100000 in
set_option maxHeartbeats 2000000 in
theorem parts_seq (b : Nat) (s : ByteArray) (hs : s.size ≤ 281474976710656) (w0 : World) (c0 : w0.cell? ⟨b, 0, none⟩ = some (.string s)) (hb : b < w0.heap.size) :
    Seq Tryz.prog 135 #[.pointer (some ⟨b, 0, none⟩)] (fun x : ByteArray => .string x) (fun _ => False) 6 (partsOf s) w0 := by
  intro l J Jx W hW hJ hJx hY h0
  replace c0 : W.cell? ⟨b, 0, none⟩ = some (.string s) := (hW.cell (p := ⟨b, 0, none⟩) hb).trans c0
  have hbW : b < W.heap.size := Nat.lt_of_lt_of_le hb hW.size
  rw [partsOf_pieces] at *
  have HS := Lib.hid (splitSeq_at s)
  refine (callsIn_wide (n := 9)).1 ?_
  refine callsIn_of_wp_marks Tryz.func135 rfl trivial ?_ rfl
  simp only [Tryz.ntmps135, List.size_toArray, List.length_cons, List.length_nil, Nat.reduceAdd, Nat.reduceSub, Array.replicate_succ, Array.replicate_zero, List.push_toArray, List.append_toArray, List.nil_append, List.cons_append]
  gi_wp2
  refine ⟨trivial, ?_⟩
  gi_at_call 136
  refine (callsIn_wide.2 (HS.out _)).mono ?_
  rintro e w1 ⟨rfl, rfl⟩
  gi_wp2
  have b0 := new_cell W (.func (.yield l) #[] #[]) 118
  obtain ⟨V, hV⟩ : ∃ V, W.alloc (.cells #[.func (.yield l) #[] #[]] 118) = V := ⟨_, rfl⟩
  rw [hV] at b0 ⊢
  have hVs : V.heap.size = W.heap.size + 1 := by rw [← hV]; simp
  have hVb : Below W.heap.size W V := by rw [← hV]; exact (Below.refl _ W).alloc (Nat.le_refl _) _
  have d0 := three_cells V s
  have hU : (three V s).heap.size = W.heap.size + 4 := by unfold three; simp [hVs]
  have tV : Turns (fun _ => False) V (three V s) := ((Turns.alloc _ _ _).trans (Turns.alloc _ _ _)).trans (Turns.alloc _ _ _)
  have tW : Turns (fun _ => False) W (three V s) := by rw [← hV] at *; exact (Turns.alloc _ _ _).trans tV
  have b1 := tV.cell b0.1 id
  obtain ⟨U, hU2⟩ : ∃ U, three V s = U := ⟨_, rfl⟩
  rw [hU2] at d0 hU tW b1 ⊢
  clear hU2 tV
  refine wp_range (gf := 147) (lb := caught (W.heap.size + 1)) (by rw [← hVs]; rfl) (enters_of Tryz.func147 (by kernel_rfl) rfl)
    (split_seq (W.heap.size + 1) s hs U (by rw [← hVs]; exact d0.1) (by rw [← hVs]; exact d0.2.1) (by rw [← hVs]; exact d0.2.2.1) (by rw [← hVs]; exact d0.2.2.2) (by omega)) (by rintro k ⟨_, hk⟩; omega) rfl
    (fun k => W.heap.size + 1 ≤ k ∧ k < W.heap.size + 6) (fun k => by unfold Its Three; omega)
    (fun pre W' => J (pre.filter keepsOf) W' ∧ W'.cell? ⟨W.heap.size, 0, none⟩ = some (.func (.yield l) #[] #[]))
    (fun c pre W' => c = .ret ∧ Jx (pre.filter keepsOf) W')
    (fun pre A B h ht => ⟨hJ _ _ _ h.1 (ht.wider fun k hk => Or.inr (by omega)), ht.cell h.2 (fun h1 => absurd h1.1 (Nat.not_succ_le_self _))⟩)
    (fun c pre A B h ht => ⟨h.1, hJx _ _ _ h.2 (ht.wider fun k hk => Or.inr (by omega))⟩)
    ⟨hJ _ _ _ h0 (tW.wider fun k hk => hk.elim), b1⟩
    (fun x => { tmps := #[.func (.yield l) #[] #[], .pointer (some ⟨b, 0, none⟩), .pointer (some ⟨W.heap.size, 0, none⟩), .string x, .string s, .func (.func 147) #[] (caught (W.heap.size + 1)), .string x, undef, undef, undef, undef, undef, undef, undef, undef, undef, undef, undef, undef], defers := [] }) ?assign ?body ?done ?stop
  case assign =>
    intro l x W K hK
    gi_wp2
    exact hK
  case body =>
    rintro l' pre x W1 ⟨hj, hc⟩ hsz hpre
    by_cases h0 : 0 < x.size
    · have hn := Kit.list_ne h0
      have hf := Kit.list_full h0
      cases hp : (x.toList == [46]) with
      | true =>
        have hpe := beq_iff_eq.1 hp
        gi_wp2
        refine ⟨fun _ h => (by cases h), ?_⟩
        gi_wp2
        exact ⟨Turns.refl _ _, by rw [filter_no (keepsOf_point hp)]; exact hj, hc⟩
      | false =>
        have hk := keepsOf_yes h0 hp
        obtain ⟨fn, tmps, assign, body, hy, hR⟩ := hY (pre.filter keepsOf) x W1 hj (by omega) (by rw [← filter_yes hk]; exact filter_pre hpre)
        clear hY
        gi_wp2
        refine (round_in _ _ hR).mono ?_
        rintro e W3 (⟨rfl, hJ3, hk3⟩ | ⟨rfl, hJx3, hk3⟩)
        · gi_wp2
          exact ⟨hk3.wider fun k h h2 => h (Or.inr ⟨Nat.le_of_succ_le h2.1, h2.2⟩), by rw [filter_yes hk]; exact hJ3, hk3.cell hc (fun h => h (Or.inr ⟨Nat.le_refl _, by simp⟩))⟩
        · gi_wp2
          exact ⟨hk3.wider fun k h h2 => h (Or.inr ⟨Nat.le_of_succ_le h2.1, h2.2⟩), rfl, by rw [filter_yes hk]; exact hJx3⟩
    · have hn := Kit.list_nil h0
      have hf := Kit.list_none h0
      gi_wp2
      refine ⟨fun _ h => (by cases h), ?_⟩
      gi_wp2
      exact ⟨Turns.refl _ _, by rw [filter_no (keepsOf_void h0)]; exact hj, hc⟩
  case done =>
    rintro W2 ⟨hj, -⟩ hK
    gi_wp2
    refine ⟨by simp, .inl ⟨_, _, rfl, run_takeDeferred hK, ?_⟩⟩
    exact ⟨_, results_none rfl _ _ _, ⟨_, rfl⟩, .inl (hJ _ _ _ hj (Turns.putObj _ (Or.inr (by omega))))⟩
  case stop =>
    rintro c pre W2 hpre ⟨rfl, hjx⟩ hK
    gi_wp2
    refine ⟨by simp, .inl ⟨_, _, rfl, run_takeDeferred hK, ?_⟩⟩
    exact ⟨_, results_none rfl _ _ _, ⟨_, rfl⟩, .inr ⟨_, filter_pre hpre, hJx _ _ _ hjx (Turns.putObj _ (Or.inr (by omega)))⟩⟩
end Go.Proofs.YtmbpgjncioegdaaGreatDoor.W04
/-
  Layer 4 (path): how a clean path is built in a row of bytes: a part is laid behind a slash, two points take the last part away; and a row of bytes of one's own: what is laid behind it, cut off it, read out of it. No condition but those that each theorem bears.
-/
namespace Go.Proofs.YtmbpgjncioegdaaGreatDoor.W04
open Go Go.RowKit Go.Proofs.YtmbpgjncioegdaaGreatDoor.Range Go.Proofs.YtmbpgjncioegdaaGreatDoor.M04
open Go.Proofs.YtmbpgjncioegdaaGreatDoor.Kit (mk_bytes mk_of ba_ext take_bytes cat_bytes)

def flat (L : List Bytes) : Bytes := L.flatMap (fun p => 47 :: p)
theorem flat_more (L : List Bytes) (p : Bytes) : flat (L ++ [p]) = flat L ++ 47 :: p := by unfold flat; rw [List.flatMap_append]; simp
/-- what the buffer holds when the texts of pre have come -/
def datas (pre : List ByteArray) : List Bytes := pre.map fun x => x.data.toList
def bufOf (pre : List ByteArray) : Bytes := flat (cparts (datas pre))
theorem datas_more (pre : List ByteArray) (x : ByteArray) : datas (pre ++ [x]) = datas pre ++ [x.data.toList] := by unfold datas; rw [List.map_append]; rfl
theorem cparts_more (L : List Bytes) (p : Bytes) : cparts (L ++ [p]) = cstep (cparts L) p := by rw [cparts_append]; rfl
theorem buf_part {pre : List ByteArray} {x : ByteArray} (h : x.data.toList ≠ [46, 46]) : bufOf (pre ++ [x]) = bufOf pre ++ 47 :: x.data.toList := by
  unfold bufOf; rw [datas_more, cparts_more, cstep, if_neg h, flat_more]
theorem last_flat {L : List Bytes} (h : ∀ p ∈ L, Part p) : (flat L).take (max 0 (lastSlash (flat L))).toNat = flat L.dropLast := by
  rcases List.eq_nil_or_concat L with rfl | ⟨o, p, rfl⟩
  · rfl
  · rw [List.concat_eq_append] at *
    have hp := (h p (by simp)).1
    have e : lastSlash (flat (o ++ [p])) = ((flat o).length : Int) := by
      refine last_at ?_ ?_ ?_
      · rw [flat_more]; simp
      · rw [flat_more, List.getD_eq_getElem?_getD, List.getElem?_append_right (Nat.le_refl _)]; simp
      · rw [flat_more, List.drop_append, List.drop_of_length_le (Nat.le_succ _)]; simpa using hp
    rw [e, List.dropLast_concat, flat_more, show (max 0 ((flat o).length : Int)).toNat = (flat o).length by omega, List.take_left]
theorem parts_of_prefix {pre : List ByteArray} {s : ByteArray} (h : pre <+: partsOf s) : ∀ p ∈ datas pre, Part p := by
  intro p hp
  unfold datas at hp
  obtain ⟨x, hx, rfl⟩ := List.mem_map.1 hp
  have hm := h.subset hx
  unfold partsOf at hm
  obtain ⟨q, hq, rfl⟩ := List.mem_map.1 hm
  exact parts_are _ q hq
theorem buf_points {pre : List ByteArray} {x s : ByteArray} (hp : pre <+: partsOf s) (h : x.data.toList = [46, 46]) : bufOf (pre ++ [x]) = (bufOf pre).take (max 0 (lastSlash (bufOf pre))).toNat := by
  unfold bufOf
  rw [datas_more, cparts_more, cstep, if_pos h, last_flat (fun p hm => (cparts_are (parts_of_prefix hp) p hm).1)]
theorem total_datas {pre : List ByteArray} {s : ByteArray} (h : pre <+: partsOf s) : total (datas pre) ≤ s.size + 1 := by
  obtain ⟨t, ht⟩ := h
  have h1 := parts_total s.data.toList
  have e : datas (partsOf s) = parts s.data.toList := map_data _
  rw [← e, ← ht, show datas (pre ++ t) = datas pre ++ datas t from List.map_append, total_append] at h1
  rw [Lib.size_eq]; omega
theorem buf_room {pre : List ByteArray} {x s : ByteArray} (h : pre ++ [x] <+: partsOf s) : (bufOf pre).length + (x.size + 1) ≤ s.size + 1 := by
  have h1 := total_datas h
  have h2 := fold_total (datas pre) []
  rw [datas_more, total_append] at h1
  unfold bufOf
  rw [show (flat (cparts (datas pre))).length = total (cparts (datas pre)) from flat_total _]
  have e : total [x.data.toList] = x.size + 1 := by rw [Lib.size_eq]; rfl
  have e2 : total ([] : List Bytes) = 0 := rfl
  unfold cparts
  omega
theorem buf_end (s : ByteArray) : bufOf (partsOf s) = flat (cparts (parts s.data.toList)) := by unfold bufOf; rw [show datas (partsOf s) = parts s.data.toList from map_data _]
theorem clean_flat {s d : ByteArray} (h : d.data.toList = clean s.data.toList) : (bufOf (partsOf s) = [] ∧ d = ⟨#[47]⟩) ∨ (bufOf (partsOf s) ≠ [] ∧ d.data.toList = bufOf (partsOf s)) := by
  rw [buf_end]
  unfold clean text at h
  by_cases e : cparts (parts s.data.toList) = []
  · left
    rw [if_pos e] at h
    exact ⟨by rw [e]; rfl, ba_ext h⟩
  · right
    rw [if_neg e] at h
    refine ⟨?_, h⟩
    cases hc : cparts (parts s.data.toList) with
    | nil => exact absurd hc e
    | cons p q => simp [flat]

/-! a row of bytes of one's own -/
/-- block g is a row of bytes: d, and room for cap bytes in all -/
def Buf (W : World) (base g cap : Nat) (d : ByteArray) : Prop := W.ownsRow base 5 1 (.slice (some ⟨g, 0, none⟩) d.size cap) d.size (Lib.strCells d)
theorem buf_turn {T : Nat → Prop} {A B : World} {base g cap : Nat} {d : ByteArray} (h : Buf A base g cap d) (ht : Turns T A B) (hg : ¬ T g) : Buf B base g cap d := by
  refine ⟨h.1, ?_⟩
  rcases h.2 with ⟨h0, _⟩ | ⟨g', cap', cur, e1, hb, hh, rest⟩
  · cases h0
  · cases e1
    exact Or.inr ⟨g, cap, cur, rfl, hb, ht.keeps hh hg, rest⟩
theorem buf_cut {W : World} {base g cap k : Nat} {d : ByteArray} (h : Buf W base g cap d) (hk : k ≤ d.size) : Buf W base g cap (d.extract 0 k) := by
  have e : (d.extract 0 k).size = k := by rw [ByteArray.size_extract]; omega
  have e2 : Lib.strCells (d.extract 0 k) = (Lib.strCells d).take k := by unfold Lib.strCells; rw [take_bytes, List.map_take]
  unfold Buf
  rw [e, e2]
  obtain ⟨h1, h2⟩ := h
  refine ⟨by rw [List.length_take, Lib.strCells_length]; omega, ?_⟩
  rcases h2 with ⟨h0, _⟩ | ⟨g', cap', cur, e1, hb, hh, hn, hm, hs, ht⟩
  · cases h0
  · cases e1
    refine Or.inr ⟨g, cap, cur, rfl, hb, hh, by omega, hm, hs, ?_⟩
    rw [← ht, List.take_take]
    congr 1; omega
theorem buf_more {W : World} {base g cap n : Nat} {d x : ByteArray} {xs : List Value} (h : W.ownsRow base 5 1 (.slice (some ⟨g, 0, none⟩) n cap) n xs) (hn : n = (d ++ x).size) (hx : xs = Lib.strCells d ++ Lib.strCells x) : Buf W base g cap (d ++ x) := by
  unfold Buf
  have e : Lib.strCells (d ++ x) = Lib.strCells d ++ Lib.strCells x := by unfold Lib.strCells; rw [cat_bytes, List.map_append]
  rw [e, ← hx, ← hn]; exact h
theorem buf_caps {W : World} {base g cap : Nat} {d : ByteArray} (h : Buf W base g cap d) : d.size ≤ cap ∧ cap ≤ maxLen := by
  rcases h.2 with ⟨h0, _⟩ | ⟨g', cap', cur, e1, hb, hh, hn, hm, hs, ht⟩
  · cases h0
  · cases e1; exact ⟨hn, hm⟩
theorem buf_conv {W : World} {base g cap : Nat} {d : ByteArray} (h : Buf W base g cap d) : (convert 168 9 (.slice (some ⟨g, 0, none⟩) d.size cap)).run Tryz.prog W = .ok (.string d) W := by
  have h2 := run_convert_bytes_back (P := Tryz.prog) W 168 9 5 ⟨g, 0, none⟩ cap d.data.toList Tryz.underlying168 Tryz.underlying5 Tryz.underlying9 (fun j hj => by
    have hj2 : j < d.size := by rw [Lib.size_eq]; exact hj
    exact h.cells (g := g) rfl j _ (cells_get d j hj2))
  rw [← Lib.size_eq, mk_bytes] at h2
  exact h2
/-- 'append(b, s...)' of a text onto a row with room, in a fenced walk -/
theorem wp_append_text {F : Fence} {n : Nat} {P : Program} (w : World) {ops : Array Oper} {rest : List Oper} {o : Oper} {a : Act} {Q : Exit → Act → World → Prop}
    (hg : o.guard = none) (s x : Operand) (t u : TypeId) (hop : o.op = Op.call { callee := Callee.builtin Builtin.append, args := #[s, x], argTypes := #[t, u] })
    (base : Nat) (e : TypeId) (i : TypeInfo) (h1 : P.underlying t = some (.slice e)) (hu : P.underlying u = some .string) (h2 : P.info? e = some i) (h4 : i.size = 1)
    (p : Option Addr) (k cap : Nat) (xs : List Value) (hs : a.eval s = .slice p k cap) (hown : w.ownsRow base e 1 (.slice p k cap) k xs) (str : ByteArray) (hx : a.eval x = .string str) (hc : 0 < cap) (hroom : k + str.size ≤ cap)
    (hK : ∀ w', w'.ownsRow base e 1 (.slice p (k + str.size) cap) (k + str.size) (xs ++ Lib.strCells str) → w.grownBy w' (Value.ownBlock (.slice p k cap)) → wpListIn F n P ops Q rest (a.put o.dst (.slice p (k + str.size) cap)) w') :
    wpListIn F n P ops Q (o :: rest) a w := by
  refine wpListIn_plain hg fun K hK' => ?_
  obtain ⟨w', hrun, r1, r2⟩ := Lib.run_append_fits_string (P := P) w base t u o.type e i h1 hu h2 h4 p k cap xs hown str hc hroom
  unfold Oper.wpIn
  refine ⟨?_, ?_⟩
  · simp [Oper.about, hop, resolve, Target.leads, Sem.run_pure]
  · rw [Oper.semAt_plain F _ _ (by rw [hop]; intro c hc'; cases hc')]
    simp [execOp, hop, resolve, invoke, builtin, hs, hx, hrun, Result.andThen]
    exact hK' _ _ (hK w' r1 r2)
/-- a variable's box and the row g of the slice that it holds, behind what has turned g alone, and a store into the box -/
theorem box_stored {W A w1 : World} {B g : Nat} {t : TypeId} {v : Value} (v' : Value) (hv : Boxed W B t v) (hA : Turns (fun _ => False) W A) (hg : A.grownBy w1 (some g)) (hne : B ≠ g) :
    Boxed w1 B t v ∧ Boxed (w1.setCell ⟨B, 0, none⟩ v') B t v' ∧ Turns (fun k => k = B ∨ k = g) W (w1.setCell ⟨B, 0, none⟩ v') ∧ Turns (fun k => k = B) w1 (w1.setCell ⟨B, 0, none⟩ v') := by
  have hv1 : Boxed w1 B t v := (Boxed.kept (hA.keeps hv id) hg (by simpa using hne))
  exact ⟨hv1, hv1.set v', (((hA.wider fun _ h => h.elim).trans (Turns.of_grown hg (fun r e => by cases e; exact Or.inr rfl))).trans (Turns.setCell _ (Or.inl rfl))), Turns.setCell _ rfl⟩
theorem cells_more (d x : ByteArray) : Lib.strCells (d ++ x) = Lib.strCells d ++ Lib.strCells x := by unfold Lib.strCells; rw [cat_bytes, List.map_append]
end Go.Proofs.YtmbpgjncioegdaaGreatDoor.W04
/-
  Layer 4 (path): what layers above use of it: readings of what the plain answers hand out. No condition but those that each theorem bears.
-/
namespace Go.Proofs.YtmbpgjncioegdaaGreatDoor.W04
open Go Go.RowKit Go.Proofs.YtmbpgjncioegdaaGreatDoor.Strs Go.Proofs.YtmbpgjncioegdaaGreatDoor.M04
open Go.Proofs.YtmbpgjncioegdaaGreatDoor.Kit (ret_str ret_bool mk_of mk_bytes below_draws on)

/-- what a call returns that hands out texts -/
def Hands (w : World) (L : List Bytes) (e : Ending) (w' : World) : Prop := ∃ v, e = .returned v ∧ Texts w'.heap.size w' v L ∧ Below w.heap.size w w'
theorem makes_hands {w w' : World} {L : List Bytes} {e : Ending} (h : Makes w L e w') : Hands w L e w' := by
  obtain ⟨v, he, hown, hb⟩ := h
  exact ⟨v, he, Texts.of_own hown, hb⟩

theorem text_of (l : Bytes) : ∃ d : ByteArray, d.data.toList = l := ⟨⟨l.toArray⟩, rfl⟩
end Go.Proofs.YtmbpgjncioegdaaGreatDoor.W04
/-
  Layer 4 (path), walks: the program's Parts: a text's parts, in new memory, at every text of at most 2^31 bytes; nothing that was there is changed.
-/
namespace Go.Proofs.YtmbpgjncioegdaaGreatDoor.W04
open Go Go.RowKit Go.Shelf Go.Proofs.YtmbpgjncioegdaaGreatDoor.Range Go.Proofs.YtmbpgjncioegdaaGreatDoor.M04 Go.Proofs.YtmbpgjncioegdaaGreatDoor.Strs
open Go.Proofs.YtmbpgjncioegdaaGreatDoor.Kit (ret_str ret_bool ret_int mk_of mk_bytes below_draws on)
attribute [local go_sem] Oper.semAt_some

/-- a variable's box and the row of the slice that it holds, behind 'v = append(v, ..)' -/
theorem box_appended {W w1 : World} {T : Nat → Prop} {n0 base B : Nat} {t e : TypeId} {size : Nat} {v v' : Value} {k m : Nat} {xs ys : List Value} {tmp : Obj}
    (hv : Boxed W B t v) (hte : t ≠ e) (hrow : W.ownsRow base e size v k xs) (hB : ¬ T B) (hT : ∀ k, base ≤ k → ¬ T k) (h1 : n0 ≤ B) (h2 : n0 ≤ base)
    (hown' : w1.ownsRow base e size v' m ys) (hgrow : (W.alloc tmp).grownBy w1 v.ownBlock) :
    Boxed w1 B t v ∧ Boxed (w1.setCell ⟨B, 0, none⟩ v') B t v' ∧ (w1.setCell ⟨B, 0, none⟩ v').ownsRow base e size v' m ys ∧ Turns (fun k => ¬ T k) W (w1.setCell ⟨B, 0, none⟩ v') ∧ Below n0 W (w1.setCell ⟨B, 0, none⟩ v') := by
  have hv1 : Boxed w1 B t v := (hv.alloc tmp).kept hgrow (hv.not_row hte hrow)
  have hlt := hv.lt
  refine ⟨hv1, hv1.set v', hown'.kept (grownBy_setCell' w1 B v') (.inr (hv1.not_row hte hown').symm), ?_, ?_⟩
  · exact ((Turns.alloc _ W tmp).trans (Turns.of_grown hgrow fun r hr => hT r (hrow.lt r hr).1)).trans (Turns.setCell _ hB)
  · exact (((Below.refl n0 W).alloc (by omega) tmp).grown hgrow (by simp; omega) (fun r hr => Nat.le_trans h2 (hrow.lt r hr).1)).setCell (p := ⟨B, 0, none⟩) h1 v'

set_option maxRecDepth 100000 in
set_option maxHeartbeats 2000000 in
theorem parts_makes (s : ByteArray) (hs : s.size ≤ 2147483648) (w : World) : Calls Tryz.prog 127 #[.string s] w (Makes w (parts s.data.toList)) := by
  obtain ⟨i0, hi, hz0, hz1, hz2⟩ := info_parts text_info
  have HP := Lib.hid (parts_at s)
  have hlen : (partsOf s).length ≤ s.size + 1 := by
    unfold partsOf
    rw [List.length_map, Lib.size_eq]
    exact parts_count _
  refine (callsIn_wide (n := 9)).1 ?_
  refine callsIn_of_wp_marks Tryz.func127 rfl trivial ?_ rfl
  simp only [Tryz.ntmps127, List.size_toArray, List.length_cons, List.length_nil, Nat.reduceAdd, Nat.reduceSub, Array.replicate_succ, Array.replicate_zero, List.push_toArray, List.append_toArray, List.nil_append, List.cons_append]
  gi_wp2
  refine ⟨trivial, ?_⟩
  gi_at_call 123
  refine (callsIn_wide.2 (HP.out _)).mono ?_
  rintro e w1 ⟨rfl, rfl⟩
  gi_wp2
  have x0 := Boxed.new w 135 (.slice none 0 0)
  have x1 := Boxed.new (w.alloc (.cells #[.slice none 0 0] 135)) 9 (.string s)
  rw [World.size_alloc] at x1
  have x2 := x0.alloc (.cells #[.string s] 9)
  have hb : Below w.heap.size w ((w.alloc (.cells #[.slice none 0 0] 135)).alloc (.cells #[.string s] 9)) := ((Below.refl _ w).alloc (Nat.le_refl _) _).alloc (by simp) _
  have hsz : ((w.alloc (.cells #[.slice none 0 0] 135)).alloc (.cells #[.string s] 9)).heap.size = w.heap.size + 2 := by simp
  generalize (w.alloc (.cells #[.slice none 0 0] 135)).alloc (.cells #[.string s] 9) = U at *
  clear x0
  refine wp_range (gf := 135) (lb := #[.pointer (some ⟨w.heap.size + 1, 0, none⟩)]) rfl (enters_of Tryz.func135 (by kernel_rfl) rfl)
    (parts_seq (w.heap.size + 1) s (by omega) U x1.cell (by omega)) (fun k hk => hk.elim) rfl
    (fun k => w.heap.size + 2 ≤ k ∧ k < w.heap.size + 10) (fun k => by unfold Its; rw [hsz]; simp)
    (fun pre W => ∃ v, Boxed W w.heap.size 135 v ∧ W.ownsRow (w.heap.size + 10) 9 1 v pre.length (pre.map Value.string) ∧ Below w.heap.size w W)
    (fun _ _ _ => False)
    (by
      rintro pre A B ⟨v, h1, h2, h3⟩ ht
      exact ⟨v, ht.keeps h1 (by omega), ht.row h2 (by intro k hk; omega), h3.trans (ht.below (by intro k hk; omega) h3.size)⟩)
    (fun _ _ _ _ h _ => h)
    ⟨_, x2, World.ownsRow_nil _ _ _ _, hb⟩
    (fun x => { tmps := #[.string s, undef, .slice none 0 0, .pointer (some ⟨w.heap.size, 0, none⟩), .string x, .string s, .func (.func 135) #[] #[.pointer (some ⟨w.heap.size + 1, 0, none⟩)], .string x, undef, undef, undef, undef, undef], defers := [] }) ?assign ?body ?done ?stop
  case assign =>
    intro l x W K hK
    gi_wp2
    exact hK
  case body =>
    rintro l pre x W ⟨v, hv, hrow, hB⟩ hW hpre
    have hc := hv.cell
    have hf := hv.frozen
    have hle : pre.length + 1 ≤ s.size + 1 := by
      have := hpre.length_le
      rw [List.length_append, List.length_singleton] at this
      omega
    gi_wp2_with (gi_at_builtin; refine wpListIn_append_own _ rfl _ _ 135 rfl (w.heap.size + 10) 9 i0 (.string ⟨#[]⟩) 1 16 Tryz.underlying135 hi hz0 hz1 hz2 rfl (by decide) _ _ _ rfl (hrow.alloc _) ⟨W.heap.size, 0, none⟩ 1 1 [.string x] rfl rfl (cell_one_new _ _ _) (by simp [Value.oneCell']) (by unfold maxLen; omega) (by omega) (by simp; omega) ?_; intro v' w1 hown' hgrow _; obtain ⟨g', cap', rfl⟩ := ownsRow_succ hown'; obtain ⟨hv1, hv2, hr2, ht2, hb2⟩ := box_appended (n0 := w.heap.size) (T := fun k => w.heap.size + 2 ≤ k ∧ k < w.heap.size + 10) hv (by decide) hrow (by omega) (by intro k hk; omega) (Nat.le_refl _) (by omega) hown' hgrow; have hc1 := hv1.cell; have hf1 := hv1.frozen)
    exact ⟨ht2, _, hv2, by rw [List.length_append, List.map_append]; exact hr2, hB.trans hb2⟩
  case done =>
    rintro W ⟨v, hv, hrow, hB⟩ hK
    have hc := hv.cell
    gi_wp2
    refine ⟨by simp, .inl ⟨_, _, rfl, run_takeDeferred hK, ?_⟩⟩
    refine ⟨_, results_tmp rfl _ _ _, v, rfl, ?_, hB.trans ((Turns.putObj (T := fun k => w.heap.size + 2 ≤ k) _ (by omega)).below (by intro k hk; omega) hB.size)⟩
    have h2 := ownsRow_putObj hrow (.deferred none) hK rfl
    have e1 : (partsOf s).map Value.string = (parts s.data.toList).map strV := by unfold partsOf; rw [List.map_map]; rfl
    rw [e1, show (partsOf s).length = (parts s.data.toList).length by unfold partsOf; rw [List.length_map]] at h2
    exact World.ownsRow.mono h2 (by omega)
  case stop =>
    rintro c pre W _ h _
    exact h.elim
theorem parts_any (s : ByteArray) (hs : s.size ≤ 2147483648) (w : World) : Calls Tryz.prog 127 #[.string s] w (Hands w (parts s.data.toList)) := (parts_makes s hs w).mono fun _ _ h => makes_hands h
end Go.Proofs.YtmbpgjncioegdaaGreatDoor.W04
/-
  Layer 4 (path), a walk: the program's Clean: a path taken from / on as a clean one, at every text of less than 2^48 bytes; nothing that was there is changed.
-/
namespace Go.Proofs.YtmbpgjncioegdaaGreatDoor.W04
open Go Go.RowKit Go.Shelf Go.Proofs.YtmbpgjncioegdaaGreatDoor.Range Go.Proofs.YtmbpgjncioegdaaGreatDoor.M04 Go.Proofs.YtmbpgjncioegdaaGreatDoor.Strs
open Go.Proofs.YtmbpgjncioegdaaGreatDoor.Kit (ret_str ret_bool ret_int mk_of mk_bytes ba_ext below_draws on)
attribute [local go_sem] Oper.semAt_some

theorem byte_info : (Tryz.prog.info? 5).map (fun i => (i.zero, i.size, i.bytes)) = some (some (.int .u8 0), 1, 1) := by kernel_rfl

set_option maxRecDepth 100000 in
set_option maxHeartbeats 2000000 in
theorem clean_at (s d : ByteArray) (hd : d.data.toList = clean s.data.toList) (hs : s.size < 281474976710656) (w : World) : Calls Tryz.prog 122 #[.string s] w fun e w' => e = .returned (.string d) ∧ Below w.heap.size w w' := by
  obtain ⟨i0, hi, hz0, hz1, hz2⟩ := info_parts byte_info
  have HP := Lib.hid (parts_at s)
  have HD := Lib.hid (clean_flat hd)
  clear hd
  refine (callsIn_wide (n := 9)).1 ?_
  refine callsIn_of_wp_marks Tryz.func122 rfl trivial ?_ rfl
  simp only [Tryz.ntmps122, List.size_toArray, List.length_cons, List.length_nil, Nat.reduceAdd, Nat.reduceSub, Array.replicate_succ, Array.replicate_zero, List.push_toArray, List.append_toArray, List.nil_append, List.cons_append]
  gi_wp2_with (gi_at_make; refine wpListIn_make_own _ rfl _ _ 168 rfl w.heap.size 5 i0 (.int .u8 0) 1 Tryz.underlying168 hi hz0 hz1 .i64 .i64 _ (s.size + 1) rfl rfl (by go_num) (by rw [hz2]; omega) (by unfold maxLen; omega) (Nat.le_refl _) ?_; intro w1 hown1 hgrow1)
  refine ⟨trivial, ?_⟩
  gi_at_call 123
  refine (callsIn_wide.2 (HP.out _)).mono ?_
  rintro e w2 ⟨rfl, rfl⟩
  gi_wp2
  have hlt : w.heap.size < w1.heap.size := (hown1.lt w.heap.size rfl).2
  have x0 := Boxed.new w1 168 (.slice (some ⟨w.heap.size, 0, none⟩) 0 (s.size + 1))
  have x1 := Boxed.new (w1.alloc (.cells #[.slice (some ⟨w.heap.size, 0, none⟩) 0 (s.size + 1)] 168)) 9 (.string s)
  rw [World.size_alloc] at x1
  replace x0 := x0.alloc (.cells #[.string s] 9)
  have hb : Below w.heap.size w ((w1.alloc (.cells #[.slice (some ⟨w.heap.size, 0, none⟩) 0 (s.size + 1)] 168)).alloc (.cells #[.string s] 9)) := ((((Below.refl _ w).grown hgrow1 (Nat.le_refl _) (fun r e => by cases e)).alloc (by omega) _).alloc (by simp; omega) _)
  have hbuf : Buf w1 w.heap.size w.heap.size (s.size + 1) ⟨#[]⟩ := hown1
  have hU : Buf ((w1.alloc (.cells #[.slice (some ⟨w.heap.size, 0, none⟩) 0 (s.size + 1)] 168)).alloc (.cells #[.string s] 9)) w.heap.size w.heap.size (s.size + 1) ⟨#[]⟩ := buf_turn hbuf ((Turns.alloc (fun _ => False) _ _).trans (Turns.alloc _ _ _)) id
  have hsz : ((w1.alloc (.cells #[.slice (some ⟨w.heap.size, 0, none⟩) 0 (s.size + 1)] 168)).alloc (.cells #[.string s] 9)).heap.size = w1.heap.size + 2 := by simp
  generalize (w1.alloc (.cells #[.slice (some ⟨w.heap.size, 0, none⟩) 0 (s.size + 1)] 168)).alloc (.cells #[.string s] 9) = U at *
  generalize w1.heap.size = B at *
  clear hown1 hgrow1 hbuf
  refine wp_range (gf := 135) (lb := #[.pointer (some ⟨B + 1, 0, none⟩)]) rfl (enters_of Tryz.func135 (by kernel_rfl) rfl)
    (parts_seq (B + 1) s (by omega) U x1.cell (by omega)) (fun k hk => hk.elim) rfl
    (fun k => B + 2 ≤ k ∧ k < B + 10) (fun k => by unfold Its; rw [hsz]; simp)
    (fun pre W => ∃ q : ByteArray, Hid (q.data.toList = bufOf pre) ∧ Boxed W B 168 (.slice (some ⟨w.heap.size, 0, none⟩) q.size (s.size + 1)) ∧ Buf W w.heap.size w.heap.size (s.size + 1) q ∧ Below w.heap.size w W)
    (fun _ _ _ => False)
    (by
      rintro pre X Y ⟨q, h0, h1, h2, h3⟩ ht
      exact ⟨q, h0, ht.keeps h1 (by omega), buf_turn h2 ht (by omega), h3.trans (ht.below (by intro k hk; omega) h3.size)⟩)
    (fun _ _ _ _ h _ => h)
    ⟨⟨#[]⟩, rfl, x0, hU, hb⟩
    (fun x => { tmps := #[.string s, undef, .string ⟨#[]⟩, .pointer (some ⟨B, 0, none⟩), .string x, .string s, .int .i64 s.size, .int .i64 (s.size + 1), .slice (some ⟨w.heap.size, 0, none⟩) 0 (s.size + 1), .string s, .func (.func 135) #[] #[.pointer (some ⟨B + 1, 0, none⟩)], .string x, undef, undef, undef, undef, undef, undef, undef, undef, undef, undef, undef, undef, undef, undef, undef, undef, undef, undef], defers := [] }) ?assign ?body ?done ?stop
  case assign =>
    intro l x W K hK
    gi_wp2
    exact hK
  case body =>
    rintro l pre x W ⟨q, hq, hv, hbuf, hB⟩ hW hpre
    have hc := hv.cell
    have hf := hv.frozen
    have hmx : Tryz.prog.follows .mixedOrders = true := by kernel_rfl
    cases hp : (x.toList == [46, 46]) with
    | true =>
      have hpe := beq_iff_eq.1 hp
      have hdd : x.data.toList = [46, 46] := by rw [← Lib.toList_data]; exact hpe
      obtain ⟨t, ht⟩ := hpre
      have hq2 : Hid ((q.extract 0 (max 0 (lastSlash q.data.toList)).toNat).data.toList = bufOf (pre ++ [x])) := by
        show _ = _
        rw [buf_points (s := s) ⟨[x] ++ t, by rw [← List.append_assoc]; exact ht⟩ hdd, Kit.take_bytes, hq.out]
      have hls := last_le q.data.toList
      rw [← Lib.size_eq] at hls
      have hcap := buf_caps hbuf
      have HLB := Lib.hid (fun (W' : World) (h : Buf W' w.heap.size w.heap.size (s.size + 1) q) => last_bytes w.heap.size q.size (s.size + 1) w.heap.size q rfl hcap.1 hcap.2 W' h)
      obtain ⟨z, hz⟩ : ∃ z, lastSlash q.data.toList = z := ⟨_, rfl⟩
      rw [hz] at hls HLB hq2
      have hsz2 : (q.extract 0 (max 0 z).toNat).size = (max 0 z).toNat := by rw [ByteArray.size_extract]; omega
      have FIN : Hid (∀ n : Nat, Turns (fun k => ¬ (B + 2 ≤ k ∧ k < B + 10)) W ((W.drewN n).setCell ⟨B, 0, none⟩ (.slice (some ⟨w.heap.size, 0, none⟩) (max 0 z).toNat (s.size + 1))) ∧
          ∃ q : ByteArray, Hid (q.data.toList = bufOf (pre ++ [x])) ∧ Boxed ((W.drewN n).setCell ⟨B, 0, none⟩ (.slice (some ⟨w.heap.size, 0, none⟩) (max 0 z).toNat (s.size + 1))) B 168 (.slice (some ⟨w.heap.size, 0, none⟩) q.size (s.size + 1)) ∧ Buf ((W.drewN n).setCell ⟨B, 0, none⟩ (.slice (some ⟨w.heap.size, 0, none⟩) (max 0 z).toNat (s.size + 1))) w.heap.size w.heap.size (s.size + 1) q ∧ Below w.heap.size w ((W.drewN n).setCell ⟨B, 0, none⟩ (.slice (some ⟨w.heap.size, 0, none⟩) (max 0 z).toNat (s.size + 1)))) := by
        show ∀ n : Nat, _
        intro n
        have t1 : Turns (fun k => k = B) W ((W.drewN n).setCell ⟨B, 0, none⟩ (.slice (some ⟨w.heap.size, 0, none⟩) (max 0 z).toNat (s.size + 1))) := (Turns.draw _ W n).trans (Turns.setCell _ rfl)
        refine ⟨t1.wider (by intro k hk; omega), _, hq2, ?_, buf_turn (buf_cut hbuf (by omega)) t1 (by omega), hB.trans (t1.below (by intro k hk; omega) hB.size)⟩
        rw [hsz2]
        exact Boxed.set (W := W.drewN n) _ hv
      have h24 : Fence.wide.fn 134 := trivial
      gi_wp2
      gi_region_with_o (first | (refine ⟨trivial, ?_⟩; gi_at_call 134; refine (CallsIn.inRound l (callsIn_wide.2 (HLB.out W.drew hbuf))).mono ?_; rintro e w' ⟨rfl, m, rfl⟩) | (gi_at_call 134; refine (CallsIn.inRound l (callsIn_wide.2 (HLB.out W.drew hbuf))).mono ?_; rintro e w' ⟨rfl, m, rfl⟩))
      all_goals gi_wp2
      all_goals first
        | exact FIN.out _
        | (exfalso; omega)
    | false =>
      have hne : x.data.toList ≠ [46, 46] := by rw [← Lib.toList_data]; intro e; rw [e] at hp; simp at hp
      have hroom : q.size + (x.size + 1) ≤ s.size + 1 := by have := buf_room hpre; rw [← hq.out, ← Lib.size_eq] at this; exact this
      have hq2 : Hid ((q ++ ⟨#[47]⟩ ++ x).data.toList = bufOf (pre ++ [x])) := by
        show _ = _
        rw [buf_part hne, ← hq.out, Kit.cat_bytes, Kit.cat_bytes, List.append_assoc]; rfl
      have hrow : W.ownsRow w.heap.size 5 1 (.slice (some ⟨w.heap.size, 0, none⟩) q.size (s.size + 1)) q.size (Lib.strCells q) := hbuf
      clear hne hpre
      gi_wp2_with (first
        | (gi_at_builtin; refine wpListIn_append_fits _ rfl _ _ 168 rfl w.heap.size 5 i0 1 Tryz.underlying168 hi hz1 w.heap.size q.size (s.size + 1) (Lib.strCells q) rfl (hrow.alloc _) ⟨W.heap.size, 0, none⟩ 1 1 [.int .u8 47] rfl rfl (cell_one_new _ _ _) (by simp [Value.oneCell']) (by omega) ?_; intro w3 hown3 hgrow3; obtain ⟨hv1, hv2, ht2, ht3⟩ := box_stored (g := w.heap.size) (.slice (some ⟨w.heap.size, 0, none⟩) (q.size + 1) (s.size + 1)) hv (Turns.alloc _ _ _) hgrow3 (by omega); have hc1 := hv1.cell; have hf1 := hv1.frozen; have hc2 := hv2.cell; have hf2 := hv2.frozen)
        | (gi_at_builtin; refine wp_append_text _ rfl _ _ 168 9 rfl w.heap.size 5 i0 Tryz.underlying168 Tryz.underlying9 hi hz1 (some ⟨w.heap.size, 0, none⟩) (q.size + 1) (s.size + 1) _ rfl (ht3.row_at hown3 (by omega)) x rfl (by omega) (by omega) ?_; intro w5 hown5 hgrow5; obtain ⟨hv3, hv4, ht4, ht5⟩ := box_stored (g := w.heap.size) (.slice (some ⟨w.heap.size, 0, none⟩) (q.size + 1 + x.size) (s.size + 1)) hv2 (Turns.refl _ _) hgrow5 (by omega); have hc3 := hv3.cell; have hf3 := hv3.frozen))
      have e1 : q.size + 1 + x.size = (q ++ ⟨#[47]⟩ ++ x).size := by rw [ByteArray.size_append, ByteArray.size_append]; rfl
      have hb5 : Buf (w5.setCell ⟨B, 0, none⟩ (.slice (some ⟨w.heap.size, 0, none⟩) (q.size + 1 + x.size) (s.size + 1))) w.heap.size w.heap.size (s.size + 1) (q ++ ⟨#[47]⟩ ++ x) := by
        refine buf_turn (buf_more hown5 e1 ?_) ht5 (by omega)
        rw [cells_more]; rfl
      have ht := ht2.trans ht4
      exact ⟨ht.wider (by intro k hk; omega), _, hq2, by rw [← e1]; exact hv4, hb5, hB.trans (ht.below (by intro k hk; omega) hB.size)⟩
  case done =>
    rintro W ⟨q, hq, hv, hbuf, hB⟩ hK
    have hc := hv.cell
    have hcap := buf_caps hbuf
    have hsz2 : q.size = (bufOf (partsOf s)).length := by rw [Lib.size_eq, hq.out]
    have HB2 : Hid (Below w.heap.size w (W.putObj U.heap.size (.deferred none))) := hB.trans ((Turns.putObj (T := fun k => B + 2 ≤ k) _ (by omega)).below (by intro k hk; omega) hB.size)
    rcases HD.out with ⟨h1, h2⟩ | ⟨h1, h2⟩
    · have h0 : q.size = 0 := by rw [hsz2, h1]; rfl
      rw [h0] at hc
      clear HD h1 hsz2 hq
      gi_wp2
      refine ⟨by simp, .inl ⟨_, _, rfl, run_takeDeferred hK, ?_⟩⟩
      refine ⟨_, results_tmp rfl _ _ _, ?_, HB2.out⟩
      exact ret_str h2.symm
    · have h0 : 0 < q.size := by
        rw [hsz2]
        exact List.length_pos_iff.2 h1
      have hcv := buf_conv hbuf
      have t0 : ((q.size : Int) == 0) = false := by
        cases e : ((q.size : Int) == 0) with
        | false => rfl
        | true => have := beq_iff_eq.1 e; omega
      have he : Hid (q = d) := ba_ext (by rw [h2]; exact hq.out)
      clear HD h1 h2 hsz2 hq h0
      gi_wp2
      refine ⟨by simp, .inl ⟨_, _, rfl, run_takeDeferred hK, ?_⟩⟩
      refine ⟨_, results_tmp rfl _ _ _, ?_, HB2.out⟩
      exact ret_str he.out
  case stop =>
    rintro c pre W _ h _
    exact h.elim
end Go.Proofs.YtmbpgjncioegdaaGreatDoor.W04
/-
  Layer 3 (name), walks over a text's runes: hasOnly asks of each rune what its function says; a byte below 128 is a rune by itself, and what isn't is told by bytes of 128 and above alone. So what hasOnly answers is told by the text's bytes. No condition but those that each theorem bears.
-/
namespace Go.Proofs.YtmbpgjncioegdaaGreatDoor.W03
open Go Go.RowKit Go.Proofs.YtmbpgjncioegdaaGreatDoor.Strs Go.Proofs.YtmbpgjncioegdaaGreatDoor.M03
open Go.Proofs.YtmbpgjncioegdaaGreatDoor.Kit (ret_str ret_bool ret_int mk_of below_draws on take_next take_end byte_eq byte_ne)

theorem get_bang (s : ByteArray) (k : Nat) (h : k < s.size) : s.get! k = s[k] := by
  simp [ByteArray.get!, getElem!_pos, h]; rfl
/-- a rune of 128 and above lies over bytes of 128 and above -/
theorem decode_cover (s : ByteArray) (pos : Nat) (h : pos < s.size) (ha : 128 ≤ (s[pos]).toNat) :
    pos + (Utf8.decode s pos).2 ≤ s.size ∧ ∀ j, j < (Utf8.decode s pos).2 → 128 ≤ (s.get! (pos + j)).toNat := by
  have hn : ¬ (s[pos]).toNat < 128 := by omega
  have h0 : 128 ≤ (s.get! (pos + 0)).toNat := by rw [get_at s pos h]; exact ha
  simp only [Utf8.decode, get_at s pos h, hn, if_false, Bool.and_eq_true, decide_eq_true_eq, beq_iff_eq]
  repeat' split
  all_goals first
    | (refine ⟨by simp only []; omega, fun j hj => ?_⟩
       simp only [] at hj
       have hj4 : j = 0 ∨ j = 1 ∨ j = 2 ∨ j = 3 := by omega
       rcases hj4 with rfl | rfl | rfl | rfl <;> omega)
/-- what is asked of a rune is asked of the bytes: p of a byte below 128 is q of it as a rune, and all above are hi -/
structure Alike (q : Nat → Bool) (p : UInt8 → Bool) (hi : Bool) : Prop where
  low : ∀ c : UInt8, c.toNat < 128 → p c = q c.toNat
  high : ∀ c : UInt8, 128 ≤ c.toNat → p c = hi
  rune : ∀ r, 128 ≤ r → q r = hi
theorem alike_no {q : Nat → Bool} {p : UInt8 → Bool} {hi : Bool} (A : Alike q p hi) {s : ByteArray} {pos : Nat} (h : pos < s.size) (hq : q (Utf8.decode s pos).1 = false) : s.data.toList.all p = false := by
  have hk2 : pos < s.data.toList.length := by rw [← Lib.size_eq]; exact h
  have hp : p s[pos] = false := by
    by_cases ha : (s[pos]).toNat < 128
    · rw [decode_ascii s pos h ha] at hq; rw [A.low _ ha]; exact hq
    · have hd := decode_high s pos h (by omega)
      rw [A.rune _ hd.1] at hq
      rw [A.high _ (by omega)]; exact hq
  rw [List.all_eq_false]
  exact ⟨s.data.toList[pos], List.getElem_mem hk2, by show ¬ p s[pos] = true; rw [hp]; decide⟩
theorem all_span {p : UInt8 → Bool} {s : ByteArray} : ∀ (n pos : Nat), pos + n ≤ s.size → (s.data.toList.take pos).all p = true → (∀ j, j < n → p (s.get! (pos + j)) = true) → (s.data.toList.take (pos + n)).all p = true
  | 0, pos, _, h, _ => h
  | n + 1, pos, hn, h, hj => by
    have h1 := all_span n pos (by omega) h (fun j hj2 => hj j (by omega))
    have hlt : pos + n < s.size := by omega
    rw [show pos + (n + 1) = (pos + n) + 1 by omega, take_next s _ hlt, List.all_append, h1]
    have := hj n (by omega)
    rw [get_bang s _ hlt] at this
    simp [this]
theorem alike_yes {q : Nat → Bool} {p : UInt8 → Bool} {hi : Bool} (A : Alike q p hi) {s : ByteArray} {pos : Nat} (h : pos < s.size) (hq : q (Utf8.decode s pos).1 = true) (ht : (s.data.toList.take pos).all p = true) :
    pos + (Utf8.decode s pos).2 ≤ s.size ∧ (s.data.toList.take (pos + (Utf8.decode s pos).2)).all p = true := by
  by_cases ha : (s[pos]).toNat < 128
  · rw [decode_ascii s pos h ha] at hq ⊢
    refine ⟨h, ?_⟩
    show (s.data.toList.take (pos + 1)).all p = true
    rw [take_next s pos h, List.all_append, ht]
    have : p s[pos] = true := by rw [A.low _ ha]; exact hq
    simp [this]
  · have hd := decode_high s pos h (by omega)
    have hc := decode_cover s pos h (by omega)
    rw [A.rune _ hd.1] at hq
    exact ⟨hc.1, all_span _ pos hc.1 ht (fun j hj => by rw [A.high _ (hc.2 j hj)]; exact hq)⟩
theorem width_pos (s : ByteArray) (pos : Nat) (h : pos < s.size) : 1 ≤ (Utf8.decode s pos).2 := by
  by_cases ha : (s[pos]'h).toNat < 128
  · rw [decode_ascii s pos h ha]
    exact Nat.le_refl _
  · exact (decode_high s pos h (by omega)).2
end Go.Proofs.YtmbpgjncioegdaaGreatDoor.W03
/-
  Layer 3 (name), walks of what is asked of a rune (mayStand, isPlain), and of hasOnly with each. No condition but those that each theorem bears.
-/
namespace Go.Proofs.YtmbpgjncioegdaaGreatDoor.W03
set_option maxRecDepth 100000
open Go Go.RowKit Go.Proofs.YtmbpgjncioegdaaGreatDoor.Strs Go.Proofs.YtmbpgjncioegdaaGreatDoor.M03
open Go.Proofs.YtmbpgjncioegdaaGreatDoor.Kit (ret_str ret_bool ret_int mk_of below_draws on take_next take_end byte_eq byte_ne)

def mayR (r : Nat) : Bool := decide (r ≠ 0) && decide (r ≠ 47)
def goodB (c : UInt8) : Bool := !badByte c
theorem may_alike : Alike mayR goodB true where
  low := fun c hc => by
    have h0 : (c = 0) ↔ c.toNat = 0 := ⟨fun e => by rw [e]; rfl, fun e => UInt8.toNat_inj.1 e⟩
    have h1 : (c = 47) ↔ c.toNat = 47 := ⟨fun e => by rw [e]; rfl, fun e => UInt8.toNat_inj.1 e⟩
    simp only [goodB, badByte, mayR, h0, h1]
    by_cases a : c.toNat = 0 <;> by_cases b : c.toNat = 47 <;> simp [a, b]
  high := fun c hc => by
    have h0 : ¬ c = 0 := fun e => by rw [e] at hc; revert hc; decide
    have h1 : ¬ c = 47 := fun e => by rw [e] at hc; revert hc; decide
    simp [goodB, badByte, h0, h1]
  rune := fun r hr => by
    have h0 : ¬ r = 0 := by omega
    have h1 : ¬ r = 47 := by omega
    simp [mayR, h0, h1]
theorem may_any (r : Nat) (w : World) :
    Calls Tryz.prog 80 #[.int .i32 r] w fun e w' => e = .returned (.bool (mayR r)) ∧ w' = w := by
  by_cases h0 : r = 0
  · subst h0
    go_enter Tryz.func80, Tryz.ntmps80
    go_wp2
    go_ret
    exact ⟨rfl, rfl⟩
  · have t0 : ((r : Int) != 0) = true := by rw [bne_iff_ne]; omega
    by_cases h1 : r = 47
    · subst h1
      go_enter Tryz.func80, Tryz.ntmps80
      go_wp2
      go_ret
      exact ⟨rfl, rfl⟩
    · have t1 : ((r : Int) != 47) = true := by rw [bne_iff_ne]; omega
      have HE : Hid (mayR r = true) := by show mayR r = true; simp [mayR, h0, h1]
      clear h0 h1
      go_enter Tryz.func80, Tryz.ntmps80
      go_wp2
      go_ret
      exact ⟨ret_bool HE.out.symm, rfl⟩
theorem hasOnly_may (s : ByteArray) (w : World) :
    Calls Tryz.prog 79 #[.string s, .func (.func 80) #[] #[]] w fun e w' => e = .returned (.bool (s.data.toList.all goodB)) ∧ Below w.heap.size w w' := by
  have HF := Lib.hid (fun (r : Nat) (w : World) (_ : r ≤ 2147483647) => may_any r w)
  have A := may_alike
  generalize mayR = q at HF A
  generalize goodB = p at A ⊢
  go_enter Tryz.func79, Tryz.ntmps79
  go_wp2
  go_loopw [] (fun w' => ∃ pos : Nat, pos ≤ s.size ∧ w' = w.iter s pos ∧ Hid ((s.data.toList.take pos).all p = true)) (fun w' => s.size - w'.iterPos w.heap.size)
  case atStart => exact ⟨0, Nat.zero_le _, rfl, Lib.hid rfl⟩
  case round =>
    obtain ⟨pos, hp, rfl, ha⟩ := hrel
    by_cases hlt : pos < s.size
    · have hnx : ∀ ty, (Instr.next (.pointer (some ⟨w.heap.size, 0, none⟩)) true ty).run Tryz.prog (w.iter s pos) = _ := fun ty => run_next_any w s pos ty hlt
      have hwd := width_pos s pos hlt
      have hle := decode_le s pos
      have HQ := Lib.hid (fun h => alike_no A hlt h)
      have HY := Lib.hid (fun h => alike_yes A hlt h ha.out)
      generalize Utf8.decode s pos = d at *
      obtain ⟨r, n⟩ := d
      cases hq : q r with
      | true =>
        have HR := HF.out r
        rw [hq] at HR
        have HR := Lib.hid HR
        obtain ⟨hs, hn⟩ := HY.out hq
        have HN := Lib.hid hn
        clear hn hq
        go_wp2_with fail
        refine (HR.out _ (by omega)).mono ?_
        rintro e w' ⟨rfl, rfl⟩
        go_wp2
        go_roundw
        case rel => exact ⟨pos + n, hs, rfl, HN⟩
        case measure => simp; omega
      | false =>
        have HR := HF.out r
        rw [hq] at HR
        have HR := Lib.hid HR
        have HN := Lib.hid (HQ.out hq)
        clear hq
        go_wp2_with fail
        refine (HR.out _ (by omega)).mono ?_
        rintro e w' ⟨rfl, rfl⟩
        go_wp2
        go_ret
        exact ⟨ret_bool HN.out.symm, (Below.refl _ w).alloc (Nat.le_refl _) _⟩
    · have hnx : ∀ ty, (Instr.next (.pointer (some ⟨w.heap.size, 0, none⟩)) true ty).run Tryz.prog (w.iter s pos) = _ := fun ty => run_next_end w s pos ty hlt
      have HN : Hid (s.data.toList.all p = true) := by
        have := ha.out
        rw [take_end s pos hlt] at this
        exact this
      go_wp2
      go_ret
      exact ⟨ret_bool HN.out.symm, (Below.refl _ w).alloc (Nat.le_refl _) _⟩
end Go.Proofs.YtmbpgjncioegdaaGreatDoor.W03
/-
  Layer 3 (name), walks: what the program's Check, Right and Plain return. No condition but those that each theorem bears.
-/
namespace Go.Proofs.YtmbpgjncioegdaaGreatDoor.W03
set_option maxRecDepth 100000
open Go Go.RowKit Go.Proofs.YtmbpgjncioegdaaGreatDoor.Strs Go.Proofs.YtmbpgjncioegdaaGreatDoor.M03
open Go.Proofs.YtmbpgjncioegdaaGreatDoor.Kit (ret_str ret_bool ret_int mk_of below_draws on list_full list_ne list_none list_nil)

def isPts (l : List UInt8) : Bool := (l == [46]) || (l == [46, 46])
theorem isPoints_any (s : ByteArray) (w : World) :
    Calls Tryz.prog 81 #[.string s] w fun e w' => e = .returned (.bool (isPts s.data.toList)) ∧ w' = w := by
  have HE : Hid (isPts s.data.toList = ((s.toList == [46]) || (s.toList == [46, 46]))) := by
    show isPts _ = _
    rw [Lib.toList_data]; rfl
  cases t1 : (s.toList == [46]) with
  | true =>
    have HX : Hid (isPts s.data.toList = true) := by show isPts _ = _; rw [HE.out, t1]; rfl
    clear HE
    go_enter Tryz.func81, Tryz.ntmps81
    go_wp2
    go_ret
    exact ⟨ret_bool HX.out.symm, rfl⟩
  | false =>
    cases t2 : (s.toList == [46, 46]) with
    | true =>
      have HX : Hid (isPts s.data.toList = true) := by show isPts _ = _; rw [HE.out, t1, t2]; rfl
      clear HE
      go_enter Tryz.func81, Tryz.ntmps81
      go_wp2
      go_ret
      exact ⟨ret_bool HX.out.symm, rfl⟩
    | false =>
      have HX : Hid (isPts s.data.toList = false) := by show isPts _ = _; rw [HE.out, t1, t2]; rfl
      clear HE
      go_enter Tryz.func81, Tryz.ntmps81
      go_wp2
      go_ret
      exact ⟨ret_bool HX.out.symm, rfl⟩
theorem check_of {s : ByteArray} (h0 : 0 < s.size) (h : ¬ (64 : Int) < s.size) : check s.data.toList = if s.data.toList.all goodB = true then (if isPts s.data.toList = true then 6 else 0) else 11 := by
  unfold check
  rw [← Lib.size_eq, if_neg (by omega), if_neg (by omega)]
  have e : s.data.toList.any badByte = !(s.data.toList.all goodB) := by
    rw [List.all_eq_not_any_not, Bool.not_not]
    congr 1
    funext c; simp [goodB]
  rw [e]
  cases s.data.toList.all goodB with
  | false => simp
  | true => simp [isPts]
theorem check_free (s : ByteArray) (w : World) :
    Calls Tryz.prog 66 #[.string s] w fun e w' => e = .returned (.int .i64 (check s.data.toList)) ∧ Below w.heap.size w w' := by
  by_cases h0 : 0 < s.size
  · have z0 := list_full h0
    have z1 := list_ne h0
    by_cases h64 : (64 : Int) < s.size
    · have HE := Lib.hid (check_long h0 h64)
      go_enter Tryz.func66, Tryz.ntmps66
      go_wp2
      go_ret
      exact ⟨ret_int HE.out, Below.refl _ _⟩
    · have HE := Lib.hid (check_of h0 h64)
      have HA := Lib.hid (hasOnly_may s)
      have HP := Lib.hid (isPoints_any s)
      generalize s.data.toList.all goodB = a at *
      generalize isPts s.data.toList = b at *
      have h65 : (s.size : Int) ≤ 64 := by omega
      clear h64
      cases a with
      | false =>
        go_enter Tryz.func66, Tryz.ntmps66
        go_wp2_with fail
        refine (HA.out _).mono ?_
        rintro e w1 ⟨rfl, hb1⟩
        go_wp2
        go_ret
        exact ⟨ret_int (by rw [HE.out]; rfl), hb1⟩
      | true =>
        go_enter Tryz.func66, Tryz.ntmps66
        go_wp2_with fail
        refine (HA.out _).mono ?_
        rintro e w1 ⟨rfl, hb1⟩
        cases b with
        | false =>
          go_wp2_with fail
          refine (HP.out _).mono ?_
          rintro e w2 ⟨rfl, rfl⟩
          go_wp2
          go_ret
          exact ⟨ret_int (by rw [HE.out]; rfl), hb1⟩
        | true =>
          go_wp2_with fail
          refine (HP.out _).mono ?_
          rintro e w2 ⟨rfl, rfl⟩
          go_wp2
          go_ret
          exact ⟨ret_int (by rw [HE.out]; rfl), hb1⟩
  · have z0 := list_none h0
    have z1 := list_nil h0
    have HE := Lib.hid (check_empty h0)
    go_enter Tryz.func66, Tryz.ntmps66
    go_wp2
    go_ret
    exact ⟨ret_int HE.out, Below.refl _ _⟩
theorem check_any (s : ByteArray) (_hs : s.size ≤ 140737488351232) (w : World) :
    Calls Tryz.prog 66 #[.string s] w fun e w' => e = .returned (.int .i64 (check s.data.toList)) ∧ Below w.heap.size w w' := check_free s w
theorem right_any (s : ByteArray) (hs : s.size ≤ 140737488351232) (w : World) :
    Calls Tryz.prog 110 #[.string s] w fun e w' => e = .returned (.bool (decide (check s.data.toList = 0))) ∧ Below w.heap.size w w' := by
  have HC := Lib.hid (check_any s hs)
  generalize check s.data.toList = c at *
  go_enter Tryz.func110, Tryz.ntmps110
  go_wp2_with fail
  refine (HC.out _).mono ?_
  rintro e w1 ⟨rfl, hb⟩
  go_wp2_with fail
  go_ret
  exact ⟨ret_bool (by by_cases h : c = 0 <;> simp [h]), hb⟩
end Go.Proofs.YtmbpgjncioegdaaGreatDoor.W03
/-
  Layer 4 (path), walks: the program's hasOnly with name.Right, isClean and Is, at every text of at most 2^31 bytes.
-/
namespace Go.Proofs.YtmbpgjncioegdaaGreatDoor.W04
open Go Go.RowKit Go.Shelf Go.Proofs.YtmbpgjncioegdaaGreatDoor.Range Go.Proofs.YtmbpgjncioegdaaGreatDoor.M04 Go.Proofs.YtmbpgjncioegdaaGreatDoor.Strs
open Go.Proofs.YtmbpgjncioegdaaGreatDoor.M03 (check)
open Go.Proofs.YtmbpgjncioegdaaGreatDoor.Kit (ret_str ret_bool ret_int mk_of mk_bytes ba_ext below_draws on)
attribute [local go_sem] Oper.semAt_some

def rightOf (x : ByteArray) : Bool := decide (check x.data.toList = 0)
theorem part_size {pre : List ByteArray} {x s : ByteArray} (h : pre ++ [x] <+: partsOf s) : x.size ≤ s.size := by have := buf_room h; omega

set_option maxRecDepth 100000 in
set_option maxHeartbeats 2000000 in
theorem hasOnly_right (s : ByteArray) (hs : s.size ≤ 2147483648) (w : World) : Calls Tryz.prog 109 #[.string s, .func (.func 110) #[] #[]] w fun e w' => e = .returned (.bool ((partsOf s).all rightOf)) ∧ Below w.heap.size w w' := by
  have HP := Lib.hid (parts_at s)
  refine (callsIn_wide (n := 9)).1 ?_
  refine callsIn_of_wp_marks Tryz.func109 rfl trivial ?_ rfl
  simp only [Tryz.ntmps109, List.size_toArray, List.length_cons, List.length_nil, Nat.reduceAdd, Nat.reduceSub, Array.replicate_succ, Array.replicate_zero, List.push_toArray, List.append_toArray, List.nil_append, List.cons_append]
  gi_wp2
  refine ⟨trivial, ?_⟩
  gi_at_call 123
  refine (callsIn_wide.2 (HP.out _)).mono ?_
  rintro e w1 ⟨rfl, rfl⟩
  gi_wp2
  have y0 := Boxed.new w 118 (.func (.func 110) #[] #[])
  have x0 := Boxed.new (w.alloc (.cells #[.func (.func 110) #[] #[]] 118)) 4 (.bool false)
  have x1 := Boxed.new ((w.alloc (.cells #[.func (.func 110) #[] #[]] 118)).alloc (.cells #[.bool false] 4)) 9 (.string s)
  simp only [World.size_alloc] at x0 x1
  replace y0 := (y0.alloc (.cells #[.bool false] 4)).alloc (.cells #[.string s] 9)
  replace x0 := x0.alloc (.cells #[.string s] 9)
  have hb : Below w.heap.size w (((w.alloc (.cells #[.func (.func 110) #[] #[]] 118)).alloc (.cells #[.bool false] 4)).alloc (.cells #[.string s] 9)) := (((Below.refl _ w).alloc (Nat.le_refl _) _).alloc (by simp) _).alloc (by simp; omega) _
  have hsz : (((w.alloc (.cells #[.func (.func 110) #[] #[]] 118)).alloc (.cells #[.bool false] 4)).alloc (.cells #[.string s] 9)).heap.size = w.heap.size + 3 := by simp
  generalize ((w.alloc (.cells #[.func (.func 110) #[] #[]] 118)).alloc (.cells #[.bool false] 4)).alloc (.cells #[.string s] 9) = U at *
  refine wp_range (gf := 135) (lb := #[.pointer (some ⟨w.heap.size + 1 + 1, 0, none⟩)]) rfl (enters_of Tryz.func135 (by kernel_rfl) rfl)
    (parts_seq (w.heap.size + 1 + 1) s (by omega) U x1.cell (by omega)) (fun k hk => hk.elim) rfl
    (fun k => w.heap.size + 3 ≤ k ∧ k < w.heap.size + 11) (fun k => by unfold Its; rw [hsz]; simp)
    (fun pre W => Hid (pre.all rightOf = true) ∧ Boxed W w.heap.size 118 (.func (.func 110) #[] #[]) ∧ Boxed W (w.heap.size + 1) 4 (.bool false) ∧ Below w.heap.size w W)
    (fun c pre W => c = .ret ∧ Hid (pre.all rightOf = false) ∧ Boxed W (w.heap.size + 1) 4 (.bool false) ∧ Below w.heap.size w W)
    (by
      rintro pre X Y ⟨h0, h1, h2, h3⟩ ht
      exact ⟨h0, ht.keeps h1 (by omega), ht.keeps h2 (by omega), h3.trans (ht.below (by intro k hk; omega) h3.size)⟩)
    (by
      rintro c pre X Y ⟨h0, h1, h2, h3⟩ ht
      exact ⟨h0, h1, ht.keeps h2 (by omega), h3.trans (ht.below (by intro k hk; omega) h3.size)⟩)
    ⟨rfl, y0, x0, hb⟩
    (fun x => { tmps := #[.string s, .func (.func 110) #[] #[], undef, .pointer (some ⟨w.heap.size, 0, none⟩), .pointer (some ⟨w.heap.size + 1, 0, none⟩), .string x, .string s, .func (.func 135) #[] #[.pointer (some ⟨w.heap.size + 1 + 1, 0, none⟩)], .string x, undef, undef, undef, undef], defers := [] }) ?assign ?body ?done ?stop
  case assign =>
    intro l x W K hK
    gi_wp2
    exact hK
  case body =>
    rintro l pre x W ⟨hal, hm, hv, hB⟩ hW hpre
    have hcm := hm.cell
    have hc := hv.cell
    have hf := hv.frozen
    have HR := Lib.hid (W03.right_any x (by have := part_size hpre; omega))
    have HA : Hid ((pre ++ [x]).all rightOf = rightOf x) := by show _ = _; rw [List.all_append, hal.out]; simp
    rw [show decide (check x.data.toList = 0) = rightOf x from rfl] at HR
    clear hal hpre
    cases hrx : rightOf x with
    | true =>
      rw [hrx] at HR HA
      gi_wp2
      refine ⟨trivial, ?_⟩
      gi_at_call 110
      refine (CallsIn.inRound l (callsIn_wide.2 (HR.out _))).mono ?_
      rintro e w5 ⟨rfl, hb5⟩
      gi_wp2
      exact ⟨Turns.new hb5, HA, (Turns.new hb5 (T := fun _ => False)).keeps hm id, (Turns.new hb5 (T := fun _ => False)).keeps hv id, on hB hb5⟩
    | false =>
      rw [hrx] at HR HA
      gi_wp2
      refine ⟨trivial, ?_⟩
      gi_at_call 110
      refine (CallsIn.inRound l (callsIn_wide.2 (HR.out _))).mono ?_
      rintro e w5 ⟨rfl, hb5⟩
      have hv5 : Boxed w5 (w.heap.size + 1) 4 (.bool false) := (Turns.new hb5 (T := fun _ => False)).keeps hv id
      have hc5 := hv5.cell
      have hf5 := hv5.frozen
      gi_wp2
      exact ⟨(Turns.new hb5).trans (Turns.setCell _ (by simp)), rfl, HA, hv5.set _, (on hB hb5).setCell (p := ⟨w.heap.size + 1, 0, none⟩) (by simp) _⟩
  case done =>
    rintro W ⟨hal, hm, hv, hB⟩ hK
    have hc := hv.cell
    have hf := hv.frozen
    have hv2 := hv.set (.bool true)
    have hK' : (W.setCell ⟨w.heap.size + 1, 0, none⟩ (.bool true)).heap[U.heap.size]? = some (.deferred (some [])) := (Turns.setCell (T := fun k => k = w.heap.size + 1) _ rfl).keeps hK (by omega)
    gi_wp2
    refine ⟨by simp, .inl ⟨_, _, rfl, run_takeDeferred hK', ?_⟩⟩
    have hv3 : Boxed ((W.setCell ⟨w.heap.size + 1, 0, none⟩ (.bool true)).putObj U.heap.size (.deferred none)) (w.heap.size + 1) 4 (.bool true) := (Turns.putObj (T := fun k => k = U.heap.size) _ rfl).keeps hv2 (by omega)
    have hc5 := hv3.cell
    refine ⟨.bool true, ?_, by rw [hal.out], (hB.setCell (p := ⟨w.heap.size + 1, 0, none⟩) (by simp) _).trans ((Turns.putObj (T := fun k => w.heap.size ≤ k) _ (by omega)).below (fun _ h => h) (by simpa using hB.size))⟩
    simp [results, Tryz.f109, go_sem, hc5]
  case stop =>
    rintro c pre W hpre ⟨rfl, hal, hv, hB⟩ hK
    gi_wp2
    refine ⟨by simp, .inl ⟨_, _, rfl, run_takeDeferred hK, ?_⟩⟩
    have hv3 : Boxed (W.putObj U.heap.size (.deferred none)) (w.heap.size + 1) 4 (.bool false) := (Turns.putObj (T := fun k => k = U.heap.size) _ rfl).keeps hv (by omega)
    have hc5 := hv3.cell
    have hall : (partsOf s).all rightOf = false := by
      obtain ⟨t, ht⟩ := hpre
      rw [← ht, List.all_append, hal.out]; rfl
    refine ⟨.bool false, ?_, by rw [hall], hB.trans ((Turns.putObj (T := fun k => w.heap.size ≤ k) _ (by omega)).below (fun _ h => h) hB.size)⟩
    simp [results, Tryz.f109, go_sem, hc5]
end Go.Proofs.YtmbpgjncioegdaaGreatDoor.W04
/-
  Layer 4 (path), plain mathematics: how the landed program reckons Is, Join, Dir, Base and Under of texts of bytes, and that it comes to what the plain answers tell. No condition but those that each theorem bears.
-/
namespace Go.Proofs.YtmbpgjncioegdaaGreatDoor.W04
open Go Go.RowKit Go.Proofs.YtmbpgjncioegdaaGreatDoor.M04
open Go.Proofs.YtmbpgjncioegdaaGreatDoor.M03 (check)
open Go.Proofs.YtmbpgjncioegdaaGreatDoor.Kit (mk_bytes mk_of ba_ext take_bytes drop_bytes cat_bytes)

theorem check_points : ¬ check [46, 46] = 0 := by decide
/-- Is -/
theorem isPath_real (l : Bytes) : isPath l = (decide (l.length ≤ 1024) && decide (clean l = l) && (parts l).all (fun p => decide (check p = 0))) := by
  unfold isPath
  cases h : (parts l).all (fun p => decide (check p = 0)) with
  | false => simp
  | true =>
    have hp : ∀ p ∈ parts l, p ≠ [46, 46] := by
      intro p hm e
      have := (List.all_eq_true.1 h) p hm
      rw [e] at this
      exact check_points (of_decide_eq_true this)
    have e : clean l = text (parts l) := by unfold clean; rw [cparts_plain hp]
    rw [e, Bool.and_true, Bool.and_true, Bool.and_comm]
    congr 1
    exact decide_eq_decide.2 ⟨fun h => h.symm, fun h => h.symm⟩
/-- Join -/
theorem prefix_slash (l : Bytes) : Lib.hasPrefix l [47] = decide (l.head? = some 47) := by
  unfold Lib.hasPrefix
  cases l with
  | nil => rfl
  | cons c r =>
    show ((47 : UInt8) == c && ([] : Bytes).isPrefixOf r) = _
    rw [List.isPrefixOf_nil_left, Bool.and_true]
    by_cases h : c = 47
    · subst h; simp
    · have h2 : ¬ (47 : UInt8) = c := fun e => h e.symm
      simp [h, h2]
end Go.Proofs.YtmbpgjncioegdaaGreatDoor.W04
