/-
  Layer 4 (path): how a clean path is built in a row of bytes: a part is laid behind a slash, two points take the last part away; and a row of bytes of one's own: what is laid behind it, cut off it, read out of it. No condition but those that each theorem bears.
-/
import Derived.Test.YthplnkchmelbmaaDoorW04Last
import Derived.Test.YthplnkchmelbmaaDoorW04Iter
import Derived.Test.YthplnkchmelbmaaDoorStrOwn
import Derived.Room.AppendFits
import Derived.OwnWalkIn
namespace Go.Proofs.YthplnkchmelbmaaDoor.W04
open Go Go.RowKit Go.Proofs.YthplnkchmelbmaaDoor.Range Go.Proofs.YthplnkchmelbmaaDoor.M04
open Go.Proofs.YthplnkchmelbmaaDoor.Kit (mk_bytes mk_of ba_ext take_bytes cat_bytes)

def flat (L : List Bytes) : Bytes := L.flatMap (fun p => 47 :: p)
theorem flat_more (L : List Bytes) (p : Bytes) : flat (L ++ [p]) = flat L ++ 47 :: p := by unfold flat; rw [List.flatMap_append]; simp
/-- what the buffer holds when the texts of pre have come -/
def datas (pre : List ByteArray) : List Bytes := pre.map fun x => x.data.toList
def bufOf (pre : List ByteArray) : Bytes := flat (cparts (datas pre))
theorem datas_more (pre : List ByteArray) (x : ByteArray) : datas (pre ++ [x]) = datas pre ++ [x.data.toList] := by unfold datas; rw [List.map_append]; rfl
theorem cparts_more (L : List Bytes) (p : Bytes) : cparts (L ++ [p]) = cstep (cparts L) p := by rw [cparts_append]; rfl
theorem buf_part {pre : List ByteArray} {x : ByteArray} (h : x.data.toList ≠ [46, 46]) : bufOf (pre ++ [x]) = bufOf pre ++ 47 :: x.data.toList := by
  unfold bufOf; rw [datas_more, cparts_more, cstep, if_neg h, flat_more]
theorem last_flat {L : List Bytes} (h : ∀ p ∈ L, Part p) : (flat L).take (max 0 (lastSlash (flat L))).toNat = flat L.dropLast := by
  rcases List.eq_nil_or_concat L with rfl | ⟨o, p, rfl⟩
  · rfl
  · rw [List.concat_eq_append] at *
    have hp := (h p (by simp)).1
    have e : lastSlash (flat (o ++ [p])) = ((flat o).length : Int) := by
      refine last_at ?_ ?_ ?_
      · rw [flat_more]; simp
      · rw [flat_more, List.getD_eq_getElem?_getD, List.getElem?_append_right (Nat.le_refl _)]; simp
      · rw [flat_more, List.drop_append, List.drop_of_length_le (Nat.le_succ _)]; simpa using hp
    rw [e, List.dropLast_concat, flat_more, show (max 0 ((flat o).length : Int)).toNat = (flat o).length by omega, List.take_left]
theorem parts_of_prefix {pre : List ByteArray} {s : ByteArray} (h : pre <+: partsOf s) : ∀ p ∈ datas pre, Part p := by
  intro p hp
  unfold datas at hp
  obtain ⟨x, hx, rfl⟩ := List.mem_map.1 hp
  have hm := h.subset hx
  unfold partsOf at hm
  obtain ⟨q, hq, rfl⟩ := List.mem_map.1 hm
  exact parts_are _ q hq
theorem buf_points {pre : List ByteArray} {x s : ByteArray} (hp : pre <+: partsOf s) (h : x.data.toList = [46, 46]) : bufOf (pre ++ [x]) = (bufOf pre).take (max 0 (lastSlash (bufOf pre))).toNat := by
  unfold bufOf
  rw [datas_more, cparts_more, cstep, if_pos h, last_flat (fun p hm => (cparts_are (parts_of_prefix hp) p hm).1)]
theorem total_datas {pre : List ByteArray} {s : ByteArray} (h : pre <+: partsOf s) : total (datas pre) ≤ s.size + 1 := by
  obtain ⟨t, ht⟩ := h
  have h1 := parts_total s.data.toList
  have e : datas (partsOf s) = parts s.data.toList := map_data _
  rw [← e, ← ht, show datas (pre ++ t) = datas pre ++ datas t from List.map_append, total_append] at h1
  rw [Lib.size_eq]; omega
theorem buf_room {pre : List ByteArray} {x s : ByteArray} (h : pre ++ [x] <+: partsOf s) : (bufOf pre).length + (x.size + 1) ≤ s.size + 1 := by
  have h1 := total_datas h
  have h2 := fold_total (datas pre) []
  rw [datas_more, total_append] at h1
  unfold bufOf
  rw [show (flat (cparts (datas pre))).length = total (cparts (datas pre)) from flat_total _]
  have e : total [x.data.toList] = x.size + 1 := by rw [Lib.size_eq]; rfl
  have e2 : total ([] : List Bytes) = 0 := rfl
  unfold cparts
  omega
theorem buf_end (s : ByteArray) : bufOf (partsOf s) = flat (cparts (parts s.data.toList)) := by unfold bufOf; rw [show datas (partsOf s) = parts s.data.toList from map_data _]
theorem clean_flat {s d : ByteArray} (h : d.data.toList = clean s.data.toList) : (bufOf (partsOf s) = [] ∧ d = ⟨#[47]⟩) ∨ (bufOf (partsOf s) ≠ [] ∧ d.data.toList = bufOf (partsOf s)) := by
  rw [buf_end]
  unfold clean text at h
  by_cases e : cparts (parts s.data.toList) = []
  · left
    rw [if_pos e] at h
    exact ⟨by rw [e]; rfl, ba_ext h⟩
  · right
    rw [if_neg e] at h
    refine ⟨?_, h⟩
    cases hc : cparts (parts s.data.toList) with
    | nil => exact absurd hc e
    | cons p q => simp [flat]

/-! a row of bytes of one's own -/
/-- block g is a row of bytes: d, and room for cap bytes in all -/
def Buf (W : World) (base g cap : Nat) (d : ByteArray) : Prop := W.ownsRow base 5 1 (.slice (some ⟨g, 0, none⟩) d.size cap) d.size (Lib.strCells d)
theorem buf_turn {T : Nat → Prop} {A B : World} {base g cap : Nat} {d : ByteArray} (h : Buf A base g cap d) (ht : Turns T A B) (hg : ¬ T g) : Buf B base g cap d := by
  refine ⟨h.1, ?_⟩
  rcases h.2 with ⟨h0, _⟩ | ⟨g', cap', cur, e1, hb, hh, rest⟩
  · cases h0
  · cases e1
    exact Or.inr ⟨g, cap, cur, rfl, hb, ht.keeps hh hg, rest⟩
theorem buf_cut {W : World} {base g cap k : Nat} {d : ByteArray} (h : Buf W base g cap d) (hk : k ≤ d.size) : Buf W base g cap (d.extract 0 k) := by
  have e : (d.extract 0 k).size = k := by rw [ByteArray.size_extract]; omega
  have e2 : Lib.strCells (d.extract 0 k) = (Lib.strCells d).take k := by unfold Lib.strCells; rw [take_bytes, List.map_take]
  unfold Buf
  rw [e, e2]
  obtain ⟨h1, h2⟩ := h
  refine ⟨by rw [List.length_take, Lib.strCells_length]; omega, ?_⟩
  rcases h2 with ⟨h0, _⟩ | ⟨g', cap', cur, e1, hb, hh, hn, hm, hs, ht⟩
  · cases h0
  · cases e1
    refine Or.inr ⟨g, cap, cur, rfl, hb, hh, by omega, hm, hs, ?_⟩
    rw [← ht, List.take_take]
    congr 1; omega
theorem buf_more {W : World} {base g cap n : Nat} {d x : ByteArray} {xs : List Value} (h : W.ownsRow base 5 1 (.slice (some ⟨g, 0, none⟩) n cap) n xs) (hn : n = (d ++ x).size) (hx : xs = Lib.strCells d ++ Lib.strCells x) : Buf W base g cap (d ++ x) := by
  unfold Buf
  have e : Lib.strCells (d ++ x) = Lib.strCells d ++ Lib.strCells x := by unfold Lib.strCells; rw [cat_bytes, List.map_append]
  rw [e, ← hx, ← hn]; exact h
theorem buf_caps {W : World} {base g cap : Nat} {d : ByteArray} (h : Buf W base g cap d) : d.size ≤ cap ∧ cap ≤ maxLen := by
  rcases h.2 with ⟨h0, _⟩ | ⟨g', cap', cur, e1, hb, hh, hn, hm, hs, ht⟩
  · cases h0
  · cases e1; exact ⟨hn, hm⟩
theorem buf_conv {W : World} {base g cap : Nat} {d : ByteArray} (h : Buf W base g cap d) : (convert 53 9 (.slice (some ⟨g, 0, none⟩) d.size cap)).run Tryd.prog W = .ok (.string d) W := by
  have h2 := run_convert_bytes_back (P := Tryd.prog) W 53 9 5 ⟨g, 0, none⟩ cap d.data.toList Tryd.underlying53 Tryd.underlying5 Tryd.underlying9 (fun j hj => by
    have hj2 : j < d.size := by rw [Lib.size_eq]; exact hj
    exact h.cells (g := g) rfl j _ (cells_get d j hj2))
  rw [← Lib.size_eq, mk_bytes] at h2
  exact h2
/-- 'append(b, s...)' of a text onto a row with room, in a fenced walk -/
theorem wp_append_text {F : Fence} {n : Nat} {P : Program} (w : World) {ops : Array Oper} {rest : List Oper} {o : Oper} {a : Act} {Q : Exit → Act → World → Prop}
    (hg : o.guard = none) (s x : Operand) (t u : TypeId) (hop : o.op = Op.call { callee := Callee.builtin Builtin.append, args := #[s, x], argTypes := #[t, u] })
    (base : Nat) (e : TypeId) (i : TypeInfo) (h1 : P.underlying t = some (.slice e)) (hu : P.underlying u = some .string) (h2 : P.info? e = some i) (h4 : i.size = 1)
    (p : Option Addr) (k cap : Nat) (xs : List Value) (hs : a.eval s = .slice p k cap) (hown : w.ownsRow base e 1 (.slice p k cap) k xs) (str : ByteArray) (hx : a.eval x = .string str) (hc : 0 < cap) (hroom : k + str.size ≤ cap)
    (hK : ∀ w', w'.ownsRow base e 1 (.slice p (k + str.size) cap) (k + str.size) (xs ++ Lib.strCells str) → w.grownBy w' (Value.ownBlock (.slice p k cap)) → wpListIn F n P ops Q rest (a.put o.dst (.slice p (k + str.size) cap)) w') :
    wpListIn F n P ops Q (o :: rest) a w := by
  refine wpListIn_plain hg fun K hK' => ?_
  obtain ⟨w', hrun, r1, r2⟩ := Lib.run_append_fits_string (P := P) w base t u o.type e i h1 hu h2 h4 p k cap xs hown str hc hroom
  unfold Oper.wpIn
  refine ⟨?_, ?_⟩
  · simp [Oper.about, hop, resolve, Target.leads, Sem.run_pure]
  · rw [Oper.semAt_plain F _ _ (by rw [hop]; intro c hc'; cases hc')]
    simp [execOp, hop, resolve, invoke, builtin, hs, hx, hrun, Result.andThen]
    exact hK' _ _ (hK w' r1 r2)
/-- a variable's box and the row g of the slice that it holds, behind what has turned g alone, and a store into the box -/
theorem box_stored {W A w1 : World} {B g : Nat} {t : TypeId} {v : Value} (v' : Value) (hv : Boxed W B t v) (hA : Turns (fun _ => False) W A) (hg : A.grownBy w1 (some g)) (hne : B ≠ g) :
    Boxed w1 B t v ∧ Boxed (w1.setCell ⟨B, 0, none⟩ v') B t v' ∧ Turns (fun k => k = B ∨ k = g) W (w1.setCell ⟨B, 0, none⟩ v') ∧ Turns (fun k => k = B) w1 (w1.setCell ⟨B, 0, none⟩ v') := by
  have hv1 : Boxed w1 B t v := (Boxed.kept (hA.keeps hv id) hg (by simpa using hne))
  exact ⟨hv1, hv1.set v', (((hA.wider fun _ h => h.elim).trans (Turns.of_grown hg (fun r e => by cases e; exact Or.inr rfl))).trans (Turns.setCell _ (Or.inl rfl))), Turns.setCell _ rfl⟩
theorem cells_more (d x : ByteArray) : Lib.strCells (d ++ x) = Lib.strCells d ++ Lib.strCells x := by unfold Lib.strCells; rw [cat_bytes, List.map_append]
end Go.Proofs.YthplnkchmelbmaaDoor.W04
