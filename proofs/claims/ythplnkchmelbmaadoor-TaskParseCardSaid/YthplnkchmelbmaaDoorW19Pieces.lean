/-
  Layer 19 (task), a walk: the document's parts: a text's pieces between blanks, in new memory. The conditions stand in the statement.
-/
import Derived.Test.YthplnkchmelbmaaDoorW19Split
import Derived.Test.YthplnkchmelbmaaDoorW19Right
import Derived.Test.YthplnkchmelbmaaDoorStrOwn
import Derived.RegionTactic
import Derived.BigRegion
import Derived.Test.YthplnkchmelbmaaDoorW19Line
import Derived.Laws.OwnMore
namespace Go.Proofs.YthplnkchmelbmaaDoor.W19
set_option maxRecDepth 100000
open Go Go.RowKit Go.Proofs.YthplnkchmelbmaaDoor.M19 Go.Proofs.YthplnkchmelbmaaDoor.Strs
open Go.Proofs.YthplnkchmelbmaaDoor.Kit (ret_str ret_bool ret_int mk_of mk_bytes ba_ext below_draws on take_next one_size one_byte byte_eq byte_ne)

/-- an own row of texts -/
def RowT (W : World) (base : Nat) (v : Value) (L : List Bytes) : Prop := W.ownsRow base 9 1 v L.length (L.map strV)
section
variable {W W' : World} {base : Nat} {v : Value} {L : List Bytes}
theorem rowT_more {now : ByteArray} (h : W.ownsRow base 9 1 v (L.length + 1) (L.map strV ++ [.string now])) : RowT W base v (L ++ [now.data.toList]) := own_more h
theorem rowT_new (w : World) : RowT (w.alloc (.cells #[.string ⟨#[]⟩] 9)) w.heap.size (.slice (some ⟨w.heap.size, 0, none⟩) 1 1) [[]] :=
  ⟨rfl, Or.inr ⟨w.heap.size, 1, #[.string ⟨#[]⟩], rfl, Nat.le_refl _, by show (w.heap.push _)[w.heap.size]? = _; simp, Nat.le_refl _, by unfold maxLen; omega, rfl, rfl⟩⟩
theorem rowT_form (h : RowT W base v L) (h0 : L ≠ []) : ∃ g c, v = .slice (some ⟨g, 0, none⟩) L.length c ∧ base ≤ g ∧ L.length ≤ c ∧ c ≤ maxLen := by
  rcases h.2 with ⟨-, h1⟩ | ⟨g, cap, cur, rfl, hb, hg, hn, hc, -⟩
  · exact absurd (List.length_eq_zero_iff.1 h1) h0
  · exact ⟨g, cap, rfl, hb, hn, hc⟩
theorem rowT_last {g n c : Nat} {now : ByteArray} (h : RowT W base (.slice (some ⟨g, 0, none⟩) n c) (L ++ [now.data.toList])) (hn : n = L.length + 1) : W.cell? ⟨g, L.length, none⟩ = some (.string now) ∧ W.frozen? ⟨g, L.length, none⟩ = false := by
  have e : n = (L ++ [now.data.toList]).length := by rw [hn, List.length_append]; rfl
  subst e
  refine ⟨?_, World.ownsRow.frozenAt h _⟩
  rw [World.ownsRow.cellAt h L.length (by simp), List.getElem?_map, List.getElem?_append_right (Nat.le_refl _), Nat.sub_self]
  show some (strV now.data.toList) = _
  unfold strV
  rw [mk_bytes]
theorem rowT_set {g n c : Nat} {now q : ByteArray} (h : RowT W base (.slice (some ⟨g, 0, none⟩) n c) (L ++ [now.data.toList])) (hn : n = L.length + 1) : RowT (W.setCell ⟨g, L.length, none⟩ (.string q)) base (.slice (some ⟨g, 0, none⟩) n c) (L ++ [q.data.toList]) := by
  have e : n = (L ++ [now.data.toList]).length := by rw [hn, List.length_append]; rfl
  subst e
  have h2 := (World.ownsRow.stored h L.length (.string q)).1
  have e2 : ((L ++ [now.data.toList]).map strV).set L.length (.string q) = (L ++ [q.data.toList]).map strV := by
    rw [List.map_append, List.map_append, List.set_append_right _ _ (by simp)]
    show _ ++ [strV now.data.toList].set _ _ = _ ++ [strV q.data.toList]
    rw [List.length_map, Nat.sub_self]
    show _ ++ [Value.string q] = _
    unfold strV
    rw [mk_bytes]
  rw [e2] at h2
  have e3 : (L ++ [q.data.toList]).length = (L ++ [now.data.toList]).length := by rw [List.length_append, List.length_append]; rfl
  unfold RowT
  rw [e3]
  exact h2
end
theorem rowT_below {W W' : World} {base : Nat} {v : Value} {L : List Bytes} (h : RowT W base v L) (hb : Below W.heap.size W W') : RowT W' base v L := by
  refine ⟨h.1, ?_⟩
  rcases h.2 with h2 | ⟨g, cap, cur, e, hg, hh, hr⟩
  · exact Or.inl h2
  · refine Or.inr ⟨g, cap, cur, e, hg, ?_, hr⟩
    have hlt : g < W.heap.size := by
      rcases Nat.lt_or_ge g W.heap.size with hlt | hge
      · exact hlt
      · rw [Array.getElem?_eq_none hge] at hh; cases hh
    exact (hb.block g hlt).trans hh
/-- what a call returns that makes pieces -/
def Piecing (w : World) (l : Bytes) (e : Ending) (w' : World) : Prop := ∃ (v : Value) (L : List Bytes), e = .returned v ∧ Pieces l L ∧ RowT w' w.heap.size v L ∧ L.length ≤ l.length + 1 ∧ Below w.heap.size w w'
set_option maxHeartbeats 2000000 in
theorem parts_any (s : ByteArray) (hs : s.size ≤ 2147483648) (w : World) : Calls Tryd.prog 27 #[.string s] w (Piecing w s.data.toList) := by
  obtain ⟨i0, hi, hz0, hz1, hz2⟩ := info_parts text_info
  have R0 := Lib.hid (rowT_new w)
  have B0 := Lib.hid ((Below.refl w.heap.size w).alloc (Nat.le_refl _) (.cells #[.string ⟨#[]⟩] 9))
  go_enter Tryd.func27, Tryd.ntmps27
  go_wp2
  go_loopw [3, 4] (fun v i wr => ∃ (k : Nat) (L : List Bytes) (now : ByteArray) (va : Value), va = v ∧ k ≤ s.size ∧ L.length ≤ k ∧ now.size ≤ k ∧ i = .int .i64 k ∧ Hid (RowT wr w.heap.size v (L ++ [now.data.toList])) ∧ Hid (Pieces (s.data.toList.take k) (L ++ [now.data.toList])) ∧ Hid (Below w.heap.size w wr)) (fun _ i _ => s.size - (intOf i).toNat)
  case atStart => exact ⟨0, [], ⟨#[]⟩, _, rfl, Nat.zero_le _, Nat.zero_le _, Nat.zero_le _, rfl, R0, pieces_start, B0⟩
  case round =>
    obtain ⟨k, L, now, va, rfl, hk, hL, hnow, rfl, hown, hq, hb⟩ := hrel
    obtain ⟨g, c, rfl, hg, hc1, hc2⟩ := rowT_form hown.out (by simp)
    have hn : (L ++ [now.data.toList]).length = L.length + 1 := by rw [List.length_append]; rfl
    rw [hn] at hown hc1 ⊢
    unfold maxLen at hc2
    have hbs := Lib.hid hb.out.size
    by_cases hlt : k < s.size
    · have HN := Lib.hid (take_next s k hlt)
      by_cases h32 : (s[k].toNat : Int) = 32
      · have HX : Hid (Pieces (s.data.toList.take (k + 1)) (L ++ [now.data.toList] ++ [(⟨#[]⟩ : ByteArray).data.toList])) := by
          have := pieces_blank hq.out
          rw [HN.out, byte_eq (d := 32) h32]; exact this
        have t32 : ((s[k].toNat : Int) == 32) = true := by simp [h32]
        clear h32
        go_wp2_with (at_builtin; refine wpList_append_own _ rfl (.tmp 16) (.tmp 17) 39 rfl w.heap.size 9 i0 (.string ⟨#[]⟩) 1 16 Tryd.underlying39 hi hz0 hz1 hz2 rfl (by decide) _ _ _ rfl (hown.out.alloc _) ⟨_, 0, none⟩ 1 1 [.string ⟨#[]⟩] rfl rfl (cell_one_new _ _ _) (by intro u hu; simp at hu; subst hu; rfl) (by unfold maxLen; omega) (by omega) (by simp; exact Nat.le_succ_of_le hbs.out) ?_; intro v1 w1 hown1 hgrow1 _)
        have B1 := Lib.hid (below_more hb.out hown.out hgrow1)
        have O1 : Hid (RowT w1 w.heap.size v1 (L ++ [now.data.toList] ++ [(⟨#[]⟩ : ByteArray).data.toList])) := rowT_more hown1
        clear hown1 hgrow1
        go_wp2_with fail
        go_roundw
        case rel => exact ⟨k + 1, L ++ [now.data.toList], ⟨#[]⟩, _, rfl, by omega, by rw [hn]; omega, Nat.zero_le _, by go_num, O1, HX, B1⟩
        case measure => simp [intOf]; omega
      · have HX : Hid (Pieces (s.data.toList.take (k + 1)) (L ++ [(now ++ s.extract k (k + 1)).data.toList])) := by
          have := pieces_byte hq.out (byte_ne (d := 32) h32)
          show Pieces _ _
          rw [HN.out, Kit.cat_bytes, one_byte s k hlt]; exact this
        have t32 : ((s[k].toNat : Int) == 32) = false := by simp [h32]
        have h1 := one_size s k hlt
        obtain ⟨hc0, hf0⟩ := rowT_last hown.out rfl
        have RX := Lib.hid (rowT_set (q := now ++ s.extract k (k + 1)) hown.out rfl)
        have BX := Lib.hid (hb.out.setCell (p := ⟨g, L.length, none⟩) hg (.string (now ++ s.extract k (k + 1))))
        have hsz : (now ++ s.extract k (k + 1)).size = now.size + 1 := by rw [ByteArray.size_append, h1]
        have hr1 : ∀ w : World, (Op.stringOp .add now (s.extract k (k + 1))).run Tryd.prog w = .ok (.string (now ++ s.extract k (k + 1))) w := fun w => run_string_add_sum w _ _ (by omega)
        clear h32 hn
        generalize hm : L.length = m at hL hc1 hc0 hf0 RX BX hown ⊢
        have HM := Lib.hid hm
        clear hm
        have hwm : IntKind.i64.wrap (m : Int) = (m : Int) := wrap_i64 (by omega) (by omega)
        go_wp2_with fail
        go_region
        have RX2 : Hid (RowT (wr.setCell ⟨g, m, none⟩ (.string (now ++ s.extract k (k + 1)))).drew w.heap.size (.slice (some ⟨g, 0, none⟩) (m + 1) c) (L ++ [(now ++ s.extract k (k + 1)).data.toList])) := RX.out
        have BX2 : Hid (Below w.heap.size w (wr.setCell ⟨g, m, none⟩ (.string (now ++ s.extract k (k + 1)))).drew) := BX.out.drew
        clear hr1 hwm hc0 hf0 RX BX
        go_wp2_with fail
        go_roundw
        case rel => exact ⟨k + 1, L, _, _, rfl, by omega, by rw [HM.out]; omega, by rw [hsz]; omega, by go_num, RX2, HX, BX2⟩
        case measure => simp [intOf]; omega
    · have HE := Lib.hid (Kit.take_end s k hlt)
      have HP : Hid (Pieces s.data.toList (L ++ [now.data.toList])) := by have := hq.out; rwa [HE.out] at this
      go_wp2_with fail
      go_ret
      exact ⟨_, _, rfl, HP.out, hown.out, by rw [hn, ← Lib.size_eq]; omega, hb.out⟩
end Go.Proofs.YthplnkchmelbmaaDoor.W19
