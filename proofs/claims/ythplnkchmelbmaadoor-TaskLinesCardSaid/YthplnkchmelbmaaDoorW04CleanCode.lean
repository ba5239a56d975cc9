/-
  Layer 4 (path), a walk: the program's Clean: a path taken from / on as a clean one, at every text of less than 2^48 bytes; nothing that was there is changed.
-/
import Derived.Test.YthplnkchmelbmaaDoorW04Buf
import Derived.Test.YthplnkchmelbmaaDoorW04Walk
namespace Go.Proofs.YthplnkchmelbmaaDoor.W04
open Go Go.RowKit Go.Shelf Go.Proofs.YthplnkchmelbmaaDoor.Range Go.Proofs.YthplnkchmelbmaaDoor.M04 Go.Proofs.YthplnkchmelbmaaDoor.Strs
open Go.Proofs.YthplnkchmelbmaaDoor.Kit (ret_str ret_bool ret_int mk_of mk_bytes ba_ext below_draws on)
attribute [local go_sem] Oper.semAt_some

theorem byte_info : (Tryd.prog.info? 5).map (fun i => (i.zero, i.size, i.bytes)) = some (some (.int .u8 0), 1, 1) := by kernel_rfl

set_option maxRecDepth 100000 in
set_option maxHeartbeats 2000000 in
theorem clean_at (s d : ByteArray) (hd : d.data.toList = clean s.data.toList) (hs : s.size < 281474976710656) (w : World) : Calls Tryd.prog 44 #[.string s] w fun e w' => e = .returned (.string d) ∧ Below w.heap.size w w' := by
  obtain ⟨i0, hi, hz0, hz1, hz2⟩ := info_parts byte_info
  have HP := Lib.hid (parts_at s)
  have HD := Lib.hid (clean_flat hd)
  clear hd
  refine (callsIn_wide (n := 9)).1 ?_
  refine callsIn_of_wp_marks Tryd.func44 rfl trivial ?_ rfl
  simp only [Tryd.ntmps44, List.size_toArray, List.length_cons, List.length_nil, Nat.reduceAdd, Nat.reduceSub, Array.replicate_succ, Array.replicate_zero, List.push_toArray, List.append_toArray, List.nil_append, List.cons_append]
  gi_wp2_with (gi_at_make; refine wpListIn_make_own _ rfl _ _ 53 rfl w.heap.size 5 i0 (.int .u8 0) 1 Tryd.underlying53 hi hz0 hz1 .i64 .i64 _ (s.size + 1) rfl rfl (by go_num) (by rw [hz2]; omega) (by unfold maxLen; omega) (Nat.le_refl _) ?_; intro w1 hown1 hgrow1)
  refine ⟨trivial, ?_⟩
  gi_at_call 45
  refine (callsIn_wide.2 (HP.out _)).mono ?_
  rintro e w2 ⟨rfl, rfl⟩
  gi_wp2
  have hlt : w.heap.size < w1.heap.size := (hown1.lt w.heap.size rfl).2
  have x0 := Boxed.new w1 53 (.slice (some ⟨w.heap.size, 0, none⟩) 0 (s.size + 1))
  have x1 := Boxed.new (w1.alloc (.cells #[.slice (some ⟨w.heap.size, 0, none⟩) 0 (s.size + 1)] 53)) 9 (.string s)
  rw [World.size_alloc] at x1
  replace x0 := x0.alloc (.cells #[.string s] 9)
  have hb : Below w.heap.size w ((w1.alloc (.cells #[.slice (some ⟨w.heap.size, 0, none⟩) 0 (s.size + 1)] 53)).alloc (.cells #[.string s] 9)) := ((((Below.refl _ w).grown hgrow1 (Nat.le_refl _) (fun r e => by cases e)).alloc (by omega) _).alloc (by simp; omega) _)
  have hbuf : Buf w1 w.heap.size w.heap.size (s.size + 1) ⟨#[]⟩ := hown1
  have hU : Buf ((w1.alloc (.cells #[.slice (some ⟨w.heap.size, 0, none⟩) 0 (s.size + 1)] 53)).alloc (.cells #[.string s] 9)) w.heap.size w.heap.size (s.size + 1) ⟨#[]⟩ := buf_turn hbuf ((Turns.alloc (fun _ => False) _ _).trans (Turns.alloc _ _ _)) id
  have hsz : ((w1.alloc (.cells #[.slice (some ⟨w.heap.size, 0, none⟩) 0 (s.size + 1)] 53)).alloc (.cells #[.string s] 9)).heap.size = w1.heap.size + 2 := by simp
  generalize (w1.alloc (.cells #[.slice (some ⟨w.heap.size, 0, none⟩) 0 (s.size + 1)] 53)).alloc (.cells #[.string s] 9) = U at *
  generalize w1.heap.size = B at *
  clear hown1 hgrow1 hbuf
  refine wp_range (gf := 50) (lb := #[.pointer (some ⟨B + 1, 0, none⟩)]) rfl (enters_of Tryd.func50 (by kernel_rfl) rfl)
    (parts_seq (B + 1) s (by omega) U x1.cell (by omega)) (fun k hk => hk.elim) rfl
    (fun k => B + 2 ≤ k ∧ k < B + 10) (fun k => by unfold Its; rw [hsz]; simp)
    (fun pre W => ∃ q : ByteArray, Hid (q.data.toList = bufOf pre) ∧ Boxed W B 53 (.slice (some ⟨w.heap.size, 0, none⟩) q.size (s.size + 1)) ∧ Buf W w.heap.size w.heap.size (s.size + 1) q ∧ Below w.heap.size w W)
    (fun _ _ _ => False)
    (by
      rintro pre X Y ⟨q, h0, h1, h2, h3⟩ ht
      exact ⟨q, h0, ht.keeps h1 (by omega), buf_turn h2 ht (by omega), h3.trans (ht.below (by intro k hk; omega) h3.size)⟩)
    (fun _ _ _ _ h _ => h)
    ⟨⟨#[]⟩, rfl, x0, hU, hb⟩
    (fun x => { tmps := #[.string s, undef, .string ⟨#[]⟩, .pointer (some ⟨B, 0, none⟩), .string x, .string s, .int .i64 s.size, .int .i64 (s.size + 1), .slice (some ⟨w.heap.size, 0, none⟩) 0 (s.size + 1), .string s, .func (.func 50) #[] #[.pointer (some ⟨B + 1, 0, none⟩)], .string x, undef, undef, undef, undef, undef, undef, undef, undef, undef, undef, undef, undef, undef, undef, undef, undef, undef, undef], defers := [] }) ?assign ?body ?done ?stop
  case assign =>
    intro l x W K hK
    gi_wp2
    exact hK
  case body =>
    rintro l pre x W ⟨q, hq, hv, hbuf, hB⟩ hW hpre
    have hc := hv.cell
    have hf := hv.frozen
    have hmx : Tryd.prog.follows .mixedOrders = true := by kernel_rfl
    cases hp : (x.toList == [46, 46]) with
    | true =>
      have hpe := beq_iff_eq.1 hp
      have hdd : x.data.toList = [46, 46] := by rw [← Lib.toList_data]; exact hpe
      obtain ⟨t, ht⟩ := hpre
      have hq2 : Hid ((q.extract 0 (max 0 (lastSlash q.data.toList)).toNat).data.toList = bufOf (pre ++ [x])) := by
        show _ = _
        rw [buf_points (s := s) ⟨[x] ++ t, by rw [← List.append_assoc]; exact ht⟩ hdd, Kit.take_bytes, hq.out]
      have hls := last_le q.data.toList
      rw [← Lib.size_eq] at hls
      have hcap := buf_caps hbuf
      have HLB := Lib.hid (fun (W' : World) (h : Buf W' w.heap.size w.heap.size (s.size + 1) q) => last_bytes w.heap.size q.size (s.size + 1) w.heap.size q rfl hcap.1 hcap.2 W' h)
      obtain ⟨z, hz⟩ : ∃ z, lastSlash q.data.toList = z := ⟨_, rfl⟩
      rw [hz] at hls HLB hq2
      have hsz2 : (q.extract 0 (max 0 z).toNat).size = (max 0 z).toNat := by rw [ByteArray.size_extract]; omega
      have FIN : Hid (∀ n : Nat, Turns (fun k => ¬ (B + 2 ≤ k ∧ k < B + 10)) W ((W.drewN n).setCell ⟨B, 0, none⟩ (.slice (some ⟨w.heap.size, 0, none⟩) (max 0 z).toNat (s.size + 1))) ∧
          ∃ q : ByteArray, Hid (q.data.toList = bufOf (pre ++ [x])) ∧ Boxed ((W.drewN n).setCell ⟨B, 0, none⟩ (.slice (some ⟨w.heap.size, 0, none⟩) (max 0 z).toNat (s.size + 1))) B 53 (.slice (some ⟨w.heap.size, 0, none⟩) q.size (s.size + 1)) ∧ Buf ((W.drewN n).setCell ⟨B, 0, none⟩ (.slice (some ⟨w.heap.size, 0, none⟩) (max 0 z).toNat (s.size + 1))) w.heap.size w.heap.size (s.size + 1) q ∧ Below w.heap.size w ((W.drewN n).setCell ⟨B, 0, none⟩ (.slice (some ⟨w.heap.size, 0, none⟩) (max 0 z).toNat (s.size + 1)))) := by
        show ∀ n : Nat, _
        intro n
        have t1 : Turns (fun k => k = B) W ((W.drewN n).setCell ⟨B, 0, none⟩ (.slice (some ⟨w.heap.size, 0, none⟩) (max 0 z).toNat (s.size + 1))) := (Turns.draw _ W n).trans (Turns.setCell _ rfl)
        refine ⟨t1.wider (by intro k hk; omega), _, hq2, ?_, buf_turn (buf_cut hbuf (by omega)) t1 (by omega), hB.trans (t1.below (by intro k hk; omega) hB.size)⟩
        rw [hsz2]
        exact Boxed.set (W := W.drewN n) _ hv
      have h24 : Fence.wide.fn 49 := trivial
      gi_wp2
      gi_region_with_o (first | (refine ⟨trivial, ?_⟩; gi_at_call 49; refine (CallsIn.inRound l (callsIn_wide.2 (HLB.out W.drew hbuf))).mono ?_; rintro e w' ⟨rfl, m, rfl⟩) | (gi_at_call 49; refine (CallsIn.inRound l (callsIn_wide.2 (HLB.out W.drew hbuf))).mono ?_; rintro e w' ⟨rfl, m, rfl⟩))
      all_goals gi_wp2
      all_goals first
        | exact FIN.out _
        | (exfalso; omega)
    | false =>
      have hne : x.data.toList ≠ [46, 46] := by rw [← Lib.toList_data]; intro e; rw [e] at hp; simp at hp
      have hroom : q.size + (x.size + 1) ≤ s.size + 1 := by have := buf_room hpre; rw [← hq.out, ← Lib.size_eq] at this; exact this
      have hq2 : Hid ((q ++ ⟨#[47]⟩ ++ x).data.toList = bufOf (pre ++ [x])) := by
        show _ = _
        rw [buf_part hne, ← hq.out, Kit.cat_bytes, Kit.cat_bytes, List.append_assoc]; rfl
      have hrow : W.ownsRow w.heap.size 5 1 (.slice (some ⟨w.heap.size, 0, none⟩) q.size (s.size + 1)) q.size (Lib.strCells q) := hbuf
      clear hne hpre
      gi_wp2_with (first
        | (gi_at_builtin; refine wpListIn_append_fits _ rfl _ _ 53 rfl w.heap.size 5 i0 1 Tryd.underlying53 hi hz1 w.heap.size q.size (s.size + 1) (Lib.strCells q) rfl (hrow.alloc _) ⟨W.heap.size, 0, none⟩ 1 1 [.int .u8 47] rfl rfl (cell_one_new _ _ _) (by simp [Value.oneCell']) (by omega) ?_; intro w3 hown3 hgrow3; obtain ⟨hv1, hv2, ht2, ht3⟩ := box_stored (g := w.heap.size) (.slice (some ⟨w.heap.size, 0, none⟩) (q.size + 1) (s.size + 1)) hv (Turns.alloc _ _ _) hgrow3 (by omega); have hc1 := hv1.cell; have hf1 := hv1.frozen; have hc2 := hv2.cell; have hf2 := hv2.frozen)
        | (gi_at_builtin; refine wp_append_text _ rfl _ _ 53 9 rfl w.heap.size 5 i0 Tryd.underlying53 Tryd.underlying9 hi hz1 (some ⟨w.heap.size, 0, none⟩) (q.size + 1) (s.size + 1) _ rfl (ht3.row_at hown3 (by omega)) x rfl (by omega) (by omega) ?_; intro w5 hown5 hgrow5; obtain ⟨hv3, hv4, ht4, ht5⟩ := box_stored (g := w.heap.size) (.slice (some ⟨w.heap.size, 0, none⟩) (q.size + 1 + x.size) (s.size + 1)) hv2 (Turns.refl _ _) hgrow5 (by omega); have hc3 := hv3.cell; have hf3 := hv3.frozen))
      have e1 : q.size + 1 + x.size = (q ++ ⟨#[47]⟩ ++ x).size := by rw [ByteArray.size_append, ByteArray.size_append]; rfl
      have hb5 : Buf (w5.setCell ⟨B, 0, none⟩ (.slice (some ⟨w.heap.size, 0, none⟩) (q.size + 1 + x.size) (s.size + 1))) w.heap.size w.heap.size (s.size + 1) (q ++ ⟨#[47]⟩ ++ x) := by
        refine buf_turn (buf_more hown5 e1 ?_) ht5 (by omega)
        rw [cells_more]; rfl
      have ht := ht2.trans ht4
      exact ⟨ht.wider (by intro k hk; omega), _, hq2, by rw [← e1]; exact hv4, hb5, hB.trans (ht.below (by intro k hk; omega) hB.size)⟩
  case done =>
    rintro W ⟨q, hq, hv, hbuf, hB⟩ hK
    have hc := hv.cell
    have hcap := buf_caps hbuf
    have hsz2 : q.size = (bufOf (partsOf s)).length := by rw [Lib.size_eq, hq.out]
    have HB2 : Hid (Below w.heap.size w (W.putObj U.heap.size (.deferred none))) := hB.trans ((Turns.putObj (T := fun k => B + 2 ≤ k) _ (by omega)).below (by intro k hk; omega) hB.size)
    rcases HD.out with ⟨h1, h2⟩ | ⟨h1, h2⟩
    · have h0 : q.size = 0 := by rw [hsz2, h1]; rfl
      rw [h0] at hc
      clear HD h1 hsz2 hq
      gi_wp2
      refine ⟨by simp, .inl ⟨_, _, rfl, run_takeDeferred hK, ?_⟩⟩
      refine ⟨_, results_tmp rfl _ _ _, ?_, HB2.out⟩
      exact ret_str h2.symm
    · have h0 : 0 < q.size := by
        rw [hsz2]
        exact List.length_pos_iff.2 h1
      have hcv := buf_conv hbuf
      have t0 : ((q.size : Int) == 0) = false := by
        cases e : ((q.size : Int) == 0) with
        | false => rfl
        | true => have := beq_iff_eq.1 e; omega
      have he : Hid (q = d) := ba_ext (by rw [h2]; exact hq.out)
      clear HD h1 h2 hsz2 hq h0
      gi_wp2
      refine ⟨by simp, .inl ⟨_, _, rfl, run_takeDeferred hK, ?_⟩⟩
      refine ⟨_, results_tmp rfl _ _ _, ?_, HB2.out⟩
      exact ret_str he.out
  case stop =>
    rintro c pre W _ h _
    exact h.elim
end Go.Proofs.YthplnkchmelbmaaDoor.W04
