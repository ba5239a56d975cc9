/-
  Texts joined, in build order, each with its own comment and its own conditions: W04CleanCode, W03Check, W04IsCode, W04Real, W04Code, W11Right, W11Word.
-/
import Derived.Test.YtpihldcchjoinaaGreatDoorJ17
import Derived.Test.YtpihldcchjoinaaGreatDoorJ04
import Derived.Test.YtpihldcchjoinaaGreatDoorJ09
import Derived.Laws.Runes
import Derived.WalkMore
import Derived.Lib.Small
import Derived.Lib.IndexAny
/-
  Layer 4 (path), a walk: the program's Clean: a path taken from / on as a clean one, at every text of less than 2^48 bytes; nothing that was there is changed.
-/
namespace Go.Proofs.YtpihldcchjoinaaGreatDoor.W04
open Go Go.RowKit Go.Shelf Go.Proofs.YtpihldcchjoinaaGreatDoor.Range Go.Proofs.YtpihldcchjoinaaGreatDoor.M04 Go.Proofs.YtpihldcchjoinaaGreatDoor.Strs
open Go.Proofs.YtpihldcchjoinaaGreatDoor.Kit (ret_str ret_bool ret_int mk_of mk_bytes ba_ext below_draws on)
attribute [local go_sem] Oper.semAt_some

theorem byte_info : (Tryz.prog.info? 5).map (fun i => (i.zero, i.size, i.bytes)) = some (some (.int .u8 0), 1, 1) := by kernel_rfl

set_option maxRecDepth 100000 in
set_option maxHeartbeats 2000000 in
theorem clean_at (s d : ByteArray) (hd : d.data.toList = clean s.data.toList) (hs : s.size < 281474976710656) (w : World) : Calls Tryz.prog 135 #[.string s] w fun e w' => e = .returned (.string d) ∧ Below w.heap.size w w' := by
  obtain ⟨i0, hi, hz0, hz1, hz2⟩ := info_parts byte_info
  have HP := Lib.hid (parts_at s)
  have HD := Lib.hid (clean_flat hd)
  clear hd
  refine (callsIn_wide (n := 9)).1 ?_
  refine callsIn_of_wp_marks Tryz.func135 rfl trivial ?_ rfl
  simp only [Tryz.ntmps135, List.size_toArray, List.length_cons, List.length_nil, Nat.reduceAdd, Nat.reduceSub, Array.replicate_succ, Array.replicate_zero, List.push_toArray, List.append_toArray, List.nil_append, List.cons_append]
  gi_wp2_with (gi_at_make; refine wpListIn_make_own _ rfl _ _ 145 rfl w.heap.size 5 i0 (.int .u8 0) 1 Tryz.underlying145 hi hz0 hz1 .i64 .i64 _ (s.size + 1) rfl rfl (by go_num) (by rw [hz2]; omega) (by unfold maxLen; omega) (Nat.le_refl _) ?_; intro w1 hown1 hgrow1)
  refine ⟨trivial, ?_⟩
  gi_at_call 90
  refine (callsIn_wide.2 (HP.out _)).mono ?_
  rintro e w2 ⟨rfl, rfl⟩
  gi_wp2
  have hlt : w.heap.size < w1.heap.size := (hown1.lt w.heap.size rfl).2
  have x0 := Boxed.new w1 145 (.slice (some ⟨w.heap.size, 0, none⟩) 0 (s.size + 1))
  have x1 := Boxed.new (w1.alloc (.cells #[.slice (some ⟨w.heap.size, 0, none⟩) 0 (s.size + 1)] 145)) 9 (.string s)
  rw [World.size_alloc] at x1
  replace x0 := x0.alloc (.cells #[.string s] 9)
  have hb : Below w.heap.size w ((w1.alloc (.cells #[.slice (some ⟨w.heap.size, 0, none⟩) 0 (s.size + 1)] 145)).alloc (.cells #[.string s] 9)) := ((((Below.refl _ w).grown hgrow1 (Nat.le_refl _) (fun r e => by cases e)).alloc (by omega) _).alloc (by simp; omega) _)
  have hbuf : Buf w1 w.heap.size w.heap.size (s.size + 1) ⟨#[]⟩ := hown1
  have hU : Buf ((w1.alloc (.cells #[.slice (some ⟨w.heap.size, 0, none⟩) 0 (s.size + 1)] 145)).alloc (.cells #[.string s] 9)) w.heap.size w.heap.size (s.size + 1) ⟨#[]⟩ := buf_turn hbuf ((Turns.alloc (fun _ => False) _ _).trans (Turns.alloc _ _ _)) id
  have hsz : ((w1.alloc (.cells #[.slice (some ⟨w.heap.size, 0, none⟩) 0 (s.size + 1)] 145)).alloc (.cells #[.string s] 9)).heap.size = w1.heap.size + 2 := by simp
  generalize (w1.alloc (.cells #[.slice (some ⟨w.heap.size, 0, none⟩) 0 (s.size + 1)] 145)).alloc (.cells #[.string s] 9) = U at *
  generalize w1.heap.size = B at *
  clear hown1 hgrow1 hbuf
  refine wp_range (gf := 113) (lb := #[.pointer (some ⟨B + 1, 0, none⟩)]) rfl (enters_of Tryz.func113 (by kernel_rfl) rfl)
    (parts_seq (B + 1) s (by omega) U x1.cell (by omega)) (fun k hk => hk.elim) rfl
    (fun k => B + 2 ≤ k ∧ k < B + 10) (fun k => by unfold Its; rw [hsz]; simp)
    (fun pre W => ∃ q : ByteArray, Hid (q.data.toList = bufOf pre) ∧ Boxed W B 145 (.slice (some ⟨w.heap.size, 0, none⟩) q.size (s.size + 1)) ∧ Buf W w.heap.size w.heap.size (s.size + 1) q ∧ Below w.heap.size w W)
    (fun _ _ _ => False)
    (by
      rintro pre X Y ⟨q, h0, h1, h2, h3⟩ ht
      exact ⟨q, h0, ht.keeps h1 (by omega), buf_turn h2 ht (by omega), h3.trans (ht.below (by intro k hk; omega) h3.size)⟩)
    (fun _ _ _ _ h _ => h)
    ⟨⟨#[]⟩, rfl, x0, hU, hb⟩
    (fun x => { tmps := #[.string s, undef, .string ⟨#[]⟩, .pointer (some ⟨B, 0, none⟩), .string x, .string s, .int .i64 s.size, .int .i64 (s.size + 1), .slice (some ⟨w.heap.size, 0, none⟩) 0 (s.size + 1), .string s, .func (.func 113) #[] #[.pointer (some ⟨B + 1, 0, none⟩)], .string x, undef, undef, undef, undef, undef, undef, undef, undef, undef, undef, undef, undef, undef, undef, undef, undef, undef, undef], defers := [] }) ?assign ?body ?done ?stop
  case assign =>
    intro l x W K hK
    gi_wp2
    exact hK
  case body =>
    rintro l pre x W ⟨q, hq, hv, hbuf, hB⟩ hW hpre
    have hc := hv.cell
    have hf := hv.frozen
    have hmx : Tryz.prog.follows .mixedOrders = true := by kernel_rfl
    cases hp : (x.toList == [46, 46]) with
    | true =>
      have hpe := beq_iff_eq.1 hp
      have hdd : x.data.toList = [46, 46] := by rw [← Lib.toList_data]; exact hpe
      obtain ⟨t, ht⟩ := hpre
      have hq2 : Hid ((q.extract 0 (max 0 (lastSlash q.data.toList)).toNat).data.toList = bufOf (pre ++ [x])) := by
        show _ = _
        rw [buf_points (s := s) ⟨[x] ++ t, by rw [← List.append_assoc]; exact ht⟩ hdd, Kit.take_bytes, hq.out]
      have hls := last_le q.data.toList
      rw [← Lib.size_eq] at hls
      have hcap := buf_caps hbuf
      have HLB := Lib.hid (fun (W' : World) (h : Buf W' w.heap.size w.heap.size (s.size + 1) q) => last_bytes w.heap.size q.size (s.size + 1) w.heap.size q rfl hcap.1 hcap.2 W' h)
      obtain ⟨z, hz⟩ : ∃ z, lastSlash q.data.toList = z := ⟨_, rfl⟩
      rw [hz] at hls HLB hq2
      have hsz2 : (q.extract 0 (max 0 z).toNat).size = (max 0 z).toNat := by rw [ByteArray.size_extract]; omega
      have FIN : Hid (∀ n : Nat, Turns (fun k => ¬ (B + 2 ≤ k ∧ k < B + 10)) W ((W.drewN n).setCell ⟨B, 0, none⟩ (.slice (some ⟨w.heap.size, 0, none⟩) (max 0 z).toNat (s.size + 1))) ∧
          ∃ q : ByteArray, Hid (q.data.toList = bufOf (pre ++ [x])) ∧ Boxed ((W.drewN n).setCell ⟨B, 0, none⟩ (.slice (some ⟨w.heap.size, 0, none⟩) (max 0 z).toNat (s.size + 1))) B 145 (.slice (some ⟨w.heap.size, 0, none⟩) q.size (s.size + 1)) ∧ Buf ((W.drewN n).setCell ⟨B, 0, none⟩ (.slice (some ⟨w.heap.size, 0, none⟩) (max 0 z).toNat (s.size + 1))) w.heap.size w.heap.size (s.size + 1) q ∧ Below w.heap.size w ((W.drewN n).setCell ⟨B, 0, none⟩ (.slice (some ⟨w.heap.size, 0, none⟩) (max 0 z).toNat (s.size + 1)))) := by
        show ∀ n : Nat, _
        intro n
        have t1 : Turns (fun k => k = B) W ((W.drewN n).setCell ⟨B, 0, none⟩ (.slice (some ⟨w.heap.size, 0, none⟩) (max 0 z).toNat (s.size + 1))) := (Turns.draw _ W n).trans (Turns.setCell _ rfl)
        refine ⟨t1.wider (by intro k hk; omega), _, hq2, ?_, buf_turn (buf_cut hbuf (by omega)) t1 (by omega), hB.trans (t1.below (by intro k hk; omega) hB.size)⟩
        rw [hsz2]
        exact Boxed.set (W := W.drewN n) _ hv
      have h24 : Fence.wide.fn 144 := trivial
      gi_wp2
      gi_region_with_o (first | (refine ⟨trivial, ?_⟩; gi_at_call 144; refine (CallsIn.inRound l (callsIn_wide.2 (HLB.out W.drew hbuf))).mono ?_; rintro e w' ⟨rfl, m, rfl⟩) | (gi_at_call 144; refine (CallsIn.inRound l (callsIn_wide.2 (HLB.out W.drew hbuf))).mono ?_; rintro e w' ⟨rfl, m, rfl⟩))
      all_goals gi_wp2
      all_goals first
        | exact FIN.out _
        | (exfalso; omega)
    | false =>
      have hne : x.data.toList ≠ [46, 46] := by rw [← Lib.toList_data]; intro e; rw [e] at hp; simp at hp
      have hroom : q.size + (x.size + 1) ≤ s.size + 1 := by have := buf_room hpre; rw [← hq.out, ← Lib.size_eq] at this; exact this
      have hq2 : Hid ((q ++ ⟨#[47]⟩ ++ x).data.toList = bufOf (pre ++ [x])) := by
        show _ = _
        rw [buf_part hne, ← hq.out, Kit.cat_bytes, Kit.cat_bytes, List.append_assoc]; rfl
      have hrow : W.ownsRow w.heap.size 5 1 (.slice (some ⟨w.heap.size, 0, none⟩) q.size (s.size + 1)) q.size (Lib.strCells q) := hbuf
      clear hne hpre
      gi_wp2_with (first
        | (gi_at_builtin; refine wpListIn_append_fits _ rfl _ _ 145 rfl w.heap.size 5 i0 1 Tryz.underlying145 hi hz1 w.heap.size q.size (s.size + 1) (Lib.strCells q) rfl (hrow.alloc _) ⟨W.heap.size, 0, none⟩ 1 1 [.int .u8 47] rfl rfl (cell_one_new _ _ _) (by simp [Value.oneCell']) (by omega) ?_; intro w3 hown3 hgrow3; obtain ⟨hv1, hv2, ht2, ht3⟩ := box_stored (g := w.heap.size) (.slice (some ⟨w.heap.size, 0, none⟩) (q.size + 1) (s.size + 1)) hv (Turns.alloc _ _ _) hgrow3 (by omega); have hc1 := hv1.cell; have hf1 := hv1.frozen; have hc2 := hv2.cell; have hf2 := hv2.frozen)
        | (gi_at_builtin; refine wp_append_text _ rfl _ _ 145 9 rfl w.heap.size 5 i0 Tryz.underlying145 Tryz.underlying9 hi hz1 (some ⟨w.heap.size, 0, none⟩) (q.size + 1) (s.size + 1) _ rfl (ht3.row_at hown3 (by omega)) x rfl (by omega) (by omega) ?_; intro w5 hown5 hgrow5; obtain ⟨hv3, hv4, ht4, ht5⟩ := box_stored (g := w.heap.size) (.slice (some ⟨w.heap.size, 0, none⟩) (q.size + 1 + x.size) (s.size + 1)) hv2 (Turns.refl _ _) hgrow5 (by omega); have hc3 := hv3.cell; have hf3 := hv3.frozen))
      have e1 : q.size + 1 + x.size = (q ++ ⟨#[47]⟩ ++ x).size := by rw [ByteArray.size_append, ByteArray.size_append]; rfl
      have hb5 : Buf (w5.setCell ⟨B, 0, none⟩ (.slice (some ⟨w.heap.size, 0, none⟩) (q.size + 1 + x.size) (s.size + 1))) w.heap.size w.heap.size (s.size + 1) (q ++ ⟨#[47]⟩ ++ x) := by
        refine buf_turn (buf_more hown5 e1 ?_) ht5 (by omega)
        rw [cells_more]; rfl
      have ht := ht2.trans ht4
      exact ⟨ht.wider (by intro k hk; omega), _, hq2, by rw [← e1]; exact hv4, hb5, hB.trans (ht.below (by intro k hk; omega) hB.size)⟩
  case done =>
    rintro W ⟨q, hq, hv, hbuf, hB⟩ hK
    have hc := hv.cell
    have hcap := buf_caps hbuf
    have hsz2 : q.size = (bufOf (partsOf s)).length := by rw [Lib.size_eq, hq.out]
    have HB2 : Hid (Below w.heap.size w (W.putObj U.heap.size (.deferred none))) := hB.trans ((Turns.putObj (T := fun k => B + 2 ≤ k) _ (by omega)).below (by intro k hk; omega) hB.size)
    rcases HD.out with ⟨h1, h2⟩ | ⟨h1, h2⟩
    · have h0 : q.size = 0 := by rw [hsz2, h1]; rfl
      rw [h0] at hc
      clear HD h1 hsz2 hq
      gi_wp2
      refine ⟨by simp, .inl ⟨_, _, rfl, run_takeDeferred hK, ?_⟩⟩
      refine ⟨_, results_tmp rfl _ _ _, ?_, HB2.out⟩
      exact ret_str h2.symm
    · have h0 : 0 < q.size := by
        rw [hsz2]
        exact List.length_pos_iff.2 h1
      have hcv := buf_conv hbuf
      have t0 : ((q.size : Int) == 0) = false := by
        cases e : ((q.size : Int) == 0) with
        | false => rfl
        | true => have := beq_iff_eq.1 e; omega
      have he : Hid (q = d) := ba_ext (by rw [h2]; exact hq.out)
      clear HD h1 h2 hsz2 hq h0
      gi_wp2
      refine ⟨by simp, .inl ⟨_, _, rfl, run_takeDeferred hK, ?_⟩⟩
      refine ⟨_, results_tmp rfl _ _ _, ?_, HB2.out⟩
      exact ret_str he.out
  case stop =>
    rintro c pre W _ h _
    exact h.elim
end Go.Proofs.YtpihldcchjoinaaGreatDoor.W04
/-
  Layer 3 (name), walks: what the program's Check, Right and Plain return. No condition but those that each theorem bears.
-/
namespace Go.Proofs.YtpihldcchjoinaaGreatDoor.W03
set_option maxRecDepth 100000
open Go Go.RowKit Go.Proofs.YtpihldcchjoinaaGreatDoor.Strs Go.Proofs.YtpihldcchjoinaaGreatDoor.M03
open Go.Proofs.YtpihldcchjoinaaGreatDoor.Kit (ret_str ret_bool ret_int mk_of below_draws on list_full list_ne list_none list_nil)

def isPts (l : List UInt8) : Bool := (l == [46]) || (l == [46, 46])
theorem isPoints_any (s : ByteArray) (w : World) :
    Calls Tryz.prog 106 #[.string s] w fun e w' => e = .returned (.bool (isPts s.data.toList)) ∧ w' = w := by
  have HE : Hid (isPts s.data.toList = ((s.toList == [46]) || (s.toList == [46, 46]))) := by
    show isPts _ = _
    rw [Lib.toList_data]; rfl
  cases t1 : (s.toList == [46]) with
  | true =>
    have HX : Hid (isPts s.data.toList = true) := by show isPts _ = _; rw [HE.out, t1]; rfl
    clear HE
    go_enter Tryz.func106, Tryz.ntmps106
    go_wp2
    go_ret
    exact ⟨ret_bool HX.out.symm, rfl⟩
  | false =>
    cases t2 : (s.toList == [46, 46]) with
    | true =>
      have HX : Hid (isPts s.data.toList = true) := by show isPts _ = _; rw [HE.out, t1, t2]; rfl
      clear HE
      go_enter Tryz.func106, Tryz.ntmps106
      go_wp2
      go_ret
      exact ⟨ret_bool HX.out.symm, rfl⟩
    | false =>
      have HX : Hid (isPts s.data.toList = false) := by show isPts _ = _; rw [HE.out, t1, t2]; rfl
      clear HE
      go_enter Tryz.func106, Tryz.ntmps106
      go_wp2
      go_ret
      exact ⟨ret_bool HX.out.symm, rfl⟩
theorem check_of {s : ByteArray} (h0 : 0 < s.size) (h : ¬ (64 : Int) < s.size) : check s.data.toList = if s.data.toList.all goodB = true then (if isPts s.data.toList = true then 6 else 0) else 11 := by
  unfold check
  rw [← Lib.size_eq, if_neg (by omega), if_neg (by omega)]
  have e : s.data.toList.any badByte = !(s.data.toList.all goodB) := by
    rw [List.all_eq_not_any_not, Bool.not_not]
    congr 1
    funext c; simp [goodB]
  rw [e]
  cases s.data.toList.all goodB with
  | false => simp
  | true => simp [isPts]
theorem check_free (s : ByteArray) (w : World) :
    Calls Tryz.prog 84 #[.string s] w fun e w' => e = .returned (.int .i64 (check s.data.toList)) ∧ Below w.heap.size w w' := by
  by_cases h0 : 0 < s.size
  · have z0 := list_full h0
    have z1 := list_ne h0
    by_cases h64 : (64 : Int) < s.size
    · have HE := Lib.hid (check_long h0 h64)
      go_enter Tryz.func84, Tryz.ntmps84
      go_wp2
      go_ret
      exact ⟨ret_int HE.out, Below.refl _ _⟩
    · have HE := Lib.hid (check_of h0 h64)
      have HA := Lib.hid (hasOnly_may s)
      have HP := Lib.hid (isPoints_any s)
      generalize s.data.toList.all goodB = a at *
      generalize isPts s.data.toList = b at *
      have h65 : (s.size : Int) ≤ 64 := by omega
      clear h64
      cases a with
      | false =>
        go_enter Tryz.func84, Tryz.ntmps84
        go_wp2_with fail
        refine (HA.out _).mono ?_
        rintro e w1 ⟨rfl, hb1⟩
        go_wp2
        go_ret
        exact ⟨ret_int (by rw [HE.out]; rfl), hb1⟩
      | true =>
        go_enter Tryz.func84, Tryz.ntmps84
        go_wp2_with fail
        refine (HA.out _).mono ?_
        rintro e w1 ⟨rfl, hb1⟩
        cases b with
        | false =>
          go_wp2_with fail
          refine (HP.out _).mono ?_
          rintro e w2 ⟨rfl, rfl⟩
          go_wp2
          go_ret
          exact ⟨ret_int (by rw [HE.out]; rfl), hb1⟩
        | true =>
          go_wp2_with fail
          refine (HP.out _).mono ?_
          rintro e w2 ⟨rfl, rfl⟩
          go_wp2
          go_ret
          exact ⟨ret_int (by rw [HE.out]; rfl), hb1⟩
  · have z0 := list_none h0
    have z1 := list_nil h0
    have HE := Lib.hid (check_empty h0)
    go_enter Tryz.func84, Tryz.ntmps84
    go_wp2
    go_ret
    exact ⟨ret_int HE.out, Below.refl _ _⟩
theorem check_any (s : ByteArray) (_hs : s.size ≤ 140737488351232) (w : World) :
    Calls Tryz.prog 84 #[.string s] w fun e w' => e = .returned (.int .i64 (check s.data.toList)) ∧ Below w.heap.size w w' := check_free s w
theorem right_any (s : ByteArray) (hs : s.size ≤ 140737488351232) (w : World) :
    Calls Tryz.prog 119 #[.string s] w fun e w' => e = .returned (.bool (decide (check s.data.toList = 0))) ∧ Below w.heap.size w w' := by
  have HC := Lib.hid (check_any s hs)
  generalize check s.data.toList = c at *
  go_enter Tryz.func119, Tryz.ntmps119
  go_wp2_with fail
  refine (HC.out _).mono ?_
  rintro e w1 ⟨rfl, hb⟩
  go_wp2_with fail
  go_ret
  exact ⟨ret_bool (by by_cases h : c = 0 <;> simp [h]), hb⟩
end Go.Proofs.YtpihldcchjoinaaGreatDoor.W03
/-
  Layer 4 (path), walks: the program's hasOnly with name.Right, isClean and Is, at every text of at most 2^31 bytes.
-/
namespace Go.Proofs.YtpihldcchjoinaaGreatDoor.W04
open Go Go.RowKit Go.Shelf Go.Proofs.YtpihldcchjoinaaGreatDoor.Range Go.Proofs.YtpihldcchjoinaaGreatDoor.M04 Go.Proofs.YtpihldcchjoinaaGreatDoor.Strs
open Go.Proofs.YtpihldcchjoinaaGreatDoor.M03 (check)
open Go.Proofs.YtpihldcchjoinaaGreatDoor.Kit (ret_str ret_bool ret_int mk_of mk_bytes ba_ext below_draws on)
attribute [local go_sem] Oper.semAt_some

def rightOf (x : ByteArray) : Bool := decide (check x.data.toList = 0)
theorem part_size {pre : List ByteArray} {x s : ByteArray} (h : pre ++ [x] <+: partsOf s) : x.size ≤ s.size := by have := buf_room h; omega

set_option maxRecDepth 100000 in
set_option maxHeartbeats 2000000 in
theorem hasOnly_right (s : ByteArray) (hs : s.size ≤ 2147483648) (w : World) : Calls Tryz.prog 118 #[.string s, .func (.func 119) #[] #[]] w fun e w' => e = .returned (.bool ((partsOf s).all rightOf)) ∧ Below w.heap.size w w' := by
  have HP := Lib.hid (parts_at s)
  refine (callsIn_wide (n := 9)).1 ?_
  refine callsIn_of_wp_marks Tryz.func118 rfl trivial ?_ rfl
  simp only [Tryz.ntmps118, List.size_toArray, List.length_cons, List.length_nil, Nat.reduceAdd, Nat.reduceSub, Array.replicate_succ, Array.replicate_zero, List.push_toArray, List.append_toArray, List.nil_append, List.cons_append]
  gi_wp2
  refine ⟨trivial, ?_⟩
  gi_at_call 90
  refine (callsIn_wide.2 (HP.out _)).mono ?_
  rintro e w1 ⟨rfl, rfl⟩
  gi_wp2
  have y0 := Boxed.new w 94 (.func (.func 119) #[] #[])
  have x0 := Boxed.new (w.alloc (.cells #[.func (.func 119) #[] #[]] 94)) 4 (.bool false)
  have x1 := Boxed.new ((w.alloc (.cells #[.func (.func 119) #[] #[]] 94)).alloc (.cells #[.bool false] 4)) 9 (.string s)
  simp only [World.size_alloc] at x0 x1
  replace y0 := (y0.alloc (.cells #[.bool false] 4)).alloc (.cells #[.string s] 9)
  replace x0 := x0.alloc (.cells #[.string s] 9)
  have hb : Below w.heap.size w (((w.alloc (.cells #[.func (.func 119) #[] #[]] 94)).alloc (.cells #[.bool false] 4)).alloc (.cells #[.string s] 9)) := (((Below.refl _ w).alloc (Nat.le_refl _) _).alloc (by simp) _).alloc (by simp; omega) _
  have hsz : (((w.alloc (.cells #[.func (.func 119) #[] #[]] 94)).alloc (.cells #[.bool false] 4)).alloc (.cells #[.string s] 9)).heap.size = w.heap.size + 3 := by simp
  generalize ((w.alloc (.cells #[.func (.func 119) #[] #[]] 94)).alloc (.cells #[.bool false] 4)).alloc (.cells #[.string s] 9) = U at *
  refine wp_range (gf := 113) (lb := #[.pointer (some ⟨w.heap.size + 1 + 1, 0, none⟩)]) rfl (enters_of Tryz.func113 (by kernel_rfl) rfl)
    (parts_seq (w.heap.size + 1 + 1) s (by omega) U x1.cell (by omega)) (fun k hk => hk.elim) rfl
    (fun k => w.heap.size + 3 ≤ k ∧ k < w.heap.size + 11) (fun k => by unfold Its; rw [hsz]; simp)
    (fun pre W => Hid (pre.all rightOf = true) ∧ Boxed W w.heap.size 94 (.func (.func 119) #[] #[]) ∧ Boxed W (w.heap.size + 1) 4 (.bool false) ∧ Below w.heap.size w W)
    (fun c pre W => c = .ret ∧ Hid (pre.all rightOf = false) ∧ Boxed W (w.heap.size + 1) 4 (.bool false) ∧ Below w.heap.size w W)
    (by
      rintro pre X Y ⟨h0, h1, h2, h3⟩ ht
      exact ⟨h0, ht.keeps h1 (by omega), ht.keeps h2 (by omega), h3.trans (ht.below (by intro k hk; omega) h3.size)⟩)
    (by
      rintro c pre X Y ⟨h0, h1, h2, h3⟩ ht
      exact ⟨h0, h1, ht.keeps h2 (by omega), h3.trans (ht.below (by intro k hk; omega) h3.size)⟩)
    ⟨rfl, y0, x0, hb⟩
    (fun x => { tmps := #[.string s, .func (.func 119) #[] #[], undef, .pointer (some ⟨w.heap.size, 0, none⟩), .pointer (some ⟨w.heap.size + 1, 0, none⟩), .string x, .string s, .func (.func 113) #[] #[.pointer (some ⟨w.heap.size + 1 + 1, 0, none⟩)], .string x, undef, undef, undef, undef], defers := [] }) ?assign ?body ?done ?stop
  case assign =>
    intro l x W K hK
    gi_wp2
    exact hK
  case body =>
    rintro l pre x W ⟨hal, hm, hv, hB⟩ hW hpre
    have hcm := hm.cell
    have hc := hv.cell
    have hf := hv.frozen
    have HR := Lib.hid (W03.right_any x (by have := part_size hpre; omega))
    have HA : Hid ((pre ++ [x]).all rightOf = rightOf x) := by show _ = _; rw [List.all_append, hal.out]; simp
    rw [show decide (check x.data.toList = 0) = rightOf x from rfl] at HR
    clear hal hpre
    cases hrx : rightOf x with
    | true =>
      rw [hrx] at HR HA
      gi_wp2
      refine ⟨trivial, ?_⟩
      gi_at_call 119
      refine (CallsIn.inRound l (callsIn_wide.2 (HR.out _))).mono ?_
      rintro e w5 ⟨rfl, hb5⟩
      gi_wp2
      exact ⟨Turns.new hb5, HA, (Turns.new hb5 (T := fun _ => False)).keeps hm id, (Turns.new hb5 (T := fun _ => False)).keeps hv id, on hB hb5⟩
    | false =>
      rw [hrx] at HR HA
      gi_wp2
      refine ⟨trivial, ?_⟩
      gi_at_call 119
      refine (CallsIn.inRound l (callsIn_wide.2 (HR.out _))).mono ?_
      rintro e w5 ⟨rfl, hb5⟩
      have hv5 : Boxed w5 (w.heap.size + 1) 4 (.bool false) := (Turns.new hb5 (T := fun _ => False)).keeps hv id
      have hc5 := hv5.cell
      have hf5 := hv5.frozen
      gi_wp2
      exact ⟨(Turns.new hb5).trans (Turns.setCell _ (by simp)), rfl, HA, hv5.set _, (on hB hb5).setCell (p := ⟨w.heap.size + 1, 0, none⟩) (by simp) _⟩
  case done =>
    rintro W ⟨hal, hm, hv, hB⟩ hK
    have hc := hv.cell
    have hf := hv.frozen
    have hv2 := hv.set (.bool true)
    have hK' : (W.setCell ⟨w.heap.size + 1, 0, none⟩ (.bool true)).heap[U.heap.size]? = some (.deferred (some [])) := (Turns.setCell (T := fun k => k = w.heap.size + 1) _ rfl).keeps hK (by omega)
    gi_wp2
    refine ⟨by simp, .inl ⟨_, _, rfl, run_takeDeferred hK', ?_⟩⟩
    have hv3 : Boxed ((W.setCell ⟨w.heap.size + 1, 0, none⟩ (.bool true)).putObj U.heap.size (.deferred none)) (w.heap.size + 1) 4 (.bool true) := (Turns.putObj (T := fun k => k = U.heap.size) _ rfl).keeps hv2 (by omega)
    have hc5 := hv3.cell
    refine ⟨.bool true, ?_, by rw [hal.out], (hB.setCell (p := ⟨w.heap.size + 1, 0, none⟩) (by simp) _).trans ((Turns.putObj (T := fun k => w.heap.size ≤ k) _ (by omega)).below (fun _ h => h) (by simpa using hB.size))⟩
    simp [results, Tryz.f118, go_sem, hc5]
  case stop =>
    rintro c pre W hpre ⟨rfl, hal, hv, hB⟩ hK
    gi_wp2
    refine ⟨by simp, .inl ⟨_, _, rfl, run_takeDeferred hK, ?_⟩⟩
    have hv3 : Boxed (W.putObj U.heap.size (.deferred none)) (w.heap.size + 1) 4 (.bool false) := (Turns.putObj (T := fun k => k = U.heap.size) _ rfl).keeps hv (by omega)
    have hc5 := hv3.cell
    have hall : (partsOf s).all rightOf = false := by
      obtain ⟨t, ht⟩ := hpre
      rw [← ht, List.all_append, hal.out]; rfl
    refine ⟨.bool false, ?_, by rw [hall], hB.trans ((Turns.putObj (T := fun k => w.heap.size ≤ k) _ (by omega)).below (fun _ h => h) hB.size)⟩
    simp [results, Tryz.f118, go_sem, hc5]
end Go.Proofs.YtpihldcchjoinaaGreatDoor.W04
/-
  Layer 4 (path), plain mathematics: how the landed program reckons Is, Join, Dir, Base and Under of texts of bytes, and that it comes to what the plain answers tell. No condition but those that each theorem bears.
-/
namespace Go.Proofs.YtpihldcchjoinaaGreatDoor.W04
open Go Go.RowKit Go.Proofs.YtpihldcchjoinaaGreatDoor.M04
open Go.Proofs.YtpihldcchjoinaaGreatDoor.M03 (check)
open Go.Proofs.YtpihldcchjoinaaGreatDoor.Kit (mk_bytes mk_of ba_ext take_bytes drop_bytes cat_bytes)

theorem check_points : ¬ check [46, 46] = 0 := by decide
/-- Is -/
theorem isPath_real (l : Bytes) : isPath l = (decide (l.length ≤ 1024) && decide (clean l = l) && (parts l).all (fun p => decide (check p = 0))) := by
  unfold isPath
  cases h : (parts l).all (fun p => decide (check p = 0)) with
  | false => simp
  | true =>
    have hp : ∀ p ∈ parts l, p ≠ [46, 46] := by
      intro p hm e
      have := (List.all_eq_true.1 h) p hm
      rw [e] at this
      exact check_points (of_decide_eq_true this)
    have e : clean l = text (parts l) := by unfold clean; rw [cparts_plain hp]
    rw [e, Bool.and_true, Bool.and_true, Bool.and_comm]
    congr 1
    exact decide_eq_decide.2 ⟨fun h => h.symm, fun h => h.symm⟩
/-- Join -/
theorem prefix_slash (l : Bytes) : Lib.hasPrefix l [47] = decide (l.head? = some 47) := by
  unfold Lib.hasPrefix
  cases l with
  | nil => rfl
  | cons c r =>
    show ((47 : UInt8) == c && ([] : Bytes).isPrefixOf r) = _
    rw [List.isPrefixOf_nil_left, Bool.and_true]
    by_cases h : c = 47
    · subst h; simp
    · have h2 : ¬ (47 : UInt8) = c := fun e => h e.symm
      simp [h, h2]
theorem slashed_flat : ∀ (L : List Bytes), L ≠ [] → flat L = 47 :: slashed L
  | [], h => absurd rfl h
  | [p], _ => by simp [flat, slashed]
  | p :: q :: r, _ => by
    have ih := slashed_flat (q :: r) (by simp)
    show 47 :: p ++ flat (q :: r) = _
    rw [ih]; rfl
end Go.Proofs.YtpihldcchjoinaaGreatDoor.W04
/-
  Layer 4 (path), walks: what the program's isClean, Is, Join, Dir, Base, Under and Within return at texts of less than 2^48 bytes (Is: of at most 2^31); nothing that was there is changed.
-/
namespace Go.Proofs.YtpihldcchjoinaaGreatDoor.W04
set_option maxRecDepth 100000
open Go Go.RowKit Go.Proofs.YtpihldcchjoinaaGreatDoor.Strs Go.Proofs.YtpihldcchjoinaaGreatDoor.M04
open Go.Proofs.YtpihldcchjoinaaGreatDoor.M03 (check)
open Go.Proofs.YtpihldcchjoinaaGreatDoor.Kit (ret_str ret_bool ret_int mk_of mk_bytes ba_ext below_draws on take_bytes drop_bytes cat_bytes bytes_nil bytes_cons list_full list_ne list_none list_nil)

theorem same_bytes (a b : ByteArray) : (a.toList == b.toList) = decide (a.data.toList = b.data.toList) := by
  rw [Lib.toList_data, Lib.toList_data]
  by_cases h : a.data.toList = b.data.toList
  · simp [h]
  · rw [decide_eq_false h]
    exact beq_eq_false_iff_ne.2 h
theorem isClean_any (s : ByteArray) (hs : s.size < 281474976710656) (w : World) : Calls Tryz.prog 117 #[.string s] w fun e w' => e = .returned (.bool (decide (clean s.data.toList = s.data.toList))) ∧ Below w.heap.size w w' := by
  obtain ⟨c, hc⟩ := text_of (clean s.data.toList)
  have HC := Lib.hid (clean_at s c hc (by omega))
  have HE := Lib.hid (same_bytes c s)
  rw [hc] at HE
  clear hc
  generalize decide (clean s.data.toList = s.data.toList) = r at *
  go_enter Tryz.func117, Tryz.ntmps117
  go_wp2_with fail
  refine (HC.out _).mono ?_
  rintro e w1 ⟨rfl, hb⟩
  go_wp2_with fail
  go_ret
  exact ⟨ret_bool HE.out, hb⟩
theorem all_parts (s : ByteArray) : (partsOf s).all rightOf = (parts s.data.toList).all (fun p => decide (check p = 0)) := by
  unfold partsOf
  rw [List.all_map]
  rfl
theorem is_any (s : ByteArray) (hs : s.size ≤ 2147483648) (w : World) : Calls Tryz.prog 95 #[.string s] w fun e w' => e = .returned (.bool (isPath s.data.toList)) ∧ Below w.heap.size w w' := by
  have HC := Lib.hid (isClean_any s (by omega))
  have HO := Lib.hid (hasOnly_right s hs)
  have HE := Lib.hid (isPath_real s.data.toList)
  rw [← all_parts, ← Lib.size_eq] at HE
  generalize isPath s.data.toList = r at *
  generalize decide (clean s.data.toList = s.data.toList) = a at *
  generalize (partsOf s).all rightOf = b at *
  by_cases hl : (s.size : Int) ≤ 1024
  · rw [decide_eq_true (by omega), Bool.true_and] at HE
    cases a with
    | true =>
      go_enter Tryz.func95, Tryz.ntmps95
      go_wp2_with fail
      refine (HC.out _).mono ?_
      rintro e w1 ⟨rfl, hb⟩
      go_wp2_with fail
      refine (HO.out _).mono ?_
      rintro e w2 ⟨rfl, hb2⟩
      go_wp2_with fail
      go_ret
      exact ⟨ret_bool (by rw [HE.out]; rfl), on hb hb2⟩
    | false =>
      go_enter Tryz.func95, Tryz.ntmps95
      go_wp2_with fail
      refine (HC.out _).mono ?_
      rintro e w1 ⟨rfl, hb⟩
      go_wp2_with fail
      go_ret
      exact ⟨ret_bool (by rw [HE.out]; rfl), hb⟩
  · rw [decide_eq_false (by omega), Bool.false_and, Bool.false_and] at HE
    go_enter Tryz.func95, Tryz.ntmps95
    go_wp2_with fail
    go_ret
    exact ⟨ret_bool HE.out.symm, Below.refl _ _⟩
end Go.Proofs.YtpihldcchjoinaaGreatDoor.W04
/-
  Layer 11 (rows), walks of the landed code's isWord, mayHave and Right: whether a row may be; new memory may be laid, nothing that was there is changed. The conditions stand in the statements.
-/
namespace Go.Proofs.YtpihldcchjoinaaGreatDoor.W11
set_option maxRecDepth 100000
open Go Go.RowKit Go.Proofs.YtpihldcchjoinaaGreatDoor.Strs Go.Proofs.YtpihldcchjoinaaGreatDoor.Recs
open Go.Proofs.YtpihldcchjoinaaGreatDoor.M12
open Go.Proofs.YtpihldcchjoinaaGreatDoor.M04 (parts isPath)
open Go.Proofs.YtpihldcchjoinaaGreatDoor.W03 (alike_no alike_yes width_pos)
open Go.Proofs.YtpihldcchjoinaaGreatDoor.Kit (ret_str ret_bool ret_int mk_of mk_bytes ba_ext below_draws on)

/-! a range over a text, whatever was laid beside it -/
theorem next_at {P : Program} {W : World} {b : Nat} {s : ByteArray} {pos : Nat} (ty : TypeId) (h : W.heap[b]? = some (.stringIter s pos)) (hl : pos < s.size) :
    (Instr.next (.pointer (some ⟨b, 0, none⟩)) true ty).run P W = .ok (.tuple #[.bool true, .int .i64 pos, .int .i32 (Utf8.decode s pos).1]) (W.putObj b (.stringIter s (pos + (Utf8.decode s pos).2))) := by
  simp only [Instr.next, getObj, setObj, Sem.run_bind, Sem.run, h, Result.andThen, hl, if_true]
  simp [goInt, World.putObj]
theorem next_done {P : Program} {W : World} {b : Nat} {s : ByteArray} {pos : Nat} (ty : TypeId) (h : W.heap[b]? = some (.stringIter s pos)) (hl : ¬ pos < s.size) :
    (Instr.next (.pointer (some ⟨b, 0, none⟩)) true ty).run P W = .ok (.tuple #[.bool false]) W := by
  simp [Instr.next, getObj, Sem.run, h, hl]
theorem put_below {W : World} {b n : Nat} {o : Obj} (hb : n ≤ b) : Below n W (W.putObj b o) := ⟨rfl, rfl, rfl, by simp, fun k hk => World.putObj_heap_other (by omega)⟩

def badR (r : Nat) : Bool := decide (r ≠ 10) && decide (r ≠ 0)
theorem word_alike : W03.Alike badR wordByte true where
  low := fun c hc => by
    have h (n : UInt8) : (c = n) ↔ c.toNat = n.toNat := ⟨fun e => by rw [e], fun e => UInt8.toNat_inj.1 e⟩
    simp only [wordByte, badR, ne_eq, h]
    rfl
  high := fun c hc => by
    have h0 : ¬ c = 0 := fun e => by rw [e] at hc; revert hc; decide
    have h1 : ¬ c = 10 := fun e => by rw [e] at hc; revert hc; decide
    simp [wordByte, h0, h1]
  rune := fun r hr => by
    have h0 : ¬ r = 10 := by omega
    have h1 : ¬ r = 0 := by omega
    simp [badR, h0, h1]
def seps : ByteArray := ⟨#[10, 0]⟩
theorem two_index (r : Nat) (h : r < 128) : decide (0 ≤ Lib.indexByte seps.data.toList ((r : Int).toNat.toUInt8)) = !badR r := by
  have : ∀ r : Fin 128, decide (0 ≤ Lib.indexByte seps.data.toList (((r.val : Int)).toNat.toUInt8)) = !badR r.val := by decide
  exact this ⟨r, h⟩
theorem high_bad {r : Nat} (h : ¬ r < 128) : (!badR r) = false := by
  have h0 : ¬ r = 10 := by omega
  have h1 : ¬ r = 0 := by omega
  simp [badR, h0, h1]
def Index (b : Bool) (w : World) (e : Ending) (w' : World) : Prop := ∃ z : Int, e = .returned (.int .i64 z) ∧ decide (0 ≤ z) = b ∧ Below w.heap.size w w'
theorem decode_one : Utf8.decode seps 0 = (10, 1) := by decide
theorem decode_two : Utf8.decode seps 1 = (0, 1) := by decide
set_option maxHeartbeats 2000000 in
theorem runeError_any (w : World) : Calls Tryz.prog 145 #[.string seps, .int .i32 65533] w (Index false w) := by
  have hs : seps.size = 2 := rfl
  generalize hz : seps = q at *
  have D0 : Hid (Utf8.decode q 0 = (10, 1)) := by subst hz; exact decode_one
  have D1 : Hid (Utf8.decode q 1 = (0, 1)) := by subst hz; exact decode_two
  clear hz
  go_enter Tryz.func145, Tryz.ntmps145
  go_wp2_with fail
  go_loopw [] (fun w' => ∃ pos : Nat, pos ≤ 2 ∧ w' = w.iter q pos) (fun w' => 2 - w'.iterPos w.heap.size)
  case atStart => exact ⟨0, Nat.zero_le _, rfl⟩
  case round =>
    obtain ⟨pos, hp, rfl⟩ := hrel
    have h3 : pos = 0 ∨ pos = 1 ∨ pos = 2 := by omega
    rcases h3 with rfl | rfl | rfl
    · have hnx : ∀ ty, (Instr.next (.pointer (some ⟨w.heap.size, 0, none⟩)) true ty).run Tryz.prog (w.iter q 0) = _ := fun ty => run_next_any w q 0 ty (by omega)
      rw [D0.out] at hnx
      go_wp2
      go_roundw
      case rel => exact ⟨1, by omega, rfl⟩
      case measure => simp
    · have hnx : ∀ ty, (Instr.next (.pointer (some ⟨w.heap.size, 0, none⟩)) true ty).run Tryz.prog (w.iter q 1) = _ := fun ty => run_next_any w q 1 ty (by omega)
      rw [D1.out] at hnx
      go_wp2
      go_roundw
      case rel => exact ⟨2, by omega, rfl⟩
      case measure => simp
    · have hnx : ∀ ty, (Instr.next (.pointer (some ⟨w.heap.size, 0, none⟩)) true ty).run Tryz.prog (w.iter q 2) = _ := fun ty => run_next_end w q 2 ty (by omega)
      go_wp2
      go_ret
      exact ⟨_, rfl, by decide, (Below.refl _ w).alloc (Nat.le_refl _) _⟩
theorem valid_same {r : Int} (h : Lib.validRune r = true) : Utf8.valid r = true := by
  unfold Lib.validRune at h
  unfold Utf8.valid
  simp only [decide_eq_true_eq, Bool.or_eq_true, Bool.and_eq_true] at h ⊢
  omega
set_option maxHeartbeats 4000000 in
theorem rune_any (r : Nat) (hr : r ≤ 2147483647) (w : World) : Calls Tryz.prog 145 #[.string seps, .int .i32 r] w (Index (!badR r) w) := by
  by_cases h1 : r < 128
  · refine (Tryz.strings_IndexRune_ascii seps r w (by omega) (by omega)).mono ?_
    rintro e w' ⟨rfl, rfl⟩
    exact ⟨_, rfl, two_index r h1, Below.refl _ _⟩
  · rw [high_bad h1]
    by_cases h2 : r = 65533
    · subst h2; exact runeError_any w
    · have t1 : decide ((r : Int) < 128) = false := decide_eq_false (by omega)
      have t1' : ¬ ((r : Int) < 128) := by omega
      have t2 : ((r : Int) == 65533) = false := by rw [beq_eq_false_iff_ne]; omega
      have hs : seps.size = 2 := rfl
      have hg1 : seps[1]'(by rw [hs]; decide) = 0 := rfl
      have HV := Lib.hid (fun w => Tryz.utf8_ValidRune (r : Int) w)
      have HB : Hid (∀ (x : ByteArray) c w, x.size = 0 → Calls Tryz.prog 110 #[.string x, .int .u8 c] w fun e w' => e = .returned (.int .i64 (-1)) ∧ w' = w) := fun x c w hx => by
        have h := Tryz.strings_IndexByte x c w
        have : x.data.toList = [] := List.length_eq_zero_iff.1 (by rw [← Lib.size_eq]; exact hx)
        rw [this] at h
        exact h
      generalize seps = q at *
      cases hv : Lib.validRune (r : Int) with
      | false =>
        rw [hv] at HV
        clear hv
        go_enter Tryz.func145, Tryz.ntmps145
        go_wp2_with fail
        refine (HV.out _).mono ?_
        rintro e w' ⟨rfl, rfl⟩
        go_wp2_with fail
        go_ret
        exact ⟨_, rfl, by decide, Below.refl _ _⟩
      | true =>
        rw [hv] at HV
        obtain ⟨n2, n4, hl⟩ := encode_facts (r : Int) (valid_same hv) (by omega)
        clear hv
        generalize he : Utf8.encode (r : Int) = rs at *
        have hcv : ∀ w : World, (convert 21 9 (.int .i32 (r : Int))).run Tryz.prog w = .ok (.string rs) w := fun w => by
          rw [run_convert_int_string w 21 9 .i32 (r : Int) (by rw [Tryz.underlying21]; rfl) Tryz.underlying9, he]
        have h234 : rs.size = 2 ∨ rs.size = 3 ∨ rs.size = 4 := by omega
        rcases h234 with h2 | h3 | h4
        · have hlast := hl (by omega)
          simp only [h2] at hlast
          have ht : ((q[1].toNat : Int) != (rs[1].toNat : Int)) = true := by
            rw [hg1, bne_iff_ne]
            have : (128 : Nat) ≤ (rs[1]).toNat := hlast
            show ((0 : UInt8).toNat : Int) ≠ _
            have : ((0 : UInt8).toNat : Int) = 0 := rfl
            omega
          clear hg1 hl hlast
          have hwr : IntKind.i64.wrap 2 = 2 := by rw [IntKind.wrap_i64]; rfl
          go_enter Tryz.func145, Tryz.ntmps145
          go_wp2_with fail
          refine (HV.out _).mono ?_
          rintro e w' ⟨rfl, rfl⟩
          go_wp2_with fail
          go_step3
          go_wp2_with fail
          go_loopw [9, 10] (fun i f wr => i = .int .i64 1 ∧ f = .int .i64 0 ∧ wr = w') (fun _ _ _ => 0)
          case atStart => exact ⟨rfl, rfl, rfl⟩
          case round =>
            obtain ⟨rfl, rfl, rfl⟩ := hrel
            go_wp2_with fail
            go_step3
            go_wp2_with fail
            go_quiet (fail)
            have HWB : Hid (Below wr.heap.size wr (wr.drewN nq)) := below_draws _ _
            generalize wr.drewN nq = W at *
            go_wp2_with fail
            go_quiet ((go_at_call 110; exact Calls.quiet_of_same (HB.out _ _ _ rfl)))
            go_wp2_with fail
            repeat rw [Exit.noGoto_ret]
            go_ret
            exact ⟨_, rfl, by decide, HWB.out.trans (below_draws _ _ |>.mono HWB.out.size)⟩
        · go_enter Tryz.func145, Tryz.ntmps145
          go_wp2_with fail
          refine (HV.out _).mono ?_
          rintro e w' ⟨rfl, rfl⟩
          go_wp2_with fail
          go_step3
          go_wp2_with fail
          go_loopw [9, 10] (fun i f wr => i = .int .i64 2 ∧ f = .int .i64 0 ∧ wr = w') (fun _ _ _ => 0)
          case atStart => exact ⟨rfl, rfl, rfl⟩
          case round =>
            obtain ⟨rfl, rfl, rfl⟩ := hrel
            go_wp2_with fail
            rw [Exit.noGoto_ret]
            go_ret
            exact ⟨_, rfl, by decide, Below.refl _ _⟩
        · go_enter Tryz.func145, Tryz.ntmps145
          go_wp2_with fail
          refine (HV.out _).mono ?_
          rintro e w' ⟨rfl, rfl⟩
          go_wp2_with fail
          go_step3
          go_wp2_with fail
          go_loopw [9, 10] (fun i f wr => i = .int .i64 3 ∧ f = .int .i64 0 ∧ wr = w') (fun _ _ _ => 0)
          case atStart => exact ⟨rfl, rfl, rfl⟩
          case round =>
            obtain ⟨rfl, rfl, rfl⟩ := hrel
            go_wp2_with fail
            rw [Exit.noGoto_ret]
            go_ret
            exact ⟨_, rfl, by decide, Below.refl _ _⟩
end Go.Proofs.YtpihldcchjoinaaGreatDoor.W11
/-
  Layer 11 (rows), walks of the landed code's isWord, mayHave and Right: whether a row may be; new memory may be laid, nothing that was there is changed. The conditions stand in the statements.
-/
namespace Go.Proofs.YtpihldcchjoinaaGreatDoor.W11
set_option maxRecDepth 100000
open Go Go.RowKit Go.Proofs.YtpihldcchjoinaaGreatDoor.Strs Go.Proofs.YtpihldcchjoinaaGreatDoor.Recs
open Go.Proofs.YtpihldcchjoinaaGreatDoor.M12
open Go.Proofs.YtpihldcchjoinaaGreatDoor.M04 (parts isPath)
open Go.Proofs.YtpihldcchjoinaaGreatDoor.W03 (alike_no alike_yes width_pos)
open Go.Proofs.YtpihldcchjoinaaGreatDoor.Kit (ret_str ret_bool ret_int mk_of mk_bytes ba_ext below_draws on)

theorem iterPos_of {W : World} {b : Nat} {s : ByteArray} {pos : Nat} (h : W.heap[b]? = some (.stringIter s pos)) : W.iterPos b = pos := by unfold World.iterPos; rw [h]
set_option maxHeartbeats 2000000 in
theorem short_any (s : ByteArray) (h8 : s.size ≤ 8) (w : World) : Calls Tryz.prog 136 #[.string s, .string seps] w (Index (!s.data.toList.all wordByte) w) := by
  have HR := Lib.hid (fun r h w => rune_any r h w)
  have HU := Lib.hid (fun w => Tryz.strings_shouldUseASCIISet (s.size : Int) w)
  have hu : decide ((8 : Int) < (s.size : Int)) = false := decide_eq_false (by omega)
  rw [hu] at HU
  have A := word_alike
  have hs : seps.size = 2 := rfl
  have hs0 : 0 < seps.size := by rw [hs]; decide
  have n1 := Kit.list_full hs0
  have n2 := Kit.list_ne hs0
  generalize seps = q at *
  generalize badR = bq at HR A
  generalize wordByte = p at A ⊢
  clear hu
  go_enter Tryz.func136, Tryz.ntmps136
  go_wp2_with fail
  refine (HU.out _).mono ?_
  rintro e w' ⟨rfl, rfl⟩
  go_wp2_with fail
  go_loopw [9, 10] (fun _ _ wr => ∃ pos : Nat, pos ≤ s.size ∧ wr.heap[w'.heap.size]? = some (.stringIter s pos) ∧ Hid (Below w'.heap.size w' wr) ∧ Hid ((s.data.toList.take pos).all p = true)) (fun _ _ wr => s.size - wr.iterPos w'.heap.size)
  case atStart => exact ⟨0, Nat.zero_le _, World.alloc_heap_new _ _, (Below.refl _ _).alloc (Nat.le_refl _) _, Lib.hid rfl⟩
  case round =>
    obtain ⟨pos, hp, hit, hb, ha⟩ := hrel
    by_cases hlt : pos < s.size
    · have hnx := fun ty => next_at (P := Tryz.prog) ty hit hlt
      have hwd := width_pos s pos hlt
      have hle := decode_le s pos
      have HQ := Lib.hid (fun h => alike_no A hlt h)
      have HY := Lib.hid (fun h => alike_yes A hlt h ha.out)
      generalize Utf8.decode s pos = d at *
      obtain ⟨r, n⟩ := d
      have hit2 : (wr.putObj w'.heap.size (.stringIter s (pos + n))).heap[w'.heap.size]? = some (.stringIter s (pos + n)) := World.putObj_heap_same (Array.getElem?_eq_some_iff.1 hit).1
      have hb2 : Hid (Below w'.heap.size w' (wr.putObj w'.heap.size (.stringIter s (pos + n)))) := hb.out.trans (put_below (Nat.le_refl _))
      have hsz2 : w'.heap.size < (wr.putObj w'.heap.size (.stringIter s (pos + n))).heap.size := (Array.getElem?_eq_some_iff.1 hit2).1
      have hpos := iterPos_of hit
      obtain ⟨W, hW⟩ : ∃ W, wr.putObj w'.heap.size (.stringIter s (pos + n)) = W := ⟨_, rfl⟩
      simp only [hW] at hnx hit2 hb2 hsz2
      clear hW
      cases hq : bq r with
      | true =>
        have HRR := HR.out r (by simpa using hle) W
        rw [hq] at HRR
        have HRR := Lib.hid HRR
        obtain ⟨hs3, hn⟩ := HY.out hq
        have HN := Lib.hid hn
        clear hn hq HQ HY
        go_wp2_with fail
        refine HRR.out.mono ?_
        rintro e w2 ⟨z, rfl, hz, hb3⟩
        have hz2 : ¬ ((0 : Int) ≤ z) := by simpa using hz
        have hit3 := Lib.hid ((hb3.block _ hsz2).trans hit2)
        have hb4 := Lib.hid (on hb2.out (hb3.mono (Nat.le_refl _)))
        clear hz hb3 hnx hit2 hit
        go_wp2_with fail
        go_roundw
        case rel => exact ⟨pos + n, hs3, hit3.out, hb4, HN⟩
        case measure => rw [iterPos_of hit3.out, hpos]; have hwn : 1 ≤ n := hwd; omega
      | false =>
        have HRR := HR.out r (by simpa using hle) W
        rw [hq] at HRR
        have HRR := Lib.hid HRR
        have HN := Lib.hid (HQ.out hq)
        clear hq HQ HY
        go_wp2_with fail
        refine HRR.out.mono ?_
        rintro e w2 ⟨z, rfl, hz, hb3⟩
        have hz2 : (0 : Int) ≤ z := by simpa using hz
        have hb4 := Lib.hid (on hb2.out (hb3.mono (Nat.le_refl _)))
        clear hz hb3 hnx hit2 hit
        go_wp2_with fail
        go_ret
        exact ⟨_, rfl, by rw [HN.out]; simp, hb4.out⟩
    · have hnx := fun ty => next_done (P := Tryz.prog) ty hit hlt
      have HN : Hid (s.data.toList.all p = true) := by
        have := ha.out
        rw [Kit.take_end s pos hlt] at this
        exact this
      clear hit
      go_wp2_with fail
      go_ret
      exact ⟨_, rfl, by rw [HN.out]; decide, hb.out⟩
theorem any_word (s : List UInt8) : decide (0 ≤ Lib.indexAny s seps.data.toList) = !s.all wordByte := by
  induction s with
  | nil => rfl
  | cons c l ih =>
    have hge := Lib.indexAny_ge seps.data.toList l
    rw [Lib.indexAny, List.all_cons]
    have hc : seps.data.toList.contains c = !wordByte c := by
      show ([10, 0] : List UInt8).contains c = _
      unfold wordByte
      by_cases h1 : c = 10
      · subst h1; rfl
      · by_cases h2 : c = 0
        · subst h2; rfl
        · simp [h1, h2]
    rw [hc]
    cases hw : wordByte c with
    | false => simp
    | true =>
      simp only [Bool.not_true, Bool.false_eq_true, if_false, Bool.true_and]
      rw [← ih]
      by_cases hm : Lib.indexAny l seps.data.toList = -1
      · simp [hm]
      · have hb : (Lib.indexAny l seps.data.toList == -1) = false := by simpa using hm
        rw [hb]
        simp only [Bool.false_eq_true, if_false]
        exact decide_eq_decide.2 (by omega)
theorem index_any (s : ByteArray) (hs : s.size ≤ 1048576) (w : World) : Calls Tryz.prog 136 #[.string s, .string seps] w (Index (!s.data.toList.all wordByte) w) := by
  by_cases h8 : s.size ≤ 8
  · exact short_any s h8 w
  · refine (Tryz.strings_IndexAny_long (zero_of_info (n := 256) (by kernel_rfl)).1 s seps w (by decide) (by omega) (by omega) (by decide) ?_).mono ?_
    · intro j b hj
      have : j < 2 := by
        rcases Nat.lt_or_ge j 2 with h | h
        · exact h
        · rw [List.getElem?_eq_none (by show [10, 0].length ≤ j; exact h)] at hj; cases hj
      have h2 : j = 0 ∨ j = 1 := by omega
      rcases h2 with rfl | rfl
      · have : b = 10 := by simpa [seps] using hj.symm
        subst this; decide
      · have : b = 0 := by simpa [seps] using hj.symm
        subst this; decide
    · rintro e w' ⟨rfl, rfl⟩
      exact ⟨_, rfl, any_word _, ((Below.refl _ _).alloc (Nat.le_refl _) _).alloc (by simp) _⟩
theorem contains_any (s : ByteArray) (hs : s.size ≤ 1048576) (w : World) : Calls Tryz.prog 120 #[.string s, .string seps] w fun e w' => e = .returned (.bool (!s.data.toList.all wordByte)) ∧ Below w.heap.size w w' := by
  have HI := Lib.hid (index_any s hs w)
  generalize seps = q at *
  generalize (!s.data.toList.all wordByte) = z at *
  go_enter Tryz.func120, Tryz.ntmps120
  go_wp2_with fail
  refine HI.out.mono ?_
  rintro e w' ⟨y, rfl, hy, hb⟩
  have HY := Lib.hid hy
  clear hy
  go_wp2_with fail
  go_ret
  exact ⟨ret_bool HY.out, hb⟩
theorem isWord_any (s : ByteArray) (w : World) : Calls Tryz.prog 96 #[.string s] w fun e w' => e = .returned (.bool (fitsR s.data.toList)) ∧ Below w.heap.size w w' := by
  have HF := Lib.hid (fits_all (s := s))
  generalize fitsR s.data.toList = f at *
  have hq : seps = ⟨#[10, 0]⟩ := rfl
  by_cases h : (s.size : Int) ≤ 4096
  · have HC := Lib.hid (contains_any s (by omega) w)
    rw [hq] at HC
    have HE : Hid (f = s.data.toList.all wordByte) := by
      show _ = _
      rw [HF.out, decide_eq_true (show s.size ≤ 4096 by omega), Bool.and_true]
    generalize s.data.toList.all wordByte = z at *
    go_enter Tryz.func96, Tryz.ntmps96
    go_wp2_with fail
    refine HC.out.mono ?_
    rintro e w' ⟨rfl, hb⟩
    go_wp2_with fail
    go_ret
    exact ⟨ret_bool (by rw [HE.out]; first | done | simp), hb⟩
  · have hd : decide ((s.size : Int) ≤ 4096) = false := decide_eq_false h
    have HE : Hid (f = false) := by
      show _ = _
      rw [HF.out, decide_eq_false (show ¬ s.size ≤ 4096 by omega), Bool.and_false]
    go_enter Tryz.func96, Tryz.ntmps96
    go_wp2_with fail
    go_ret
    exact ⟨ret_bool (by rw [HE.out]), Below.refl _ _⟩
theorem mayHave_any (k : Int) (x : ByteArray) (w : World) : Calls Tryz.prog 97 #[.int .i64 k, .string x] w fun e w' => e = .returned (.bool (mayHave k x.data.toList)) ∧ w' = w := by
  have hmay : Hid (mayHave k x.data.toList = (decide (k = 1 ∧ x.data.toList = []) || decide (k = 2) || decide (k = 3 ∧ x.data.toList ≠ []))) := rfl
  by_cases hx0 : 0 < x.size
  · have n1 := Kit.list_full hx0
    have n2 := Kit.list_ne hx0
    have hne : x.data.toList ≠ [] := by rw [← Lib.toList_data]; exact n2
    by_cases e1 : k = 1
    · subst e1
      have HE := Lib.hid (hmay.out.trans (show _ = false by simp [hne]))
      clear hmay hne
      go_enter Tryz.func97, Tryz.ntmps97
      go_wp2_with fail
      go_ret
      exact ⟨ret_bool HE.out.symm, rfl⟩
    · have u1 : (k == 1) = false := by simpa using e1
      by_cases e2 : k = 2
      · subst e2
        have HE := Lib.hid (hmay.out.trans (show _ = true by simp))
        clear hmay hne
        go_enter Tryz.func97, Tryz.ntmps97
        go_wp2_with fail
        go_ret
        exact ⟨ret_bool HE.out.symm, rfl⟩
      · have u2 : (k == 2) = false := by simpa using e2
        by_cases e3 : k = 3
        · subst e3
          have HE := Lib.hid (hmay.out.trans (show _ = true by simp [hne]))
          clear hmay hne
          go_enter Tryz.func97, Tryz.ntmps97
          go_wp2_with fail
          go_ret
          exact ⟨ret_bool HE.out.symm, rfl⟩
        · have u3 : (k == 3) = false := by simpa using e3
          have HE := Lib.hid (hmay.out.trans (show _ = false by simp [e1, e2, e3]))
          clear hmay hne e1 e2 e3
          go_enter Tryz.func97, Tryz.ntmps97
          go_wp2_with fail
          go_ret
          exact ⟨ret_bool HE.out.symm, rfl⟩
  · have n1 := Kit.list_none hx0
    have n2 := Kit.list_nil hx0
    have hne : x.data.toList = [] := by rw [← Lib.toList_data]; exact n2
    by_cases e1 : k = 1
    · subst e1
      have HE := Lib.hid (hmay.out.trans (show _ = true by simp [hne]))
      clear hmay hne
      go_enter Tryz.func97, Tryz.ntmps97
      go_wp2_with fail
      go_ret
      exact ⟨ret_bool HE.out.symm, rfl⟩
    · have u1 : (k == 1) = false := by simpa using e1
      by_cases e2 : k = 2
      · subst e2
        have HE := Lib.hid (hmay.out.trans (show _ = true by simp))
        clear hmay hne
        go_enter Tryz.func97, Tryz.ntmps97
        go_wp2_with fail
        go_ret
        exact ⟨ret_bool HE.out.symm, rfl⟩
      · have u2 : (k == 2) = false := by simpa using e2
        by_cases e3 : k = 3
        · subst e3
          have HE := Lib.hid (hmay.out.trans (show _ = false by simp [hne]))
          clear hmay hne
          go_enter Tryz.func97, Tryz.ntmps97
          go_wp2_with fail
          go_ret
          exact ⟨ret_bool HE.out.symm, rfl⟩
        · have u3 : (k == 3) = false := by simpa using e3
          have HE := Lib.hid (hmay.out.trans (show _ = false by simp [e1, e2, e3]))
          clear hmay hne e1 e2 e3
          go_enter Tryz.func97, Tryz.ntmps97
          go_wp2_with fail
          go_ret
          exact ⟨ret_bool HE.out.symm, rfl⟩
set_option maxHeartbeats 2000000 in
theorem right_any (p x : ByteArray) (k : Int) (hp : p.size ≤ 2147483648) (w : World) :
    Calls Tryz.prog 70 #[.agg #[.string p, .int .i64 k, .string x]] w fun e w' => e = .returned (.bool (rightR ⟨p.data.toList, k, x.data.toList⟩)) ∧ Below w.heap.size w w' := by
  obtain ⟨w1, hw1⟩ : ∃ w1, w.alloc (.cells #[.string p, .int .i64 k, .string x] 41) = w1 := ⟨_, rfl⟩
  have hb1 : Below w.heap.size w w1 := by rw [← hw1]; exact below_box w _
  have hs1 : w.heap.size < w1.heap.size := by rw [← hw1, World.size_alloc]; omega
  have X1 : RowBox w1 w.heap.size p k x := by rw [← hw1]; exact RowBox.new _ _ _ _ _
  have HI := Lib.hid (W04.is_any p hp w1)
  have HP := Lib.hid (fun w => isWord_any p w)
  have HX := Lib.hid (fun w => isWord_any x w)
  have HM := Lib.hid (fun w => mayHave_any k x w)
  have HR := Lib.hid (fun (a b c d e : Bool) => @right_is p.data.toList x.data.toList k a b c d e)
  obtain ⟨x0, x1, x2⟩ := X1
  go_enter Tryz.func70, Tryz.ntmps70
  go_wp2_with fail
  refine HI.out.mono ?_
  rintro e w2 ⟨rfl, hb⟩
  have hbb := Lib.hid (on hb1 hb)
  have hs2 : w.heap.size < w2.heap.size := Nat.lt_of_lt_of_le hs1 hb.size
  have y0 : w2.cell? ⟨w.heap.size, 0, none⟩ = _ := (hb.cell (p := ⟨w.heap.size, 0, none⟩) hs1).trans x0
  have y1 : w2.cell? ⟨w.heap.size, 1, none⟩ = _ := (hb.cell (p := ⟨w.heap.size, 1, none⟩) hs1).trans x1
  have y2 : w2.cell? ⟨w.heap.size, 2, none⟩ = _ := (hb.cell (p := ⟨w.heap.size, 2, none⟩) hs1).trans x2
  clear x0 x1 x2 hw1 hb hb1 HI hs1
  cases h1 : isPath p.data.toList with
  | false =>
    have HE := Lib.hid (HR.out _ _ _ _ _ h1 rfl rfl rfl rfl)
    go_wp2_with fail
    go_ret
    exact ⟨ret_bool (by rw [HE.out]; rfl), hbb.out⟩
  | true =>
    by_cases h2 : p.data.toList = [47]
    · have t2 : (p.toList == [47]) = true := by rw [Lib.toList_data]; simpa using h2
      have t2' : (p.toList != [47]) = false := by rw [Lib.toList_data]; simpa using h2
      have HE := Lib.hid (HR.out _ _ _ _ _ h1 (decide_eq_false (fun h => h h2)) rfl rfl rfl)
      clear h2
      go_wp2_with fail
      go_ret
      exact ⟨ret_bool (by rw [HE.out]; rfl), hbb.out⟩
    · have t2 : (p.toList == [47]) = false := by rw [Lib.toList_data]; simpa using h2
      have t2' : (p.toList != [47]) = true := by rw [Lib.toList_data]; simpa using h2
      have h2' := Lib.hid (decide_eq_true h2)
      clear h2
      cases h3 : fitsR p.data.toList with
      | false =>
        have HE := Lib.hid (HR.out _ _ _ _ _ h1 h2'.out h3 rfl rfl)
        rw [h3] at HP
        go_wp2_with fail
        refine (HP.out _).mono ?_
        rintro e w3 ⟨rfl, hb⟩
        go_wp2_with fail
        go_ret
        exact ⟨ret_bool (by rw [HE.out]; rfl), on hbb.out hb⟩
      | true =>
        rw [h3] at HP
        cases h4 : fitsR x.data.toList with
        | false =>
          have HE := Lib.hid (HR.out _ _ _ _ _ h1 h2'.out h3 h4 rfl)
          rw [h4] at HX
          go_wp2_with fail
          refine (HP.out _).mono ?_
          rintro e w3 ⟨rfl, hb⟩
          have z2 : w3.cell? ⟨w.heap.size, 2, none⟩ = _ := (hb.cell (p := ⟨w.heap.size, 2, none⟩) hs2).trans y2
          go_wp2_with fail
          refine (HX.out _).mono ?_
          rintro e w4 ⟨rfl, hb2⟩
          go_wp2_with fail
          go_ret
          exact ⟨ret_bool (by rw [HE.out]; rfl), on (on hbb.out hb) hb2⟩
        | true =>
          rw [h4] at HX
          have HE := Lib.hid (HR.out _ _ _ _ _ h1 h2'.out h3 h4 rfl)
          generalize mayHave k x.data.toList = z at *
          clear h1 h2' h3 h4 HR
          go_wp2_with fail
          refine (HP.out _).mono ?_
          rintro e w3 ⟨rfl, hb⟩
          have z1 : w3.cell? ⟨w.heap.size, 1, none⟩ = _ := (hb.cell (p := ⟨w.heap.size, 1, none⟩) hs2).trans y1
          have z2 : w3.cell? ⟨w.heap.size, 2, none⟩ = _ := (hb.cell (p := ⟨w.heap.size, 2, none⟩) hs2).trans y2
          have hs3 : w.heap.size < w3.heap.size := Nat.lt_of_lt_of_le hs2 hb.size
          clear y0 y1 y2
          go_wp2_with fail
          refine (HX.out _).mono ?_
          rintro e w4 ⟨rfl, hb2⟩
          have v1 : w4.cell? ⟨w.heap.size, 1, none⟩ = _ := (hb2.cell (p := ⟨w.heap.size, 1, none⟩) hs3).trans z1
          have v2 : w4.cell? ⟨w.heap.size, 2, none⟩ = _ := (hb2.cell (p := ⟨w.heap.size, 2, none⟩) hs3).trans z2
          have HB := Lib.hid (on (on hbb.out hb) hb2)
          clear z1 z2 hb hb2
          go_wp2_with fail
          refine (HM.out _).mono ?_
          rintro e w5 ⟨rfl, rfl⟩
          go_wp2_with fail
          go_ret
          exact ⟨ret_bool (by rw [HE.out]; rfl), HB.out⟩
end Go.Proofs.YtpihldcchjoinaaGreatDoor.W11
