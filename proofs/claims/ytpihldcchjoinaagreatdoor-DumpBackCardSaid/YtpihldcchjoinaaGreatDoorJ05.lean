/-
  Texts joined, in build order, each with its own comment and its own conditions: W11Less, RecFull, W11Sort.
-/
import Derived.Test.YtpihldcchjoinaaGreatDoorJ04
/-
  Layer 11 (rows), a walk of the plain answer Less: an order of paths part by part; new memory may be laid, nothing that was there is changed. The conditions stand in the statement.
-/
namespace Go.Proofs.YtpihldcchjoinaaGreatDoor.W11
set_option maxRecDepth 100000
open Go Go.RowKit Go.Proofs.YtpihldcchjoinaaGreatDoor.Strs Go.Proofs.YtpihldcchjoinaaGreatDoor.Recs
open Go.Proofs.YtpihldcchjoinaaGreatDoor.M12
open Go.Proofs.YtpihldcchjoinaaGreatDoor.M04 (parts isPath)
open Go.Proofs.YtpihldcchjoinaaGreatDoor.M03 (lt)
open Go.Proofs.YtpihldcchjoinaaGreatDoor.W03 (less_bytes same_bytes)
open Go.Proofs.YtpihldcchjoinaaGreatDoor.W04 (Hands)
open Go.Proofs.YtpihldcchjoinaaGreatDoor.Kit (ret_str ret_bool ret_int mk_of mk_bytes ba_ext below_draws on)

theorem drop_getD {A : List Bytes} {k : Nat} (hk : k < A.length) : A.drop k = A.getD k [] :: A.drop (k + 1) := by
  rw [List.drop_eq_getElem_cons hk]; simp [List.getD_eq_getElem?_getD, hk]
theorem less_on {A B : List Bytes} {k : Nat} (ha : k < A.length) (hb : k < B.length) (h : A.getD k [] = B.getD k []) : lessP (A.drop k) (B.drop k) = lessP (A.drop (k + 1)) (B.drop (k + 1)) := by
  rw [drop_getD ha, drop_getD hb, lessP, if_pos h]
theorem less_here {A B : List Bytes} {k : Nat} (ha : k < A.length) (hb : k < B.length) (h : ¬ A.getD k [] = B.getD k []) : lessP (A.drop k) (B.drop k) = decide (lt (A.getD k []) (B.getD k [])) := by
  rw [drop_getD ha, drop_getD hb, lessP, if_neg h]
theorem less_end {A B : List Bytes} {k : Nat} (ha : k ≤ A.length) (hb : k ≤ B.length) (h : ¬ (k < A.length ∧ k < B.length)) : lessP (A.drop k) (B.drop k) = decide ((A.length : Int) < (B.length : Int)) := by
  by_cases h1 : k < A.length
  · have h2 : ¬ k < B.length := fun e => h ⟨h1, e⟩
    rw [drop_getD h1, List.drop_of_length_le (l := B) (by omega), lessP]
    exact (decide_eq_false (by omega)).symm
  · rw [List.drop_of_length_le (l := A) (by omega)]
    by_cases h2 : k < B.length
    · rw [drop_getD h2, lessP]; exact (decide_eq_true (by omega)).symm
    · rw [List.drop_of_length_le (l := B) (by omega), lessP]; exact (decide_eq_false (by omega)).symm
theorem drew_on {a b : World} (h : Below a.heap.size a b) (n : Nat) : Below a.heap.size a (b.drewN n) := ⟨h.os, h.tape, h.output, h.size, h.block⟩
set_option maxHeartbeats 2000000 in
theorem refLess_any (p q : ByteArray) (hp : p.size ≤ 2147483648) (hq : q.size ≤ 2147483648) (w : World) :
    Calls Tryz.prog 69 #[.string p, .string q] w fun e w' => e = .returned (.bool (less p.data.toList q.data.toList)) ∧ Below w.heap.size w w' := by
  have HP := Lib.hid (fun w => W04.refParts_hands p hp w)
  have HQ := Lib.hid (fun w => W04.refParts_hands q hq w)
  have HD : Hid (less p.data.toList q.data.toList = lessP (parts p.data.toList) (parts q.data.toList)) := rfl
  generalize less p.data.toList q.data.toList = r at *
  generalize parts p.data.toList = PA at *
  generalize parts q.data.toList = PB at *
  go_enter Tryz.func69, Tryz.ntmps69
  go_wp2_with fail
  refine (HP.out _).mono ?_
  rintro e w1 ⟨va, rfl, ta, hb1⟩
  go_wp2_with fail
  refine (HQ.out _).mono ?_
  rintro e w2 ⟨vb, rfl, tb, hb2⟩
  have TA := Lib.hid (ta.below hb2)
  have TB := Lib.hid (tb)
  have HB := Lib.hid (on hb1 hb2)
  obtain ⟨A, c, rfl, hA1, hA2⟩ := ta.form
  obtain ⟨A', c', rfl, hB1, hB2⟩ := tb.form
  unfold maxLen at hA2 hB2
  clear ta tb hb1 hb2 HP HQ
  generalize hm : PA.length = m at *
  generalize hn : PB.length = n at *
  have HM := Lib.hid hm
  have HN := Lib.hid hn
  clear hm hn
  go_wp2_with fail
  go_loopw [7] (fun i wr => ∃ k : Nat, k ≤ m ∧ k ≤ n ∧ i = .int .i64 k ∧ Hid (lessP PA PB = lessP (PA.drop k) (PB.drop k)) ∧ ∃ d, wr = w2.drewN d) (fun i _ => m - (intOf i).toNat)
  case atStart => exact ⟨0, Nat.zero_le _, Nat.zero_le _, rfl, rfl, 0, rfl⟩
  case round =>
    obtain ⟨k, hk1, hk2, rfl, hr, d, rfl⟩ := hrel
    by_cases h1 : k < m
    · by_cases h2 : k < n
      · obtain ⟨ad, s, rfl, hbl, hc, hs⟩ := TA.out.at_ h1
        obtain ⟨ad', s', rfl, hbl', hc', hs'⟩ := TB.out.at_ h2
        have HS := Lib.hid hs
        have HS' := Lib.hid hs'
        clear hs hs'
        cases he : (s.toList == s'.toList) with
        | true =>
          have hE := Lib.hid (hr.out.trans (less_on (A := PA) (B := PB) (k := k) (by rw [HM.out]; exact h1) (by rw [HN.out]; exact h2) (by rw [← HS.out, ← HS'.out, ← Lib.toList_data, ← Lib.toList_data]; exact beq_iff_eq.1 he)))
          go_wp2_with fail
          go_quiet (fail)
          go_wp2_with fail
          go_roundw
          case rel => exact ⟨k + 1, by omega, by omega, by go_num, hE, d + nq, by first | rfl | rw [World.drewN_drewN]⟩
          case measure => simp [intOf]; omega
        | false =>
          have hE := Lib.hid (hr.out.trans (less_here (A := PA) (B := PB) (k := k) (by rw [HM.out]; exact h1) (by rw [HN.out]; exact h2) (by rw [← HS.out, ← HS'.out, ← Lib.toList_data, ← Lib.toList_data]; exact beq_eq_false_iff_ne.1 he)))
          rw [← HS.out, ← HS'.out] at hE
          have hlb := less_bytes s s'
          generalize hlt : decide (lt s.data.toList s'.data.toList) = z at *
          clear hlt
          go_wp2_with fail
          go_quiet (fail)
          go_wp2_with fail
          go_quiet (fail)
          go_wp2_with fail
          go_ret
          exact ⟨ret_bool (by rw [HD.out, hE.out]), by first | exact drew_on HB.out _ | (rw [World.drewN_drewN]; exact drew_on HB.out _) | (rw [World.drewN_drewN, World.drewN_drewN]; exact drew_on HB.out _)⟩
      · have hE := Lib.hid (hr.out.trans (less_end (A := PA) (B := PB) (k := k) (by rw [HM.out]; exact hk1) (by rw [HN.out]; exact hk2) (by rw [HM.out, HN.out]; exact fun e => h2 e.2)))
        rw [HM.out, HN.out] at hE
        go_wp2_with fail
        go_ret
        exact ⟨ret_bool (by rw [HD.out, hE.out]; exact decide_eq_decide.2 (by omega)), by first | exact drew_on HB.out _ | (rw [World.drewN_drewN]; exact drew_on HB.out _) | (rw [World.drewN_drewN, World.drewN_drewN]; exact drew_on HB.out _)⟩
    · have hE := Lib.hid (hr.out.trans (less_end (A := PA) (B := PB) (k := k) (by rw [HM.out]; exact hk1) (by rw [HN.out]; exact hk2) (by rw [HM.out, HN.out]; exact fun e => h1 e.1)))
      rw [HM.out, HN.out] at hE
      go_wp2_with fail
      go_ret
      exact ⟨ret_bool (by rw [HD.out, hE.out]; exact decide_eq_decide.2 (by omega)), by first | exact drew_on HB.out _ | (rw [World.drewN_drewN]; exact drew_on HB.out _) | (rw [World.drewN_drewN, World.drewN_drewN]; exact drew_on HB.out _)⟩
end Go.Proofs.YtpihldcchjoinaaGreatDoor.W11
/-
  append(v, records...) where v is a slice of records that has no room behind its last one: the records are copied into a block of the call's own, whoever v's block belongs to. For every program; the conditions stand in the statement.
-/
namespace Go.Proofs.YtpihldcchjoinaaGreatDoor.Recs
open Go Go.RowKit

theorem grown_row {w : World} (base : Nat) (e : TypeId) (i : TypeInfo) (z : Value) (hzs : z.cells.size = i.size) (xs news : List Value) (n m : Nat) (hx : xs.length = n * i.size) (hl : news.length = m * i.size) (hbase : base ≤ w.heap.size) (h63 : n + m ≤ maxLen) (old : Nat) :
    (w.drew.alloc (.cells (xs.toArray ++ news.toArray ++ Builtin.zeroCells z.cells (grownCap w (n + m) old e - (n + m))) e)).ownsRow base e i.size (.slice (some ⟨w.heap.size, 0, none⟩) (n + m) (grownCap w (n + m) old e)) (n + m) (xs ++ news) ∧
      Below w.heap.size w (w.drew.alloc (.cells (xs.toArray ++ news.toArray ++ Builtin.zeroCells z.cells (grownCap w (n + m) old e - (n + m))) e)) := by
  have hlen : (xs ++ news).length = (n + m) * i.size := by rw [List.length_append, hx, hl, Nat.add_mul]
  have hge := grownCap_ge w (n + m) old e
  have hcm : grownCap w (n + m) old e ≤ maxLen := grownCap_le_maxLen w (n + m) old e h63
  refine ⟨⟨hlen, .inr ⟨w.heap.size, _, _, rfl, hbase, heap_alloc_new w.drew _, hge, hcm, ?_, ?_⟩⟩, ⟨rfl, rfl, rfl, by simp, fun k hk => heap_alloc_old w.drew _ hk⟩⟩
  · simp only [Array.size_append, List.size_toArray, size_zeroCells, hzs, hx, hl, ← Nat.add_mul]
    congr 1
    omega
  · simp only [Array.toList_append, List.append_assoc]
    rw [← List.append_assoc, ← hlen]
    exact List.take_left
theorem wp_append_full {α : Type} {enc : α → List Value} {P : Program} {w : World} {o : Oper} {a : Act} {K : Act → World → Prop} {Q : Exit → Act → World → Prop} (s x : Operand) (t : TypeId)
    (ho : o.op = .call { callee := .builtin .append, args := #[s, x], argTypes := #[t, t] })
    (base : Nat) (e : TypeId) (i : TypeInfo) (z : Value) (size bytes : Nat) (ht : P.underlying t = some (.slice e)) (hi : P.info? e = some i) (hz : i.zero = some z)
    (hsize : i.size = size) (hby : i.bytes = bytes) (hzs : z.cells.size = size) (hsz : 0 < size) (he : ∀ r : α, (enc r).length = size)
    (A : Option Addr) (n : Nat) (hs : a.eval s = .slice A n n) (old : List α) (B : Nat) (hold : Recs enc size B w (.slice A n n) old)
    (ad : Addr) (m c : Nat) (new : List α) (hx : a.eval x = .slice (some ad) m c) (hm : m = new.length) (h0 : 0 < m) (hnews : ∀ j u, (new.flatMap enc)[j]? = some u → w.cell? (ad.add j) = some u) (_hone : ∀ u ∈ new.flatMap enc, u.oneCell' = true)
    (h63 : n + m ≤ maxLen) (hbytes : (n + m) * bytes ≤ 140737488355328) (hbase : base ≤ w.heap.size)
    (h : ∀ v' w', w'.ownsRow base e size v' (n + m) ((old ++ new).flatMap enc) → Below w.heap.size w w' → (∃ g cap, v' = .slice (some ⟨g, 0, none⟩) (n + m) cap ∧ w.heap.size ≤ g) → K (a.put o.dst v') w') : o.wp P a w K Q := by
  subst hsize
  subst hby
  have hn : n = old.length := by obtain ⟨A', c', e, _⟩ := hold; injection e
  have hfo : (old.flatMap enc).length = n * i.size := by rw [flat_len he, hn]
  have hfn : (new.flatMap enc).length = m * i.size := by rw [flat_len he, hm]
  have hmx : n + m ≤ 9223372036854775807 := by simp only [maxLen] at h63; omega
  rcases A with _ | ad0
  · have h00 : n = 0 := by
      rcases Nat.eq_zero_or_pos n with q | q
      · exact q
      · obtain ⟨b, o, hf, _⟩ := hold.news he hsz q
        cases hf
    subst h00
    have ho0 : old = [] := List.length_eq_zero_iff.1 hn.symm
    subst ho0
    have hr := run_append_nil (P := P) (w := w) t o.type e i z ht hi hz ad m c (new.flatMap enc) hfn hnews h0 (by omega) (by have hb := hbytes; simp only [Nat.zero_add] at hb; omega)
    have hg := grown_row (w := w) base e i z hzs [] (new.flatMap enc) 0 m (by simp) hfn hbase h63 0
    simp only [Nat.zero_add, List.nil_append, Array.empty_append] at hg h
    unfold Oper.wp execOp
    simp only [ho, resolve, invoke, builtin, Sem.run_bind, Sem.run_pure, Result.andThen_ok, List.map_toArray, List.map_cons, List.map_nil, hs, hx, hr]
    exact h _ _ hg.1 hg.2 ⟨_, _, rfl, Nat.le_refl _⟩
  · have holds : ∀ j u, (old.flatMap enc)[j]? = some u → w.cell? (ad0.add j) = some u := by
      intro j u hj
      rcases Nat.eq_zero_or_pos n with q | q
      · have : old = [] := List.length_eq_zero_iff.1 (by rw [← hn]; exact q)
        subst this
        simp at hj
      · obtain ⟨b, o, hf, _, hc⟩ := hold.news he hsz q
        cases hf
        exact hc j u hj
    have hr := run_append_grow (P := P) (w := w) t o.type e i z ht hi hz ad0 n n (old.flatMap enc) hfo holds ad m c (new.flatMap enc) hfn hnews (by omega) (by omega) (growslice_fits (by omega) hbytes)
    have hg := grown_row (w := w) base e i z hzs (old.flatMap enc) (new.flatMap enc) n m hfo hfn hbase h63 n
    rw [← List.flatMap_append] at hg
    unfold Oper.wp execOp
    simp only [ho, resolve, invoke, builtin, Sem.run_bind, Sem.run_pure, Result.andThen_ok, List.map_toArray, List.map_cons, List.map_nil, hs, hx, hr]
    exact h _ _ hg.1 hg.2 ⟨_, _, rfl, Nat.le_refl _⟩
end Go.Proofs.YtpihldcchjoinaaGreatDoor.Recs
/-
  Layer 11 (rows), a walk of the plain answer Sort: rows one by one in their places; new memory alone. The conditions stand in the statement.
-/
namespace Go.Proofs.YtpihldcchjoinaaGreatDoor.W11
set_option maxRecDepth 100000
open Go Go.RowKit Go.Proofs.YtpihldcchjoinaaGreatDoor.Strs Go.Proofs.YtpihldcchjoinaaGreatDoor.Recs
open Go.Proofs.YtpihldcchjoinaaGreatDoor.M12
open Go.Proofs.YtpihldcchjoinaaGreatDoor.M04 (parts isPath)
open Go.Proofs.YtpihldcchjoinaaGreatDoor.W04 (Hands)
open Go.Proofs.YtpihldcchjoinaaGreatDoor.Kit (ret_str ret_bool ret_int mk_of mk_bytes ba_ext below_draws on)

theorem sort_next {L out : List Rw} {k : Nat} (hk : k < L.length) : (L.drop k).foldl ins out = (L.drop (k + 1)).foldl ins (ins out L[k]) := by
  rw [List.drop_eq_getElem_cons hk, List.foldl_cons]
theorem sort_end {L out : List Rw} {k : Nat} (hk : ¬ k < L.length) : (L.drop k).foldl ins out = out := by rw [List.drop_of_length_le (by omega)]; rfl
theorem ins_at {out : List Rw} {x : Rw} {s : Nat} (h : seat out x out.length = s) : ins out x = (out.take s ++ [x]) ++ out.drop s := by unfold ins; rw [h, List.append_assoc]; rfl
theorem one_row (w : World) (s : ByteArray) (x : ByteArray) (r : Rw) (h1 : s.data.toList = r.path) (h3 : x.data.toList = r.data) (t : TypeId) : ∀ j u, (([r] : List Rw).flatMap rowC)[j]? = some u → (w.alloc (.cells #[.string s, .int .i64 r.kind, .string x] t)).cell? ((⟨w.heap.size, 0, none⟩ : Addr).add j) = some u := by
  have e : ([r] : List Rw).flatMap rowC = [.string s, .int .i64 r.kind, .string x] := by
    show rowC r ++ [] = _
    unfold rowC strV
    rw [← h1, ← h3, mk_bytes, mk_bytes]; rfl
  rw [e]
  exact cells_new w _ t
theorem flat_one (r : Rw) : ∀ u ∈ ([r] : List Rw).flatMap rowC, u.oneCell' = true := fun u hu => by
  obtain ⟨y, _, hy⟩ := List.mem_flatMap.1 hu
  exact rowC_one y u hy
theorem take_full {α : Type} {enc : α → List Value} {sz B : Nat} {w : World} {A : Option Addr} {n c k : Nat} {L : List α} (h : Recs enc sz B w (.slice A n c) L) (hk : k ≤ n) : Recs enc sz B w (.slice A k k) (L.take k) := by
  obtain ⟨hn, hc1, hc2⟩ := h.count
  obtain ⟨A0, c0, e, h1, h2, h3⟩ := h.take hk
  injection e with e1 e2 e3
  subst e1
  have hl : (L.take k).length = k := e2.symm
  exact ⟨A, k, by rw [hl], by omega, by omega, h3⟩
theorem pair_on {W0 W w4 : World} {p q : Addr} {x y : Value} (hp : p.block < W0.heap.size) (hq : q.block < W0.heap.size) (h : W.cell? p = some x ∧ W.cell? q = some y ∧ Below W0.heap.size W0 W) (hb : Below W.heap.size W w4) : w4.cell? p = some x ∧ w4.cell? q = some y ∧ Below W0.heap.size W0 w4 :=
  ⟨(hb.cell (Nat.lt_of_lt_of_le hp h.2.2.size)).trans h.1, (hb.cell (Nat.lt_of_lt_of_le hq h.2.2.size)).trans h.2.1, on h.2.2 hb⟩
theorem pair_below {W0 W : World} {p q : Addr} {x y : Value} (h : W.cell? p = some x ∧ W.cell? q = some y ∧ Below W0.heap.size W0 W) : Below W0.heap.size W0 W := h.2.2
theorem trio_on {W2 w' w'' : World} {b o : Nat} {x y z : Value} {n : Nat} (hb : b < W2.heap.size) (h : w'.cell? ⟨b, o, none⟩ = some x ∧ w'.cell? ⟨b, o + 1, none⟩ = some y ∧ w'.cell? ⟨b, o + 2, none⟩ = some z ∧ Below W2.heap.size W2 w') (hn : Below n w' w'') (hle : W2.heap.size ≤ n) : w''.cell? ⟨b, o, none⟩ = some x ∧ w''.cell? ⟨b, o + 1, none⟩ = some y ∧ w''.cell? ⟨b, o + 2, none⟩ = some z ∧ Below W2.heap.size W2 w'' := by
  have hl : b < n := Nat.lt_of_lt_of_le hb hle
  exact ⟨(hn.cell (p := ⟨b, _, none⟩) hl).trans h.1, (hn.cell (p := ⟨b, _, none⟩) hl).trans h.2.1, (hn.cell (p := ⟨b, _, none⟩) hl).trans h.2.2.1, h.2.2.2.trans (hn.mono hle)⟩
theorem trio_below {W2 w' : World} {b o : Nat} {x y z : Value} (h : w'.cell? ⟨b, o, none⟩ = some x ∧ w'.cell? ⟨b, o + 1, none⟩ = some y ∧ w'.cell? ⟨b, o + 2, none⟩ = some z ∧ Below W2.heap.size W2 w') : Below W2.heap.size W2 w' := h.2.2.2
theorem trio_new {W2 : World} {b o : Nat} {x y z : Value} (hb : b < W2.heap.size) (h0 : W2.cell? ⟨b, o, none⟩ = some x) (h1 : W2.cell? ⟨b, o + 1, none⟩ = some y) (h2 : W2.cell? ⟨b, o + 2, none⟩ = some z) (c : Obj) : ((W2.alloc c).drew).cell? ⟨b, o, none⟩ = some x ∧ ((W2.alloc c).drew).cell? ⟨b, o + 1, none⟩ = some y ∧ ((W2.alloc c).drew).cell? ⟨b, o + 2, none⟩ = some z ∧ Below W2.heap.size W2 ((W2.alloc c).drew) := by
  have hn : Below W2.heap.size W2 ((W2.alloc c).drew) := ((Below.refl _ _).alloc (Nat.le_refl _) c).drew
  exact ⟨(hn.cell (p := ⟨b, _, none⟩) hb).trans h0, (hn.cell (p := ⟨b, _, none⟩) hb).trans h1, (hn.cell (p := ⟨b, _, none⟩) hb).trans h2, hn⟩
/-- a row's slice: nil, or in a block's beginning -/
def Own0 (u : Value) (n : Nat) : Prop := (n = 0 ∧ u = .slice none 0 0) ∨ ∃ g cap, u = .slice (some ⟨g, 0, none⟩) n cap
theorem own0_of {w : World} {base : Nat} {e : TypeId} {sz : Nat} {v : Value} {n : Nat} {xs : List Value} (h : w.ownsRow base e sz v n xs) : Own0 v n := by
  rcases h.2 with ⟨h1, h2⟩ | ⟨g, cap, cur, h1, _⟩
  · exact Or.inl ⟨h2, h1⟩
  · exact Or.inr ⟨g, cap, h1⟩
set_option maxHeartbeats 8000000 in
theorem refSort_any (v : Value) (L : List Rw) (B : Nat) (w : World) (h : RowList B w v L) (hB : B ≤ w.heap.size) (hn : L.length ≤ 1048576) (hp : ∀ x ∈ L, x.path.length ≤ 2147483648) :
    Calls Tryz.prog 36 #[v] w (HandsR w (sortR L)) := by
  obtain ⟨j0, hi, hz0, hz1, hz2⟩ := info_parts row_info
  have HI := Lib.hid hi
  have H := Lib.hid h
  have HPL := Lib.hid hp
  obtain ⟨A, c, rfl, hA1, hA2⟩ := h.form
  unfold maxLen at hA2
  have HS0 : Hid (sortR L = (L.drop 0).foldl ins []) := rfl
  generalize sortR L = R at *
  clear h hp
  generalize hm : L.length = m at *
  have HM := Lib.hid hm
  clear hm
  go_enter Tryz.func36, Tryz.ntmps36
  go_wp2_with fail
  go_loopw [3, 4] (fun u i wr => ∃ (k : Nat) (out : List Rw), k ≤ m ∧ i = .int .i64 k ∧ Hid (R = (L.drop k).foldl ins out) ∧ Hid (∀ x ∈ out, x.path.length ≤ 2147483648) ∧ Hid (out.length = k) ∧ Hid (Own0 u k) ∧ Hid (RowList wr.heap.size wr u out) ∧ Hid (Below w.heap.size w wr)) (fun _ i _ => m - (intOf i).toNat)
  case atStart => exact ⟨0, [], Nat.zero_le _, rfl, HS0, fun x hx => by simp at hx, rfl, Or.inl ⟨rfl, rfl⟩, recs_nil _ _ _ _, Below.refl _ _⟩
  case round =>
    obtain ⟨k, out, hk, rfl, hs, hpo, ho, how, hr, hb⟩ := hrel
    by_cases hlt : k < m
    · obtain ⟨b, o, hl1, s, x, rfl, hbl, hps, hpx, hc0, hc1, hc2⟩ := RowList.at_ (H.out.below (hb.out.mono hB)) hlt
      have hbw : b < wr.heap.size := by have := hb.out.size; omega
      have HSP : Hid (s.size ≤ 2147483648) := by show _ ≤ _; rw [Lib.size_eq, hps]; exact HPL.out _ (List.getElem_mem hl1)
      have HX := Lib.hid (hs.out.trans (sort_next hl1))
      have HPK : Hid ((L[k]).path.length ≤ 2147483648) := HPL.out _ (List.getElem_mem hl1)
      generalize L[k] = r at *
      have HPS := Lib.hid hps
      have HPX := Lib.hid hpx
      clear hps hpx
      obtain ⟨W0, rfl⟩ : ∃ W0 : World, W0 = wr := ⟨_, rfl⟩
      have hkm : (k + 1) ≤ maxLen := by unfold maxLen; omega
      rcases how.out with ⟨rfl, rfl⟩ | ⟨g2, c2, rfl⟩
      · have hout : out = [] := List.length_eq_zero_iff.1 ho.out
        subst hout
        go_wp2_with fail
        go_loopw [5] (fun a w' => a = .int .i64 0 ∧ Hid (Below W0.heap.size W0 w')) (fun a _ => 0)
        case atStart => exact ⟨by first | rfl | go_num, Below.refl _ _⟩
        case round =>
          obtain ⟨rfl, hbb⟩ := hrel
          have hsz3 := hbb.out.size
          have d0 : wr.cell? ⟨b, o, none⟩ = some (.string s) := by have := (hbb.out.cell (p := ⟨b, _, none⟩) hbw).trans hc0; simpa using this
          have d1 : wr.cell? ⟨b, o + 1, none⟩ = some (.int .i64 r.kind) := by have := (hbb.out.cell (p := ⟨b, _, none⟩) hbw).trans hc1; simpa using this
          have d2 : wr.cell? ⟨b, o + 2, none⟩ = some (.string x) := by have := (hbb.out.cell (p := ⟨b, _, none⟩) hbw).trans hc2; simpa using this
          have HSE : Hid (seat ([] : List Rw) r 0 = 0) := rfl
          go_wp2_with fail
          go_quiet (fail)
          have HB3 : Hid (Below W0.heap.size W0 (wr.drewN nq)) := drew_on hbb.out _
          have e0 : (wr.drewN nq).cell? ⟨b, o, none⟩ = some (.string s) := d0
          have e1 : (wr.drewN nq).cell? ⟨b, o + 1, none⟩ = some (.int .i64 r.kind) := d1
          have e2 : (wr.drewN nq).cell? ⟨b, o + 2, none⟩ = some (.string x) := d2
          clear hc0 hc1 hc2 d0 d1 d2 hsz3
          generalize wr.drewN nq = W at *
          have RO : Hid (RowList W0.heap.size W (.slice none 0 0) []) := recs_nil _ _ _ _
          have HW0 := Lib.hid (show W0.heap.size ≤ W.heap.size from HB3.out.size)
          have RD : Hid (∀ v, v = .slice none 0 0 → RowList W0.heap.size W v (([] : List Rw).drop (0))) := fun v hv => by rw [hv]; exact recs_nil _ _ _ _
          have RT : Hid (∀ v, v = (.slice none 0 0) → RowList W0.heap.size W v (([] : List Rw).take (0))) := fun v hv => by rw [hv]; exact take_full RO.out (Nat.zero_le _)
          have HLT : Hid ((([] : List Rw).take (0)).length = (0)) := by show _ = _; rw [List.length_take]; have := ho.out; omega
          have HLD : Hid ((([] : List Rw).drop (0)).length ≤ 1048576) := by show _ ≤ _; rw [List.length_drop]; have := ho.out; omega
          have HSK : Hid ((0) ≤ 1048576) := by show _ ≤ _; omega
          have q1 : (0 : Int) ≤ ((0 : Nat) : Int) := by omega
          have q2 : ((0 : Nat) : Int) ≤ ((0 : Nat) : Int) := by omega
          go_wp2_with (at_builtin; refine wpList_append_recs rfl (.const (.slice none 0 0)) (.tmp 35) 31 rfl W.heap.size 41 j0 (.agg #[.string ⟨#[]⟩, .int .i64 0, .string ⟨#[]⟩]) 3 40 Tryz.underlying31 HI.out hz0 hz1 hz2 rfl (by decide) (.slice none 0 0) 0 [] rfl (World.ownsRow_nil _ _ _ _) _ (([] : List Rw).drop (0)) W0.heap.size rfl (RD.out _ rfl) rowC_len rowC_one (by unfold maxLen; simp) (by simp) (Nat.le_refl _) ?_; intro v6 W2 hown6 hg6 hq6)
          have HB6 : Hid (Below W.heap.size W W2) := Below.grown (Below.refl _ _) hg6 (Nat.le_refl _) (fun q hq => by cases hq)
          rw [Nat.zero_add, List.nil_append] at hown6
          have R6 : Hid (RowList W2.heap.size W2 v6 (([] : List Rw).drop (0))) := Recs.of_own rowC_len rfl hown6
          have HB2 : Hid (Below W0.heap.size W0 W2) := HB3.out.trans (HB6.out.mono HW0.out)
          have RT2 : Hid (RowList W0.heap.size W2 (.slice none 0 0) (([] : List Rw).take (0))) := (RT.out _ rfl).below (HB6.out.mono HW0.out)
          have hW2 := HB6.out.size
          have hbw2 : b < W2.heap.size := by have := HW0.out; omega
          have i0 : W2.cell? ⟨b, o, none⟩ = some (.string s) := (HB6.out.cell (p := ⟨b, _, none⟩) (by have := HW0.out; show b < _; omega)).trans e0
          have i1 : W2.cell? ⟨b, o + 1, none⟩ = some (.int .i64 r.kind) := (HB6.out.cell (p := ⟨b, _, none⟩) (by have := HW0.out; show b < _; omega)).trans e1
          have i2 : W2.cell? ⟨b, o + 2, none⟩ = some (.string x) := (HB6.out.cell (p := ⟨b, _, none⟩) (by have := HW0.out; show b < _; omega)).trans e2
          clear e0 e1 e2 hg6 hq6 hown6
          go_region_held3 (fun w' => w'.cell? ⟨b, o, none⟩ = some (.string s) ∧ w'.cell? ⟨b, o + 1, none⟩ = some (.int .i64 r.kind) ∧ w'.cell? ⟨b, o + 2, none⟩ = some (.string x) ∧ Below W2.heap.size W2 w')
            (first | exact ⟨i0, i1, i2, (Below.refl _ _).drew⟩ | exact trio_on hbw2 (by assumption) hg8 (Nat.le_refl _) | exact trio_on hbw2 (by assumption) hg7 (Nat.le_of_lt hs7) | exact trio_new hbw2 i0 i1 i2 _ | go_keep)
            (first
              | (refine wp_append_full (.tmp 40) (.tmp 45) 31 rfl W2.heap.size 41 j0 (.agg #[.string ⟨#[]⟩, .int .i64 0, .string ⟨#[]⟩]) 3 40 Tryz.underlying31 HI.out hz0 hz1 hz2 rfl (by decide) rowC_len _ (0) rfl (([] : List Rw).take (0)) W0.heap.size (RT2.out.alloc (Nat.le_trans HW0.out hW2) _) ⟨W2.heap.size, 0, none⟩ 1 1 [r] rfl rfl (by decide) (one_row W2 s x r HPS.out HPX.out _) (flat_one r) (by have := HSK.out; unfold maxLen; omega) (by have := HSK.out; omega) (by show _ ≤ (W2.alloc _).heap.size; rw [World.size_alloc]; exact Nat.le_succ _) ?_; intro v7 w7 hown7 hg7 hv7; have hs7 : W2.heap.size < ((W2.alloc (.cells #[.string s, .int .i64 r.kind, .string x] 41)).drew).heap.size := (by show _ < (W2.alloc _).heap.size; rw [World.size_alloc]; exact Nat.lt_succ_self _); have hb7 : Below W2.heap.size W2 w7 := (((Below.refl W2.heap.size W2).alloc (Nat.le_refl _) _).drew).trans (hg7.mono (Nat.le_of_lt hs7)))
              | (refine wp_append_recs (.tmp 46) (.tmp 47) 31 rfl W2.heap.size 41 j0 (.agg #[.string ⟨#[]⟩, .int .i64 0, .string ⟨#[]⟩]) 3 40 Tryz.underlying31 HI.out hz0 hz1 hz2 rfl (by decide) v7 ((0) + 1) _ rfl hown7 v6 (([] : List Rw).drop (0)) W2.heap.size rfl (R6.out.below hb7) rowC_len rowC_one (by have := HSK.out; have := HLD.out; unfold maxLen; omega) (by have := HSK.out; have := HLD.out; omega) hb7.size ?_; intro v8 w8 hown8 hg8' hq8; have hg8 : Below W2.heap.size w7 w8 := Below.grown (Below.refl _ _) hg8' hb7.size (fun q hq => (hown7.lt q hq).1)))
          have HB8 := Lib.hid (HB2.out.trans ((trio_below (by assumption)).mono HB2.out.size))
          rw [← List.flatMap_append, ← ins_at (out := ([] : List Rw)) (x := r) (s := 0) HSE.out] at hown8
          have hlen8 : (ins ([] : List Rw) r).length = (0) + 1 + (([] : List Rw).drop (0)).length := by rw [ins_at (out := ([] : List Rw)) (x := r) (s := 0) HSE.out, List.length_append, List.length_append, HLT.out]; rfl
          have hl8 : (ins ([] : List Rw) r).length = 0 + 1 := by rw [ins_len, ho.out]
          rw [← hlen8] at hown8
          have R8 : Hid (RowList w8.heap.size w8 v8 (ins ([] : List Rw) r)) := Recs.of_own rowC_len rfl hown8
          have O8 : Hid (Own0 v8 (0 + 1)) := by rw [← hl8]; exact own0_of hown8
          have L8 := Lib.hid hl8
          clear hown7 hg7 hv7 hb7 hg8 hg8' hq8 hown8 hlen8 hl8 i0 i1 i2
          go_wp2_with fail
          go_roundw
          case rel =>
            refine ⟨0 + 1, ins ([] : List Rw) r, by omega, by go_num, HX, fun y hy => ?_, L8, O8, R8, hb.out.trans (HB8.out.mono hb.out.size)⟩
            rcases mem_ins.1 hy with e | e
            · rw [e]; exact HPK.out
            · exact hpo.out y e
          case measure => simp [intOf]; omega
      · obtain ⟨-, hq1, hq2⟩ := hr.out.count
        unfold maxLen at hq2
        go_wp2_with fail
        go_loopw [5] (fun a w' => ∃ j : Nat, j ≤ k ∧ a = .int .i64 j ∧ Hid (seat out r out.length = seat out r j) ∧ Hid (Below W0.heap.size W0 w')) (fun a _ => (intOf a).toNat)
        case atStart => exact ⟨k, Nat.le_refl _, by first | rfl | go_num, by rw [ho.out]; exact rfl, Below.refl _ _⟩
        case round =>
          obtain ⟨j, hj, rfl, hse, hbb⟩ := hrel
          have hsz3 := hbb.out.size
          have d0 : wr.cell? ⟨b, o + k * 3, none⟩ = some (.string s) := (hbb.out.cell (p := ⟨b, _, none⟩) hbw).trans hc0
          have d1 : wr.cell? ⟨b, o + k * 3 + 1, none⟩ = some (.int .i64 r.kind) := (hbb.out.cell (p := ⟨b, _, none⟩) hbw).trans hc1
          have d2 : wr.cell? ⟨b, o + k * 3 + 2, none⟩ = some (.string x) := (hbb.out.cell (p := ⟨b, _, none⟩) hbw).trans hc2
          clear hc0 hc1 hc2
          rcases Nat.eq_zero_or_pos j with h0 | h0
          · subst h0
            have HSE : Hid (seat out r out.length = 0) := hse.out
            go_wp2_with fail
            go_quiet (fail)
            have HB3 : Hid (Below W0.heap.size W0 (wr.drewN nq)) := drew_on hbb.out _
            have e0 : (wr.drewN nq).cell? ⟨b, o + k * 3, none⟩ = some (.string s) := d0
            have e1 : (wr.drewN nq).cell? ⟨b, o + k * 3 + 1, none⟩ = some (.int .i64 r.kind) := d1
            have e2 : (wr.drewN nq).cell? ⟨b, o + k * 3 + 2, none⟩ = some (.string x) := d2
            clear d0 d1 d2 hsz3
            generalize wr.drewN nq = W at *
            have RO : Hid (RowList W0.heap.size W (.slice (some ⟨g2, 0, none⟩) k c2) out) := hr.out.keep (fun p hp => HB3.out.cell hp)
            have hlo : Hid (out.length ≤ 1048576) := by rw [ho.out]; show _ ≤ _; omega
            by_cases hcs : c2 = 0
            · have HW0 := Lib.hid (show W0.heap.size ≤ W.heap.size from HB3.out.size)
              have RD : Hid (∀ v, v = .slice (some ⟨g2, 0, none⟩) (k - (0)) 0 → RowList W0.heap.size W v (out.drop (0))) := fun v hv => by rw [hv]; exact RO.out.drop_all (Nat.zero_le _) hcs (Nat.zero_le _)
              have RT : Hid (∀ v, v = (.slice (some ⟨g2, 0, none⟩) (0) (0)) → RowList W0.heap.size W v (out.take (0))) := fun v hv => by rw [hv]; exact take_full RO.out (Nat.zero_le _)
              have HLT : Hid ((out.take (0)).length = (0)) := by show _ = _; rw [List.length_take]; have := ho.out; omega
              have HLD : Hid ((out.drop (0)).length ≤ 1048576) := by show _ ≤ _; rw [List.length_drop]; have := ho.out; omega
              have HSK : Hid ((0) ≤ 1048576) := by show _ ≤ _; omega
              have q1 : (0 : Int) ≤ ((0 : Nat) : Int) := by omega
              have q2 : ((0 : Nat) : Int) ≤ ((k : Nat) : Int) := by omega
              go_wp2_with (at_builtin; refine wpList_append_recs rfl (.const (.slice none 0 0)) (.tmp 35) 31 rfl W.heap.size 41 j0 (.agg #[.string ⟨#[]⟩, .int .i64 0, .string ⟨#[]⟩]) 3 40 Tryz.underlying31 HI.out hz0 hz1 hz2 rfl (by decide) (.slice none 0 0) 0 [] rfl (World.ownsRow_nil _ _ _ _) _ (out.drop (0)) W0.heap.size rfl (RD.out _ rfl) rowC_len rowC_one (by unfold maxLen; have := hlo.out; simp; omega) (by have := hlo.out; simp; omega) (Nat.le_refl _) ?_; intro v6 W2 hown6 hg6 hq6)
              have HB6 : Hid (Below W.heap.size W W2) := Below.grown (Below.refl _ _) hg6 (Nat.le_refl _) (fun q hq => by cases hq)
              rw [Nat.zero_add, List.nil_append] at hown6
              have R6 : Hid (RowList W2.heap.size W2 v6 (out.drop (0))) := Recs.of_own rowC_len rfl hown6
              have HB2 : Hid (Below W0.heap.size W0 W2) := HB3.out.trans (HB6.out.mono HW0.out)
              have RT2 : Hid (RowList W0.heap.size W2 (.slice (some ⟨g2, 0, none⟩) (0) (0)) (out.take (0))) := (RT.out _ rfl).below (HB6.out.mono HW0.out)
              have hW2 := HB6.out.size
              have hbw2 : b < W2.heap.size := by have := HW0.out; omega
              have i0 : W2.cell? ⟨b, o + k * 3, none⟩ = some (.string s) := (HB6.out.cell (p := ⟨b, _, none⟩) (by have := HW0.out; show b < _; omega)).trans e0
              have i1 : W2.cell? ⟨b, o + k * 3 + 1, none⟩ = some (.int .i64 r.kind) := (HB6.out.cell (p := ⟨b, _, none⟩) (by have := HW0.out; show b < _; omega)).trans e1
              have i2 : W2.cell? ⟨b, o + k * 3 + 2, none⟩ = some (.string x) := (HB6.out.cell (p := ⟨b, _, none⟩) (by have := HW0.out; show b < _; omega)).trans e2
              clear e0 e1 e2 hg6 hq6 hown6
              go_region_held3 (fun w' => w'.cell? ⟨b, o + k * 3, none⟩ = some (.string s) ∧ w'.cell? ⟨b, o + k * 3 + 1, none⟩ = some (.int .i64 r.kind) ∧ w'.cell? ⟨b, o + k * 3 + 2, none⟩ = some (.string x) ∧ Below W2.heap.size W2 w')
                (first | exact ⟨i0, i1, i2, (Below.refl _ _).drew⟩ | exact trio_on hbw2 (by assumption) hg8 (Nat.le_refl _) | exact trio_on hbw2 (by assumption) hg7 (Nat.le_of_lt hs7) | exact trio_new hbw2 i0 i1 i2 _ | go_keep)
                (first
                  | (refine wp_append_full (.tmp 40) (.tmp 45) 31 rfl W2.heap.size 41 j0 (.agg #[.string ⟨#[]⟩, .int .i64 0, .string ⟨#[]⟩]) 3 40 Tryz.underlying31 HI.out hz0 hz1 hz2 rfl (by decide) rowC_len _ (0) rfl (out.take (0)) W0.heap.size (RT2.out.alloc (Nat.le_trans HW0.out hW2) _) ⟨W2.heap.size, 0, none⟩ 1 1 [r] rfl rfl (by decide) (one_row W2 s x r HPS.out HPX.out _) (flat_one r) (by have := HSK.out; unfold maxLen; omega) (by have := HSK.out; omega) (by show _ ≤ (W2.alloc _).heap.size; rw [World.size_alloc]; exact Nat.le_succ _) ?_; intro v7 w7 hown7 hg7 hv7; have hs7 : W2.heap.size < ((W2.alloc (.cells #[.string s, .int .i64 r.kind, .string x] 41)).drew).heap.size := (by show _ < (W2.alloc _).heap.size; rw [World.size_alloc]; exact Nat.lt_succ_self _); have hb7 : Below W2.heap.size W2 w7 := (((Below.refl W2.heap.size W2).alloc (Nat.le_refl _) _).drew).trans (hg7.mono (Nat.le_of_lt hs7)))
                  | (refine wp_append_recs (.tmp 46) (.tmp 47) 31 rfl W2.heap.size 41 j0 (.agg #[.string ⟨#[]⟩, .int .i64 0, .string ⟨#[]⟩]) 3 40 Tryz.underlying31 HI.out hz0 hz1 hz2 rfl (by decide) v7 ((0) + 1) _ rfl hown7 v6 (out.drop (0)) W2.heap.size rfl (R6.out.below hb7) rowC_len rowC_one (by have := HSK.out; have := HLD.out; unfold maxLen; omega) (by have := HSK.out; have := HLD.out; omega) hb7.size ?_; intro v8 w8 hown8 hg8' hq8; have hg8 : Below W2.heap.size w7 w8 := Below.grown (Below.refl _ _) hg8' hb7.size (fun q hq => (hown7.lt q hq).1)))
              have HB8 := Lib.hid (HB2.out.trans ((trio_below (by assumption)).mono HB2.out.size))
              rw [← List.flatMap_append, ← ins_at (out := out) (x := r) (s := 0) HSE.out] at hown8
              have hlen8 : (ins out r).length = (0) + 1 + (out.drop (0)).length := by rw [ins_at (out := out) (x := r) (s := 0) HSE.out, List.length_append, List.length_append, HLT.out]; rfl
              have hl8 : (ins out r).length = k + 1 := by rw [ins_len, ho.out]
              rw [← hlen8] at hown8
              have R8 : Hid (RowList w8.heap.size w8 v8 (ins out r)) := Recs.of_own rowC_len rfl hown8
              have O8 : Hid (Own0 v8 (k + 1)) := by rw [← hl8]; exact own0_of hown8
              have L8 := Lib.hid hl8
              clear hown7 hg7 hv7 hb7 hg8 hg8' hq8 hown8 hlen8 hl8 i0 i1 i2
              go_wp2_with fail
              go_roundw
              case rel =>
                refine ⟨k + 1, ins out r, by omega, by go_num, HX, fun y hy => ?_, L8, O8, R8, hb.out.trans (HB8.out.mono hb.out.size)⟩
                rcases mem_ins.1 hy with e | e
                · rw [e]; exact HPK.out
                · exact hpo.out y e
              case measure => simp [intOf]; omega
            · have HW0 := Lib.hid (show W0.heap.size ≤ W.heap.size from HB3.out.size)
              have RD : Hid (∀ v, v = .slice (some ⟨g2, 0, none⟩) (k - 0) (c2 - 0) → RowList W0.heap.size W v (out.drop (0))) := fun v hv => by rw [hv]; exact RO.out.drop rowC_len (by decide) (Nat.zero_le _)
              have RT : Hid (∀ v, v = (.slice (some ⟨g2, 0, none⟩) (0) (0)) → RowList W0.heap.size W v (out.take (0))) := fun v hv => by rw [hv]; exact take_full RO.out (Nat.zero_le _)
              have HLT : Hid ((out.take (0)).length = (0)) := by show _ = _; rw [List.length_take]; have := ho.out; omega
              have HLD : Hid ((out.drop (0)).length ≤ 1048576) := by show _ ≤ _; rw [List.length_drop]; have := ho.out; omega
              have HSK : Hid ((0) ≤ 1048576) := by show _ ≤ _; omega
              have q1 : (0 : Int) ≤ ((0 : Nat) : Int) := by omega
              have q2 : ((0 : Nat) : Int) ≤ ((k : Nat) : Int) := by omega
              go_wp2_with (at_builtin; refine wpList_append_recs rfl (.const (.slice none 0 0)) (.tmp 35) 31 rfl W.heap.size 41 j0 (.agg #[.string ⟨#[]⟩, .int .i64 0, .string ⟨#[]⟩]) 3 40 Tryz.underlying31 HI.out hz0 hz1 hz2 rfl (by decide) (.slice none 0 0) 0 [] rfl (World.ownsRow_nil _ _ _ _) _ (out.drop (0)) W0.heap.size rfl (RD.out _ rfl) rowC_len rowC_one (by unfold maxLen; have := hlo.out; simp; omega) (by have := hlo.out; simp; omega) (Nat.le_refl _) ?_; intro v6 W2 hown6 hg6 hq6)
              have HB6 : Hid (Below W.heap.size W W2) := Below.grown (Below.refl _ _) hg6 (Nat.le_refl _) (fun q hq => by cases hq)
              rw [Nat.zero_add, List.nil_append] at hown6
              have R6 : Hid (RowList W2.heap.size W2 v6 (out.drop (0))) := Recs.of_own rowC_len rfl hown6
              have HB2 : Hid (Below W0.heap.size W0 W2) := HB3.out.trans (HB6.out.mono HW0.out)
              have RT2 : Hid (RowList W0.heap.size W2 (.slice (some ⟨g2, 0, none⟩) (0) (0)) (out.take (0))) := (RT.out _ rfl).below (HB6.out.mono HW0.out)
              have hW2 := HB6.out.size
              have hbw2 : b < W2.heap.size := by have := HW0.out; omega
              have i0 : W2.cell? ⟨b, o + k * 3, none⟩ = some (.string s) := (HB6.out.cell (p := ⟨b, _, none⟩) (by have := HW0.out; show b < _; omega)).trans e0
              have i1 : W2.cell? ⟨b, o + k * 3 + 1, none⟩ = some (.int .i64 r.kind) := (HB6.out.cell (p := ⟨b, _, none⟩) (by have := HW0.out; show b < _; omega)).trans e1
              have i2 : W2.cell? ⟨b, o + k * 3 + 2, none⟩ = some (.string x) := (HB6.out.cell (p := ⟨b, _, none⟩) (by have := HW0.out; show b < _; omega)).trans e2
              clear e0 e1 e2 hg6 hq6 hown6
              go_region_held3 (fun w' => w'.cell? ⟨b, o + k * 3, none⟩ = some (.string s) ∧ w'.cell? ⟨b, o + k * 3 + 1, none⟩ = some (.int .i64 r.kind) ∧ w'.cell? ⟨b, o + k * 3 + 2, none⟩ = some (.string x) ∧ Below W2.heap.size W2 w')
                (first | exact ⟨i0, i1, i2, (Below.refl _ _).drew⟩ | exact trio_on hbw2 (by assumption) hg8 (Nat.le_refl _) | exact trio_on hbw2 (by assumption) hg7 (Nat.le_of_lt hs7) | exact trio_new hbw2 i0 i1 i2 _ | go_keep)
                (first
                  | (refine wp_append_full (.tmp 40) (.tmp 45) 31 rfl W2.heap.size 41 j0 (.agg #[.string ⟨#[]⟩, .int .i64 0, .string ⟨#[]⟩]) 3 40 Tryz.underlying31 HI.out hz0 hz1 hz2 rfl (by decide) rowC_len _ (0) rfl (out.take (0)) W0.heap.size (RT2.out.alloc (Nat.le_trans HW0.out hW2) _) ⟨W2.heap.size, 0, none⟩ 1 1 [r] rfl rfl (by decide) (one_row W2 s x r HPS.out HPX.out _) (flat_one r) (by have := HSK.out; unfold maxLen; omega) (by have := HSK.out; omega) (by show _ ≤ (W2.alloc _).heap.size; rw [World.size_alloc]; exact Nat.le_succ _) ?_; intro v7 w7 hown7 hg7 hv7; have hs7 : W2.heap.size < ((W2.alloc (.cells #[.string s, .int .i64 r.kind, .string x] 41)).drew).heap.size := (by show _ < (W2.alloc _).heap.size; rw [World.size_alloc]; exact Nat.lt_succ_self _); have hb7 : Below W2.heap.size W2 w7 := (((Below.refl W2.heap.size W2).alloc (Nat.le_refl _) _).drew).trans (hg7.mono (Nat.le_of_lt hs7)))
                  | (refine wp_append_recs (.tmp 46) (.tmp 47) 31 rfl W2.heap.size 41 j0 (.agg #[.string ⟨#[]⟩, .int .i64 0, .string ⟨#[]⟩]) 3 40 Tryz.underlying31 HI.out hz0 hz1 hz2 rfl (by decide) v7 ((0) + 1) _ rfl hown7 v6 (out.drop (0)) W2.heap.size rfl (R6.out.below hb7) rowC_len rowC_one (by have := HSK.out; have := HLD.out; unfold maxLen; omega) (by have := HSK.out; have := HLD.out; omega) hb7.size ?_; intro v8 w8 hown8 hg8' hq8; have hg8 : Below W2.heap.size w7 w8 := Below.grown (Below.refl _ _) hg8' hb7.size (fun q hq => (hown7.lt q hq).1)))
              have HB8 := Lib.hid (HB2.out.trans ((trio_below (by assumption)).mono HB2.out.size))
              rw [← List.flatMap_append, ← ins_at (out := out) (x := r) (s := 0) HSE.out] at hown8
              have hlen8 : (ins out r).length = (0) + 1 + (out.drop (0)).length := by rw [ins_at (out := out) (x := r) (s := 0) HSE.out, List.length_append, List.length_append, HLT.out]; rfl
              have hl8 : (ins out r).length = k + 1 := by rw [ins_len, ho.out]
              rw [← hlen8] at hown8
              have R8 : Hid (RowList w8.heap.size w8 v8 (ins out r)) := Recs.of_own rowC_len rfl hown8
              have O8 : Hid (Own0 v8 (k + 1)) := by rw [← hl8]; exact own0_of hown8
              have L8 := Lib.hid hl8
              clear hown7 hg7 hv7 hb7 hg8 hg8' hq8 hown8 hlen8 hl8 i0 i1 i2
              go_wp2_with fail
              go_roundw
              case rel =>
                refine ⟨k + 1, ins out r, by omega, by go_num, HX, fun y hy => ?_, L8, O8, R8, hb.out.trans (HB8.out.mono hb.out.size)⟩
                rcases mem_ins.1 hy with e | e
                · rw [e]; exact HPK.out
                · exact hpo.out y e
              case measure => simp [intOf]; omega
          · obtain ⟨j', rfl⟩ : ∃ j', j = j' + 1 := ⟨j - 1, by omega⟩
            have hw1 : IntKind.i64.wrap ((j' : Int) + 1 - 1) = (j' : Int) := by rw [IntKind.wrap_i64]; omega
            have hw2 : IntKind.i64.wrap (j' : Int) = (j' : Int) := by rw [IntKind.wrap_i64]; omega
            have hw3 : (j' : Int) < (k : Int) := by omega
            have hw4 : (0 : Int) < (j' : Int) + 1 := by omega
            have hw5 : j' < k := by omega
            have hw6 : IntKind.i64.wrap ((j' : Int) + 1) = (j' : Int) + 1 := by rw [IntKind.wrap_i64]; omega
            have hw7 : (j' : Int) + 1 ≤ (c2 : Int) := by omega
            have hw8 : (0 : Int) ≤ (j' : Int) + 1 := by omega
            have hw9 : (j' : Int) + 1 ≤ (k : Int) := by omega
            have hj2 : j' < out.length := by rw [ho.out]; omega
            obtain ⟨b2, o2, hl2, s2, x2, hA2, hbl2, hps2, hpx2, e0, -, -⟩ := RowList.at_ hr.out (k := j') (by omega)
            cases hA2
            have f0 : wr.cell? ⟨g2, 0 + j' * 3, none⟩ = some (.string s2) := (hbb.out.cell (p := ⟨g2, _, none⟩) hbl2).trans e0
            rw [Nat.zero_add] at f0
            have HS2 : s2.size ≤ 2147483648 := by rw [Lib.size_eq, hps2]; exact hpo.out _ (List.getElem_mem hl2)
            have HL := Lib.hid (fun w => refLess_any s s2 HSP.out HS2 w)
            have HGO := Lib.hid (fun (h : less s.data.toList s2.data.toList = true) => hse.out.trans (seat_go (x := r) hj2 (by rw [← hps2, ← HPS.out]; exact h)))
            have HST := Lib.hid (fun (h : less s.data.toList s2.data.toList = false) => hse.out.trans (seat_stop (x := r) hj2 (by rw [← hps2, ← HPS.out]; exact h)))
            clear hps2 hpx2 e0
            cases hle : less s.data.toList s2.data.toList with
            | true =>
              rw [hle] at HL
              have HE := Lib.hid (HGO.out hle)
              clear hle HGO HST
              go_wp2_with fail
              go_region_held3 (fun w' => w'.cell? ⟨b, o + k * 3, none⟩ = some (.string s) ∧ w'.cell? ⟨g2, j' * 3, none⟩ = some (.string s2) ∧ Below W0.heap.size W0 w')
                (first | exact ⟨d0, f0, hbb.out.drew⟩ | exact pair_on hbw hbl2 (by assumption) hb4 | go_keep)
                ((go_at_call 69; refine (HL.out _).mono ?_; rintro e w4 ⟨rfl, hb4⟩))
              have HB4 := Lib.hid (pair_below (by assumption))
              go_wp2_with fail
              go_roundw
              case rel => exact ⟨j', by omega, by go_num, HE, HB4⟩
              case measure => simp [intOf]
            | false =>
              rw [hle] at HL
              have HSE := Lib.hid (HST.out hle)
              clear hle HGO HST
              go_wp2_with fail
              go_region_held3 (fun w' => w'.cell? ⟨b, o + k * 3, none⟩ = some (.string s) ∧ w'.cell? ⟨g2, j' * 3, none⟩ = some (.string s2) ∧ Below W0.heap.size W0 w')
                (first | exact ⟨d0, f0, hbb.out.drew⟩ | exact pair_on hbw hbl2 (by assumption) hb4 | go_keep)
                ((go_at_call 69; refine (HL.out _).mono ?_; rintro e w4 ⟨rfl, hb4⟩))
              have HB3 := Lib.hid (pair_below (by assumption))
              have e0 : w4.cell? ⟨b, o + k * 3, none⟩ = some (.string s) := (by assumption : _ ∧ _ ∧ _).1
              have e1 : w4.cell? ⟨b, o + k * 3 + 1, none⟩ = some (.int .i64 r.kind) := (hb4.cell (p := ⟨b, _, none⟩) (by show b < _; simp; omega)).trans d1
              have e2 : w4.cell? ⟨b, o + k * 3 + 2, none⟩ = some (.string x) := (hb4.cell (p := ⟨b, _, none⟩) (by show b < _; simp; omega)).trans d2
              clear d0 d1 d2 hsz3 hb4
              obtain ⟨W, rfl⟩ : ∃ W : World, W = w4 := ⟨_, rfl⟩
              have RO : Hid (RowList W0.heap.size W (.slice (some ⟨g2, 0, none⟩) k c2) out) := hr.out.keep (fun p hp => HB3.out.cell hp)
              have hlo : Hid (out.length ≤ 1048576) := by rw [ho.out]; show _ ≤ _; omega
              by_cases hcs : c2 = j' + 1
              · have HW0 := Lib.hid (show W0.heap.size ≤ W.heap.size from HB3.out.size)
                have RD : Hid (∀ v, v = .slice (some ⟨g2, 0, none⟩) (k - (j' + 1)) 0 → RowList W0.heap.size W v (out.drop (j' + 1))) := fun v hv => by rw [hv]; exact RO.out.drop_all hj hcs (Nat.zero_le _)
                have RT : Hid (∀ v, v = (.slice (some ⟨g2, 0, none⟩) (j' + 1) (j' + 1)) → RowList W0.heap.size W v (out.take (j' + 1))) := fun v hv => by rw [hv]; exact take_full RO.out hj
                have HLT : Hid ((out.take (j' + 1)).length = (j' + 1)) := by show _ = _; rw [List.length_take]; have := ho.out; omega
                have HLD : Hid ((out.drop (j' + 1)).length ≤ 1048576) := by show _ ≤ _; rw [List.length_drop]; have := ho.out; omega
                have HSK : Hid ((j' + 1) ≤ 1048576) := by show _ ≤ _; omega
                have q1 : (0 : Int) ≤ ((j' + 1 : Nat) : Int) := by omega
                have q2 : ((j' + 1 : Nat) : Int) ≤ ((k : Nat) : Int) := by omega
                go_wp2_with (at_builtin; refine wpList_append_recs rfl (.const (.slice none 0 0)) (.tmp 35) 31 rfl W.heap.size 41 j0 (.agg #[.string ⟨#[]⟩, .int .i64 0, .string ⟨#[]⟩]) 3 40 Tryz.underlying31 HI.out hz0 hz1 hz2 rfl (by decide) (.slice none 0 0) 0 [] rfl (World.ownsRow_nil _ _ _ _) _ (out.drop (j' + 1)) W0.heap.size rfl (RD.out _ rfl) rowC_len rowC_one (by unfold maxLen; have := hlo.out; simp; omega) (by have := hlo.out; simp; omega) (Nat.le_refl _) ?_; intro v6 W2 hown6 hg6 hq6)
                have HB6 : Hid (Below W.heap.size W W2) := Below.grown (Below.refl _ _) hg6 (Nat.le_refl _) (fun q hq => by cases hq)
                rw [Nat.zero_add, List.nil_append] at hown6
                have R6 : Hid (RowList W2.heap.size W2 v6 (out.drop (j' + 1))) := Recs.of_own rowC_len rfl hown6
                have HB2 : Hid (Below W0.heap.size W0 W2) := HB3.out.trans (HB6.out.mono HW0.out)
                have RT2 : Hid (RowList W0.heap.size W2 (.slice (some ⟨g2, 0, none⟩) (j' + 1) (j' + 1)) (out.take (j' + 1))) := (RT.out _ rfl).below (HB6.out.mono HW0.out)
                have hW2 := HB6.out.size
                have hbw2 : b < W2.heap.size := by have := HW0.out; omega
                have i0 : W2.cell? ⟨b, o + k * 3, none⟩ = some (.string s) := (HB6.out.cell (p := ⟨b, _, none⟩) (by have := HW0.out; show b < _; omega)).trans e0
                have i1 : W2.cell? ⟨b, o + k * 3 + 1, none⟩ = some (.int .i64 r.kind) := (HB6.out.cell (p := ⟨b, _, none⟩) (by have := HW0.out; show b < _; omega)).trans e1
                have i2 : W2.cell? ⟨b, o + k * 3 + 2, none⟩ = some (.string x) := (HB6.out.cell (p := ⟨b, _, none⟩) (by have := HW0.out; show b < _; omega)).trans e2
                clear e0 e1 e2 hg6 hq6 hown6
                go_region_held3 (fun w' => w'.cell? ⟨b, o + k * 3, none⟩ = some (.string s) ∧ w'.cell? ⟨b, o + k * 3 + 1, none⟩ = some (.int .i64 r.kind) ∧ w'.cell? ⟨b, o + k * 3 + 2, none⟩ = some (.string x) ∧ Below W2.heap.size W2 w')
                  (first | exact ⟨i0, i1, i2, (Below.refl _ _).drew⟩ | exact trio_on hbw2 (by assumption) hg8 (Nat.le_refl _) | exact trio_on hbw2 (by assumption) hg7 (Nat.le_of_lt hs7) | exact trio_new hbw2 i0 i1 i2 _ | go_keep)
                  (first
                    | (refine wp_append_full (.tmp 40) (.tmp 45) 31 rfl W2.heap.size 41 j0 (.agg #[.string ⟨#[]⟩, .int .i64 0, .string ⟨#[]⟩]) 3 40 Tryz.underlying31 HI.out hz0 hz1 hz2 rfl (by decide) rowC_len _ (j' + 1) rfl (out.take (j' + 1)) W0.heap.size (RT2.out.alloc (Nat.le_trans HW0.out hW2) _) ⟨W2.heap.size, 0, none⟩ 1 1 [r] rfl rfl (by decide) (one_row W2 s x r HPS.out HPX.out _) (flat_one r) (by have := HSK.out; unfold maxLen; omega) (by have := HSK.out; omega) (by show _ ≤ (W2.alloc _).heap.size; rw [World.size_alloc]; exact Nat.le_succ _) ?_; intro v7 w7 hown7 hg7 hv7; have hs7 : W2.heap.size < ((W2.alloc (.cells #[.string s, .int .i64 r.kind, .string x] 41)).drew).heap.size := (by show _ < (W2.alloc _).heap.size; rw [World.size_alloc]; exact Nat.lt_succ_self _); have hb7 : Below W2.heap.size W2 w7 := (((Below.refl W2.heap.size W2).alloc (Nat.le_refl _) _).drew).trans (hg7.mono (Nat.le_of_lt hs7)))
                    | (refine wp_append_recs (.tmp 46) (.tmp 47) 31 rfl W2.heap.size 41 j0 (.agg #[.string ⟨#[]⟩, .int .i64 0, .string ⟨#[]⟩]) 3 40 Tryz.underlying31 HI.out hz0 hz1 hz2 rfl (by decide) v7 ((j' + 1) + 1) _ rfl hown7 v6 (out.drop (j' + 1)) W2.heap.size rfl (R6.out.below hb7) rowC_len rowC_one (by have := HSK.out; have := HLD.out; unfold maxLen; omega) (by have := HSK.out; have := HLD.out; omega) hb7.size ?_; intro v8 w8 hown8 hg8' hq8; have hg8 : Below W2.heap.size w7 w8 := Below.grown (Below.refl _ _) hg8' hb7.size (fun q hq => (hown7.lt q hq).1)))
                have HB8 := Lib.hid (HB2.out.trans ((trio_below (by assumption)).mono HB2.out.size))
                rw [← List.flatMap_append, ← ins_at (out := out) (x := r) (s := j' + 1) HSE.out] at hown8
                have hlen8 : (ins out r).length = (j' + 1) + 1 + (out.drop (j' + 1)).length := by rw [ins_at (out := out) (x := r) (s := j' + 1) HSE.out, List.length_append, List.length_append, HLT.out]; rfl
                have hl8 : (ins out r).length = k + 1 := by rw [ins_len, ho.out]
                rw [← hlen8] at hown8
                have R8 : Hid (RowList w8.heap.size w8 v8 (ins out r)) := Recs.of_own rowC_len rfl hown8
                have O8 : Hid (Own0 v8 (k + 1)) := by rw [← hl8]; exact own0_of hown8
                have L8 := Lib.hid hl8
                clear hown7 hg7 hv7 hb7 hg8 hg8' hq8 hown8 hlen8 hl8 i0 i1 i2
                go_wp2_with fail
                go_roundw
                case rel =>
                  refine ⟨k + 1, ins out r, by omega, by go_num, HX, fun y hy => ?_, L8, O8, R8, hb.out.trans (HB8.out.mono hb.out.size)⟩
                  rcases mem_ins.1 hy with e | e
                  · rw [e]; exact HPK.out
                  · exact hpo.out y e
                case measure => simp [intOf]; omega
              · have HW0 := Lib.hid (show W0.heap.size ≤ W.heap.size from HB3.out.size)
                have RD : Hid (∀ v, v = .slice (some ⟨g2, (j' + 1) * 3, none⟩) (k - (j' + 1)) (c2 - (j' + 1)) → RowList W0.heap.size W v (out.drop (j' + 1))) := fun v hv => by rw [hv]; exact (by have := RO.out.drop rowC_len (by decide) hj; simpa only [Option.map_some, Addr.add_lit, Nat.zero_add] using this)
                have RT : Hid (∀ v, v = (.slice (some ⟨g2, 0, none⟩) (j' + 1) (j' + 1)) → RowList W0.heap.size W v (out.take (j' + 1))) := fun v hv => by rw [hv]; exact take_full RO.out hj
                have HLT : Hid ((out.take (j' + 1)).length = (j' + 1)) := by show _ = _; rw [List.length_take]; have := ho.out; omega
                have HLD : Hid ((out.drop (j' + 1)).length ≤ 1048576) := by show _ ≤ _; rw [List.length_drop]; have := ho.out; omega
                have HSK : Hid ((j' + 1) ≤ 1048576) := by show _ ≤ _; omega
                have q1 : (0 : Int) ≤ ((j' + 1 : Nat) : Int) := by omega
                have q2 : ((j' + 1 : Nat) : Int) ≤ ((k : Nat) : Int) := by omega
                go_wp2_with (at_builtin; refine wpList_append_recs rfl (.const (.slice none 0 0)) (.tmp 35) 31 rfl W.heap.size 41 j0 (.agg #[.string ⟨#[]⟩, .int .i64 0, .string ⟨#[]⟩]) 3 40 Tryz.underlying31 HI.out hz0 hz1 hz2 rfl (by decide) (.slice none 0 0) 0 [] rfl (World.ownsRow_nil _ _ _ _) _ (out.drop (j' + 1)) W0.heap.size rfl (RD.out _ rfl) rowC_len rowC_one (by unfold maxLen; have := hlo.out; simp; omega) (by have := hlo.out; simp; omega) (Nat.le_refl _) ?_; intro v6 W2 hown6 hg6 hq6)
                have HB6 : Hid (Below W.heap.size W W2) := Below.grown (Below.refl _ _) hg6 (Nat.le_refl _) (fun q hq => by cases hq)
                rw [Nat.zero_add, List.nil_append] at hown6
                have R6 : Hid (RowList W2.heap.size W2 v6 (out.drop (j' + 1))) := Recs.of_own rowC_len rfl hown6
                have HB2 : Hid (Below W0.heap.size W0 W2) := HB3.out.trans (HB6.out.mono HW0.out)
                have RT2 : Hid (RowList W0.heap.size W2 (.slice (some ⟨g2, 0, none⟩) (j' + 1) (j' + 1)) (out.take (j' + 1))) := (RT.out _ rfl).below (HB6.out.mono HW0.out)
                have hW2 := HB6.out.size
                have hbw2 : b < W2.heap.size := by have := HW0.out; omega
                have i0 : W2.cell? ⟨b, o + k * 3, none⟩ = some (.string s) := (HB6.out.cell (p := ⟨b, _, none⟩) (by have := HW0.out; show b < _; omega)).trans e0
                have i1 : W2.cell? ⟨b, o + k * 3 + 1, none⟩ = some (.int .i64 r.kind) := (HB6.out.cell (p := ⟨b, _, none⟩) (by have := HW0.out; show b < _; omega)).trans e1
                have i2 : W2.cell? ⟨b, o + k * 3 + 2, none⟩ = some (.string x) := (HB6.out.cell (p := ⟨b, _, none⟩) (by have := HW0.out; show b < _; omega)).trans e2
                clear e0 e1 e2 hg6 hq6 hown6
                go_region_held3 (fun w' => w'.cell? ⟨b, o + k * 3, none⟩ = some (.string s) ∧ w'.cell? ⟨b, o + k * 3 + 1, none⟩ = some (.int .i64 r.kind) ∧ w'.cell? ⟨b, o + k * 3 + 2, none⟩ = some (.string x) ∧ Below W2.heap.size W2 w')
                  (first | exact ⟨i0, i1, i2, (Below.refl _ _).drew⟩ | exact trio_on hbw2 (by assumption) hg8 (Nat.le_refl _) | exact trio_on hbw2 (by assumption) hg7 (Nat.le_of_lt hs7) | exact trio_new hbw2 i0 i1 i2 _ | go_keep)
                  (first
                    | (refine wp_append_full (.tmp 40) (.tmp 45) 31 rfl W2.heap.size 41 j0 (.agg #[.string ⟨#[]⟩, .int .i64 0, .string ⟨#[]⟩]) 3 40 Tryz.underlying31 HI.out hz0 hz1 hz2 rfl (by decide) rowC_len _ (j' + 1) rfl (out.take (j' + 1)) W0.heap.size (RT2.out.alloc (Nat.le_trans HW0.out hW2) _) ⟨W2.heap.size, 0, none⟩ 1 1 [r] rfl rfl (by decide) (one_row W2 s x r HPS.out HPX.out _) (flat_one r) (by have := HSK.out; unfold maxLen; omega) (by have := HSK.out; omega) (by show _ ≤ (W2.alloc _).heap.size; rw [World.size_alloc]; exact Nat.le_succ _) ?_; intro v7 w7 hown7 hg7 hv7; have hs7 : W2.heap.size < ((W2.alloc (.cells #[.string s, .int .i64 r.kind, .string x] 41)).drew).heap.size := (by show _ < (W2.alloc _).heap.size; rw [World.size_alloc]; exact Nat.lt_succ_self _); have hb7 : Below W2.heap.size W2 w7 := (((Below.refl W2.heap.size W2).alloc (Nat.le_refl _) _).drew).trans (hg7.mono (Nat.le_of_lt hs7)))
                    | (refine wp_append_recs (.tmp 46) (.tmp 47) 31 rfl W2.heap.size 41 j0 (.agg #[.string ⟨#[]⟩, .int .i64 0, .string ⟨#[]⟩]) 3 40 Tryz.underlying31 HI.out hz0 hz1 hz2 rfl (by decide) v7 ((j' + 1) + 1) _ rfl hown7 v6 (out.drop (j' + 1)) W2.heap.size rfl (R6.out.below hb7) rowC_len rowC_one (by have := HSK.out; have := HLD.out; unfold maxLen; omega) (by have := HSK.out; have := HLD.out; omega) hb7.size ?_; intro v8 w8 hown8 hg8' hq8; have hg8 : Below W2.heap.size w7 w8 := Below.grown (Below.refl _ _) hg8' hb7.size (fun q hq => (hown7.lt q hq).1)))
                have HB8 := Lib.hid (HB2.out.trans ((trio_below (by assumption)).mono HB2.out.size))
                rw [← List.flatMap_append, ← ins_at (out := out) (x := r) (s := j' + 1) HSE.out] at hown8
                have hlen8 : (ins out r).length = (j' + 1) + 1 + (out.drop (j' + 1)).length := by rw [ins_at (out := out) (x := r) (s := j' + 1) HSE.out, List.length_append, List.length_append, HLT.out]; rfl
                have hl8 : (ins out r).length = k + 1 := by rw [ins_len, ho.out]
                rw [← hlen8] at hown8
                have R8 : Hid (RowList w8.heap.size w8 v8 (ins out r)) := Recs.of_own rowC_len rfl hown8
                have O8 : Hid (Own0 v8 (k + 1)) := by rw [← hl8]; exact own0_of hown8
                have L8 := Lib.hid hl8
                clear hown7 hg7 hv7 hb7 hg8 hg8' hq8 hown8 hlen8 hl8 i0 i1 i2
                go_wp2_with fail
                go_roundw
                case rel =>
                  refine ⟨k + 1, ins out r, by omega, by go_num, HX, fun y hy => ?_, L8, O8, R8, hb.out.trans (HB8.out.mono hb.out.size)⟩
                  rcases mem_ins.1 hy with e | e
                  · rw [e]; exact HPK.out
                  · exact hpo.out y e
                case measure => simp [intOf]; omega
    · have HX := Lib.hid (hs.out.trans (sort_end (by rw [HM.out]; exact hlt)))
      go_wp2_with fail
      go_ret
      exact ⟨_, rfl, by rw [HX.out]; exact hr.out, hb.out⟩
end Go.Proofs.YtpihldcchjoinaaGreatDoor.W11
