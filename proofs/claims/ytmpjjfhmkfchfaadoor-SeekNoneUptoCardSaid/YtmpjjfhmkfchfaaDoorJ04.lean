/-
  Texts joined, in build order, each with its own comment and its own conditions: W07Put, W07Move, W07New, Range, W07Abs.
-/
import Derived.Test.YtmpjjfhmkfchfaaDoorJ03
import Derived.Test.YtmpjjfhmkfchfaaDoorJ02
import Derived.RangeFuncNested
import Derived.RangeFuncCalls
import Derived.Lib.Hide
import Derived.Deep.Draws
/-
  Layer 7 (tree), a walk: the plain answer's Put: a tree with a node more, in new memory, or what is wrong; nothing that was there is changed.
-/
namespace Go.Proofs.YtmpjjfhmkfchfaaDoor.W07
set_option maxRecDepth 100000
open Go Go.RowKit Go.Proofs.YtmpjjfhmkfchfaaDoor.Strs Go.Proofs.YtmpjjfhmkfchfaaDoor.Recs Go.Proofs.YtmpjjfhmkfchfaaDoor.M07
open Go.Proofs.YtmpjjfhmkfchfaaDoor.M03 (check)
open Go.Proofs.YtmpjjfhmkfchfaaDoor.W03 (refCheck_any)
open Go.Proofs.YtmpjjfhmkfchfaaDoor.Kit (ret_str ret_bool ret_int mk_of mk_bytes ba_ext below_draws on)

theorem results_cell_tmp2 {fn : Func} {p u t : Tmp} {ty : TypeId} (h : fn.results = #[.cell p ty, .tmp u, .tmp t]) (tmps : Array Value) (P : Program) (w : World) :
    (results fn tmps).run P w = ((asAddr (tmps.getD p undef)).run P w).andThen fun a w₁ => ((loadVar ty a).run P w₁).andThen fun v w₂ => .ok (.tuple #[v, tmps.getD u undef, tmps.getD t undef]) w₂ := by
  simp only [results, h]
  simp [Sem.run_bind, Result.andThen]
theorem wrap_next {n : Int} (h1 : 0 ≤ n + 1) (h2 : n + 1 < 9223372036854775808) : IntKind.i64.wrap (n + 1) = n + 1 := by
  unfold IntKind.wrap
  have e : ((n + 1) % (2 ^ IntKind.i64.bits : Int)) = n + 1 := by
    show (n + 1) % (2 ^ 64 : Int) = n + 1
    omega
  simp only [e]
  rw [if_neg]
  simp only [Bool.and_eq_true, decide_eq_true_eq, not_and]
  intro _
  show ¬ n + 1 ≥ (2 ^ 63 : Int)
  omega
theorem alloc_news {w : World} {b o : Nat} {xs : List Value} (hb : b < w.heap.size) (h : ∀ j u, xs[j]? = some u → w.cell? ((⟨b, o, none⟩ : Addr).add j) = some u) (ob : Obj) : ∀ j u, xs[j]? = some u → (w.drew.alloc ob).cell? ((⟨b, o, none⟩ : Addr).add j) = some u := fun j u hj => by
  rw [World.cell?_alloc_lt _ _ _ (by rw [block_add]; exact hb)]
  exact h j u hj
theorem below_own {w wr w1 : World} {base : Nat} {v : Value} {n size : Nat} {xs : List Value} {e : TypeId} (hb : Below base w wr) (hbase : base ≤ wr.heap.size) (hown : wr.ownsRow base e size v n xs) (hg : wr.grownBy w1 v.ownBlock) : Below base w w1 :=
  hb.grown hg hbase (fun k hk => (hown.lt k hk).1)
theorem own_nodes_text {w : World} {base : Nat} {v : Value} {out : List Nd} {a b k : Int} {s x : ByteArray} (h : w.ownsRow base 66 5 v (out.length + 1) (out.flatMap nodeC ++ [.int .i64 a, .int .i64 b, .string s, .int .i64 k, .string x])) : OwnNodes w base v (out ++ [⟨a, b, s.data.toList, k, x.data.toList⟩]) :=
  own_nodes_more (x := ⟨a, b, s.data.toList, k, x.data.toList⟩) (by simp only [mk_bytes]; exact h)
/-- what Put returns -/
def TreePut (v : Value) (w : World) (R : Tr × Int × Int) (e : Ending) (w' : World) : Prop := ∃ u, e = .returned (.tuple #[.agg #[u, .int .i64 R.1.last], .int .i64 R.2.1, .int .i64 R.2.2]) ∧ Nodes w'.heap.size w' u R.1.L ∧ Below w.heap.size w w' ∧ FromOr v w.heap.size u
theorem put_fails {t : Tr} {d kind : Int} {s x : Bytes} {er : Int} (h : putErr t d s kind x = er) (he : er ≠ 0) : put t d s kind x = (t, 0, er) := by
  unfold put; rw [h, if_pos he]
theorem put_works {t : Tr} {d kind : Int} {s x : Bytes} (h : putErr t d s kind x = 0) : put t d s kind x = (⟨t.L ++ [⟨t.last + 1, d, s, kind, x⟩], t.last + 1⟩, t.last + 1, 0) := by
  unfold put; rw [h]; rfl

set_option maxHeartbeats 4000000 in
set_option maxRecDepth 100000 in
theorem refPut_any (v : Value) (L : List Nd) (last d kind : Int) (s x : ByteArray) (hx : x.size ≤ maxLen) (w : World) (h : Nodes w.heap.size w v L) (hn : L.length ≤ 1073741824) (h0' : 0 < L.length) (hl1 : -1 ≤ last) (hl2 : last ≤ 4611686018427387904) :
    Calls Tryd.prog 22 #[.agg #[v, .int .i64 last], .int .i64 d, .string s, .int .i64 kind, .string x] w (TreePut v w (put ⟨L, last⟩ d s.data.toList kind x.data.toList)) := by
  obtain ⟨i0, hi, hz0, hz1, hz2⟩ := info_parts node_info
  have HBX := Lib.hid (boxed_new w v last)
  have HB0 := Lib.hid (below_two w (.cells #[v, .int .i64 last] 28) (.cells #[.slice none 0 0, .int .i64 0] 28))
  have HN0 := Lib.hid (h.below HB0.out)
  have HD := Lib.hid (fun (w' : World) (h : Nodes w.heap.size w' v L) (hB : w.heap.size ≤ w'.heap.size) => refDir_any v L last d w.heap.size w' h hB (by omega))
  have HI := Lib.hid (fun (w' : World) (h : Nodes w.heap.size w' v L) (hB : w.heap.size ≤ w'.heap.size) => refIn_any v L last d s w.heap.size w' h hB (by omega))
  have HK := Lib.hid (refCheck_any s)
  have HM := Lib.hid (refMay_any kind x hx)
  have HFL := Lib.hid (flat_len nodeC_len L)
  have HNEWS := Lib.hid (fun (w' : World) (h : Nodes w.heap.size w' v L) => h)
  obtain ⟨A, c, rfl, hA1, hA2⟩ := h.form
  clear h
  unfold maxLen at hA2
  have HE : Hid (putErr ⟨L, last⟩ d s.data.toList kind x.data.toList = if dirErr L d ≠ 0 then dirErr L d else if check s.data.toList ≠ 0 then check s.data.toList else if 0 < inDir L d s.data.toList then 6 else if mayErr kind x.data.toList ≠ 0 then mayErr kind x.data.toList else if 4096 ≤ L.length then 12 else 0) := rfl
  have HF := Lib.hid (fun er => put_fails (t := ⟨L, last⟩) (d := d) (kind := kind) (s := s.data.toList) (x := x.data.toList) (er := er))
  have HWK := Lib.hid (put_works (t := ⟨L, last⟩) (d := d) (kind := kind) (s := s.data.toList) (x := x.data.toList))
  generalize put ⟨L, last⟩ d s.data.toList kind x.data.toList = R at *
  generalize putErr ⟨L, last⟩ d s.data.toList kind x.data.toList = pe at *
  generalize dirErr L d = de at *
  generalize check s.data.toList = ck at *
  generalize inDir L d s.data.toList = nn at *
  generalize mayErr kind x.data.toList = me at *
  go_enter Tryd.func22, Tryd.ntmps22
  go_wp2_with fail
  refine (HD.out _ HN0.out HB0.out.size).mono ?_
  rintro e w1 ⟨rfl, hb1⟩
  have BX1 := Lib.hid (HBX.out.below hb1)
  have B1 := Lib.hid (on HB0.out hb1)
  have N1 := Lib.hid (HN0.out.below (hb1.mono HB0.out.size))
  clear hb1
  have x0 := BX1.out.t0
  have x1 := BX1.out.t1
  by_cases ke : de = 0
  · have te : (de == 0) = true := by simpa using ke
    have HE2 := Lib.hid (HE.out.trans (if_neg (by simpa using ke)))
    clear ke HE
    by_cases kc : ck = 0
    · have tc : (ck == 0) = true := by simpa using kc
      have HE3 := Lib.hid (HE2.out.trans (if_neg (by simpa using kc)))
      clear kc HE2
      go_wp2_with fail
      refine (HK.out _).mono ?_
      rintro e w1' ⟨rfl, rfl⟩
      go_wp2_with fail
      refine (HI.out _ N1.out B1.out.size).mono ?_
      rintro e w2 ⟨rfl, hb2⟩
      have BX2 := Lib.hid (BX1.out.below hb2)
      have B2 := Lib.hid (on B1.out hb2)
      have N2 := Lib.hid (N1.out.below (hb2.mono B1.out.size))
      clear hb2 x0 x1 BX1 B1 N1
      have x0 := BX2.out.t0
      have x1 := BX2.out.t1
      have y0 := BX2.out.r0
      have y1 := BX2.out.r1
      have g0 := BX2.out.f0
      have g1 := BX2.out.f1
      by_cases kn : 0 < nn
      · have HX : Hid (R = (⟨L, last⟩, 0, 6)) := HF.out 6 (HE3.out.trans (if_pos kn)) (by decide)
        clear HE3
        go_wp2_with fail
        refine bodyPost_ret_by (v := .tuple #[.agg #[.slice A L.length c, .int .i64 last], .int .i64 0, .int .i64 6]) ?_ rfl ?_
        · rw [results_cell_tmp2 rfl]
          go_simp
        · rw [HX.out]
          exact ⟨_, rfl, stored_nodes N2.out (by omega) BX2.out.2.2, stored_below B2.out (by omega), Or.inl rfl⟩
      · have HE4 := Lib.hid (HE3.out.trans (if_neg kn))
        clear HE3
        by_cases km : me = 0
        · have tm : (me == 0) = true := by simpa using km
          have HE5 := Lib.hid (HE4.out.trans (if_neg (by simpa using km)))
          clear km HE4
          by_cases kz : (4096 : Int) ≤ (L.length : Int)
          · have HX : Hid (R = (⟨L, last⟩, 0, 12)) := HF.out 12 (HE5.out.trans (if_pos (by omega))) (by decide)
            clear HE5
            go_wp2_with fail
            refine (HM.out _).mono ?_
            rintro e w3 ⟨rfl, rfl⟩
            go_wp2_with fail
            refine bodyPost_ret_by (v := .tuple #[.agg #[.slice A L.length c, .int .i64 last], .int .i64 0, .int .i64 12]) ?_ rfl ?_
            · rw [results_cell_tmp2 rfl]
              go_simp
            · rw [HX.out]
              exact ⟨_, rfl, stored_nodes N2.out (by omega) BX2.out.2.2, stored_below B2.out (by omega), Or.inl rfl⟩
          · have HX : Hid (R = (⟨L ++ [⟨last + 1, d, s.data.toList, kind, x.data.toList⟩], last + 1⟩, last + 1, 0)) := HWK.out (HE5.out.trans (if_neg (by omega)))
            clear HE5
            go_wp2_with fail
            refine (HM.out _).mono ?_
            rintro e w3 ⟨rfl, rfl⟩
            go_wp2_with fail
            have h0 : 0 < L.length := h0'
            obtain ⟨b, o, rfl, hbB, hnews⟩ := Recs.news N2.out nodeC_len (by omega) h0
            have HNW := Lib.hid hnews
            have hsz2 := BX2.out.2.2
            have hbw3 : b < w3.heap.size := by omega
            have hwr : IntKind.i64.wrap (last + 1) = last + 1 := wrap_next (by omega) (by omega)
            have hbs2 := B2.out.size
            clear hnews
            go_region_held3 (fun w' => w'.cell? ⟨w.heap.size, 0, none⟩ = some (.slice (some ⟨b, o, none⟩) L.length c) ∧ w'.cell? ⟨w.heap.size, 1, none⟩ = some (.int .i64 last))
              (first | exact ⟨(B5.cell (show w.heap.size < w3.heap.size by omega)).trans x0, (B5.cell (show w.heap.size < w3.heap.size by omega)).trans x1⟩ | exact ⟨x0, x1⟩ | exact ⟨(B4.cell (show w.heap.size < w3.heap.size by omega)).trans x0, (B4.cell (show w.heap.size < w3.heap.size by omega)).trans x1⟩ | go_keep)
              (first
                | (refine wp_append_own _ (.const (.slice none 0 0)) (.tmp 49) 26 rfl w3.heap.size 66 i0 (.agg #[.int .i64 0, .int .i64 0, .string ⟨#[]⟩, .int .i64 0, .string ⟨#[]⟩]) 5 56 Tryd.underlying26 hi hz0 hz1 hz2 rfl (by decide) (.slice none 0 0) 0 [] rfl (World.ownsRow_nil _ _ _ _) ⟨b, o, none⟩ L.length c (L.flatMap nodeC) rfl HFL.out HNW.out nodes_one (by unfold maxLen; omega) (by omega) (by first | exact Nat.le_refl _ | omega) ?_; intro v4 w4 hown4 hgrow4 _; have B4 : Below w3.heap.size w3 w4 := on (below_draws w3 1) ((Below.refl w3.heap.size (w3.drewN 1)).grown hgrow4 (Nat.le_refl _) (fun k hk => by cases hk)))
                | (refine wp_append_own _ (.const (.slice none 0 0)) (.tmp 49) 26 rfl w3.heap.size 66 i0 (.agg #[.int .i64 0, .int .i64 0, .string ⟨#[]⟩, .int .i64 0, .string ⟨#[]⟩]) 5 56 Tryd.underlying26 hi hz0 hz1 hz2 rfl (by decide) (.slice none 0 0) 0 [] rfl (World.ownsRow_nil _ _ _ _) ⟨b, o, none⟩ L.length c (L.flatMap nodeC) rfl HFL.out (alloc_news hbw3 HNW.out _) nodes_one (by unfold maxLen; omega) (by omega) (Nat.le_trans (Nat.le_succ _) (Nat.le_of_eq (World.alloc_size w3 _).symm)) ?_; intro v4 w4 hown4 hgrow4 _; have B4c := Lib.hid ((Below.refl (w3.heap.size + 1) _).grown hgrow4 (Nat.le_of_eq (World.alloc_size w3 _).symm) (fun k hk => by cases hk)); have B4 : Below w3.heap.size w3 w4 := on (below_draws w3 1) (((Below.refl w3.heap.size (w3.drewN 1)).alloc (Nat.le_refl _) _).trans (B4c.out.mono (Nat.le_succ _))))
                | (refine wp_append_own _ (.tmp 50) (.tmp 59) 26 rfl w3.heap.size 66 i0 (.agg #[.int .i64 0, .int .i64 0, .string ⟨#[]⟩, .int .i64 0, .string ⟨#[]⟩]) 5 56 Tryd.underlying26 hi hz0 hz1 hz2 rfl (by decide) _ _ _ rfl (World.ownsRow.alloc hown4 _) ⟨_, 0, none⟩ 1 1 [.int .i64 (last + 1), .int .i64 d, .string s, .int .i64 kind, .string x] rfl rfl (cells_new _ [_, _, _, _, _] _) (by intro u hu; simp at hu; rcases hu with rfl | rfl | rfl | rfl | rfl <;> rfl) (by unfold maxLen; omega) (by omega) (Nat.le_trans B4.size (by rw [World.alloc_size]; exact Nat.le_succ _)) ?_; intro v5 w5 hown5 hgrow5 _; have B5 : Below w3.heap.size w3 w5 := W06.below_more2 B4 B4.size hown4 hgrow5)
                | (refine wp_append_own _ (.tmp 50) (.tmp 59) 26 rfl w3.heap.size 66 i0 (.agg #[.int .i64 0, .int .i64 0, .string ⟨#[]⟩, .int .i64 0, .string ⟨#[]⟩]) 5 56 Tryd.underlying26 hi hz0 hz1 hz2 rfl (by decide) _ _ _ rfl hown4 ⟨w3.heap.size, 0, none⟩ 1 1 [.int .i64 (last + 1), .int .i64 d, .string s, .int .i64 kind, .string x] rfl rfl (fun j u hj => (B4c.out.cell (by rw [block_add]; exact Nat.lt_succ_self _)).trans (cells_new (w3.drewN 1) [_, _, _, _, _] _ j u hj)) (by intro u hu; simp at hu; rcases hu with rfl | rfl | rfl | rfl | rfl <;> rfl) (by unfold maxLen; omega) (by omega) B4.size ?_; intro v5 w5 hown5 hgrow5 _; have B5 : Below w3.heap.size w3 w5 := below_own B4 B4.size hown4 hgrow5))
            all_goals (
              rw [Nat.zero_add, List.nil_append] at hown5
              have O5 := Lib.hid (own_nodes_text hown5)
              clear hown5 hown4 hgrow4 hgrow5
              have HBB := Lib.hid (B2.out.trans (B5.mono hbs2))
              have q1 : w5.cell? ⟨w.heap.size, 1, none⟩ = some (.int .i64 last) := (B5.cell (show w.heap.size < w3.heap.size by omega)).trans x1
              have q2 : w5.cell? ⟨w.heap.size + 1, 0, none⟩ = some (.slice none 0 0) := (B5.cell (show w.heap.size + 1 < w3.heap.size by omega)).trans y0
              have q3 : w5.cell? ⟨w.heap.size + 1, 1, none⟩ = some (.int .i64 0) := (B5.cell (show w.heap.size + 1 < w3.heap.size by omega)).trans y1
              have q4 : w5.frozen? ⟨w.heap.size + 1, 0, none⟩ = false := (B5.frozen (show w.heap.size + 1 < w3.heap.size by omega)).trans g0
              have q5 : w5.frozen? ⟨w.heap.size + 1, 1, none⟩ = false := (B5.frozen (show w.heap.size + 1 < w3.heap.size by omega)).trans g1
              clear x0 x1 y0 y1 g0 g1 B4 B5
              generalize hLL : L ++ [⟨last + 1, d, s.data.toList, kind, x.data.toList⟩] = LL at O5 HX
              obtain ⟨g5, c5, rfl, hg5, hg6, hcn, hcm⟩ := own_form O5.out (by rw [← hLL]; simp)
              go_wp2_with fail
              go_region
              all_goals (
                go_wp2_with fail
                refine bodyPost_ret_by (v := .tuple #[.agg #[.slice (some ⟨g5, 0, none⟩) LL.length c5, .int .i64 (last + 1)], .int .i64 (last + 1), .int .i64 0]) ?_ rfl ?_
                · rw [results_cell_tmp2 rfl]
                  go_simp
                · rw [HX.out]
                  exact ⟨_, rfl, stored_own (w := w5.drewN 1) O5.out (by omega), stored_below (w' := w5.drewN 1) (on HBB.out (below_draws w5 1)) (by omega), Or.inr (Or.inr ⟨_, _, _, rfl, by omega⟩)⟩))
        · have tm : (me == 0) = false := by simpa using km
          have HX : Hid (R = (⟨L, last⟩, 0, me)) := HF.out me (HE4.out.trans (if_pos km)) km
          clear km HE4
          go_wp2_with fail
          refine (HM.out _).mono ?_
          rintro e w3 ⟨rfl, rfl⟩
          go_wp2_with fail
          refine bodyPost_ret_by (v := .tuple #[.agg #[.slice A L.length c, .int .i64 last], .int .i64 0, .int .i64 me]) ?_ rfl ?_
          · rw [results_cell_tmp2 rfl]
            go_simp
          · rw [HX.out]
            exact ⟨_, rfl, stored_nodes N2.out (by omega) BX2.out.2.2, stored_below B2.out (by omega), Or.inl rfl⟩
    · have tc : (ck == 0) = false := by simpa using kc
      have HX : Hid (R = (⟨L, last⟩, 0, ck)) := HF.out ck (HE2.out.trans (if_pos kc)) kc
      have y0 := BX1.out.r0
      have y1 := BX1.out.r1
      have g0 := BX1.out.f0
      have g1 := BX1.out.f1
      clear kc HE2
      go_wp2_with fail
      refine (HK.out _).mono ?_
      rintro e w1' ⟨rfl, rfl⟩
      go_wp2_with fail
      refine bodyPost_ret_by (v := .tuple #[.agg #[.slice A L.length c, .int .i64 last], .int .i64 0, .int .i64 ck]) ?_ rfl ?_
      · rw [results_cell_tmp2 rfl]
        go_simp
      · rw [HX.out]
        exact ⟨_, rfl, stored_nodes N1.out (by omega) BX1.out.2.2, stored_below B1.out (by omega), Or.inl rfl⟩
  · have te : (de == 0) = false := by simpa using ke
    have HX : Hid (R = (⟨L, last⟩, 0, de)) := HF.out de (HE.out.trans (if_pos ke)) ke
    have y0 := BX1.out.r0
    have y1 := BX1.out.r1
    have g0 := BX1.out.f0
    have g1 := BX1.out.f1
    clear ke HE
    go_wp2_with fail
    refine bodyPost_ret_by (v := .tuple #[.agg #[.slice A L.length c, .int .i64 last], .int .i64 0, .int .i64 de]) ?_ rfl ?_
    · rw [results_cell_tmp2 rfl]
      go_simp
    · rw [HX.out]
      exact ⟨_, rfl, stored_nodes N1.out (by omega) BX1.out.2.2, stored_below B1.out (by omega), Or.inl rfl⟩
end Go.Proofs.YtmpjjfhmkfchfaaDoor.W07
/-
  Layer 7 (tree), walks: the plain answers New and Move: what each returns, Move at every right tree; new memory may be laid, nothing that was there is changed.
-/
namespace Go.Proofs.YtmpjjfhmkfchfaaDoor.W07
open Go Go.RowKit Go.Proofs.YtmpjjfhmkfchfaaDoor.Strs Go.Proofs.YtmpjjfhmkfchfaaDoor.Recs Go.Proofs.YtmpjjfhmkfchfaaDoor.M07
open Go.Proofs.YtmpjjfhmkfchfaaDoor.M06 (Ent)
open Go.Proofs.YtmpjjfhmkfchfaaDoor.M03 (check)
open Go.Proofs.YtmpjjfhmkfchfaaDoor.W03 (refCheck_any)
open Go.Proofs.YtmpjjfhmkfchfaaDoor.Kit (ret_str ret_bool ret_int mk_of mk_bytes ba_ext below_draws on)

theorem set_heap {w : World} {p : Nat} {cur : Array Value} {t : TypeId} {fz : Nat × Nat} (h : w.heap[p]? = some (.cells cur t fz)) (j : Nat) (u : Value) : (w.setCell ⟨p, j, none⟩ u).heap[p]? = some (.cells (cur.setIfInBounds j u) t fz) := by
  obtain ⟨hlt, hk⟩ := Array.getElem?_eq_some_iff.1 h
  show (w.heap.modify p _)[p]? = _
  rw [Array.getElem?_eq_getElem (by rw [Array.size_modify]; exact hlt), Array.getElem_modify_self, hk]
  rfl
theorem set_size (w : World) (q : Addr) (u : Value) : (w.setCell q u).heap.size = w.heap.size := by show (w.heap.modify _ _).size = _; rw [Array.size_modify]
/-- a box of a node -/
def NodeBox (w : World) (p : Nat) (x : Nd) : Prop := w.heap[p]? = some (.cells #[.int .i64 x.num, .int .i64 x.up, .string ⟨x.name.toArray⟩, .int .i64 x.kind, .string ⟨x.data.toArray⟩] 66 (0, 0))
section
variable {w w' : World} {p : Nat} {x : Nd}
theorem NodeBox.lt (h : NodeBox w p x) : p < w.heap.size := (Array.getElem?_eq_some_iff.1 h).1
theorem NodeBox.below (h : NodeBox w p x) (hb : Below w.heap.size w w') : NodeBox w' p x := (hb.block _ h.lt).trans h
theorem NodeBox.alloc (h : NodeBox w p x) (o : Obj) : NodeBox (w.alloc o) p x := h.below ((Below.refl w.heap.size w).alloc (Nat.le_refl _) o)
theorem NodeBox.new (w : World) (x : Nd) : NodeBox (w.alloc (.cells #[.int .i64 x.num, .int .i64 x.up, .string ⟨x.name.toArray⟩, .int .i64 x.kind, .string ⟨x.data.toArray⟩] 66)) w.heap.size x := heap_top _ _
theorem NodeBox.c0 (h : NodeBox w p x) : w.cell? ⟨p, 0, none⟩ = some (.int .i64 x.num) := cell_of_row w _ 0 _ _ (0, 0) h
theorem NodeBox.c1 (h : NodeBox w p x) : w.cell? ⟨p, 1, none⟩ = some (.int .i64 x.up) := cell_of_row w _ 1 _ _ (0, 0) h
theorem NodeBox.c2 (h : NodeBox w p x) : w.cell? ⟨p, 2, none⟩ = some (.string ⟨x.name.toArray⟩) := cell_of_row w _ 2 _ _ (0, 0) h
theorem NodeBox.c3 (h : NodeBox w p x) : w.cell? ⟨p, 3, none⟩ = some (.int .i64 x.kind) := cell_of_row w _ 3 _ _ (0, 0) h
theorem NodeBox.c4 (h : NodeBox w p x) : w.cell? ⟨p, 4, none⟩ = some (.string ⟨x.data.toArray⟩) := cell_of_row w _ 4 _ _ (0, 0) h
theorem NodeBox.fr (h : NodeBox w p x) (j : Nat) : w.frozen? ⟨p, j, none⟩ = false := frozen_of_row w _ j _ _ h
theorem NodeBox.moved (h : NodeBox w p x) (d : Int) (a : ByteArray) : NodeBox ((w.setCell ⟨p, 1, none⟩ (.int .i64 d)).setCell ⟨p, 2, none⟩ (.string a)) p { x with up := d, name := a.data.toList } := by
  have h2 := set_heap (set_heap h 1 (.int .i64 d)) 2 (.string a)
  have e : (⟨a.data.toList.toArray⟩ : ByteArray) = a := mk_bytes a
  unfold NodeBox
  rw [h2]
  show some (Obj.cells #[.int .i64 x.num, .int .i64 d, .string a, .int .i64 x.kind, .string ⟨x.data.toArray⟩] _ _) = some (Obj.cells #[.int .i64 x.num, .int .i64 d, .string ⟨a.data.toList.toArray⟩, .int .i64 x.kind, .string ⟨x.data.toArray⟩] _ _)
  rw [e]
end
theorem Boxed.cellAt {w : World} {k p j : Nat} {v u : Value} {last : Int} (h : Boxed w k v last) (h1 : k ≠ p) (h2 : k + 1 ≠ p) : Boxed (w.setCell ⟨p, j, none⟩ u) k v last :=
  ⟨(Below.heap_setCell _ _ _ _ (by exact h1)).trans h.1, (Below.heap_setCell _ _ _ _ (by exact h2)).trans h.2.1, by rw [set_size]; exact h.2.2⟩
theorem NodeBox.cellAt {w : World} {p q j : Nat} {x : Nd} {u : Value} (h : NodeBox w p x) (h1 : p ≠ q) : NodeBox (w.setCell ⟨q, j, none⟩ u) p x := (Below.heap_setCell _ _ _ _ (by exact h1)).trans h
theorem Boxed.stored {w : World} {k : Nat} {v : Value} {last : Int} (h : Boxed w k v last) (u : Value) (l : Int) : Boxed ((w.setCell ⟨k, 0, none⟩ u).setCell ⟨k, 1, none⟩ (.int .i64 l)) k u l := by
  refine ⟨set_heap (set_heap h.1 0 u) 1 (.int .i64 l), ?_, by rw [set_size, set_size]; exact h.2.2⟩
  exact (Below.heap_setCell _ _ _ _ (by show k + 1 ≠ k; omega)).trans ((Below.heap_setCell _ _ _ _ (by show k + 1 ≠ k; omega)).trans h.2.1)
theorem cut_len (t : Tr) (d : Int) (s : Bytes) : (cut t d s).1.L.length ≤ t.L.length := by
  unfold cut
  split
  · exact Nat.le_refl _
  · split
    · exact Nat.le_refl _
    · split
      · exact Nat.le_refl _
      · exact List.length_filter_le _ _
theorem cut_last (t : Tr) (d : Int) (s : Bytes) : (cut t d s).1.last = t.last := by
  unfold cut
  split
  · rfl
  · split
    · rfl
    · split <;> rfl
theorem right_full {t : Tr} (h : Right t) : 0 < t.L.length := by
  obtain ⟨r, hr⟩ := h.root
  rw [hr]; simp

end Go.Proofs.YtmpjjfhmkfchfaaDoor.W07
/-
  Layer 7 (tree), a walk: the plain answer's New: a tree with Root alone, in new memory; nothing that was there is changed.
-/
namespace Go.Proofs.YtmpjjfhmkfchfaaDoor.W07
set_option maxRecDepth 100000
open Go Go.RowKit Go.Proofs.YtmpjjfhmkfchfaaDoor.Strs Go.Proofs.YtmpjjfhmkfchfaaDoor.Recs Go.Proofs.YtmpjjfhmkfchfaaDoor.M07
open Go.Proofs.YtmpjjfhmkfchfaaDoor.Kit (ret_str ret_bool ret_int mk_of mk_bytes ba_ext below_draws on)

/-- what a call returns that hands out a tree -/
def TreeNew (w : World) (t : Tr) (e : Ending) (w' : World) : Prop := ∃ u, e = .returned (.agg #[u, .int .i64 t.last]) ∧ Nodes w'.heap.size w' u t.L ∧ Below w.heap.size w w' ∧ ∃ g n c, u = .slice (some ⟨g, 0, none⟩) n c ∧ w.heap.size ≤ g
set_option maxHeartbeats 1000000 in
theorem refNew_any (w : World) : Calls Tryd.prog 20 #[] w (TreeNew w new) := by
  have HN : Hid (∀ W : World, Nodes (W.alloc (.cells #[.int .i64 1, .int .i64 1, .string ⟨#[]⟩, .int .i64 1, .string ⟨#[]⟩] 66)).heap.size (W.alloc (.cells #[.int .i64 1, .int .i64 1, .string ⟨#[]⟩, .int .i64 1, .string ⟨#[]⟩] 66)) (.slice (some ⟨W.heap.size, 0, none⟩) 1 1) new.L) := by
    show ∀ W : World, _
    intro W
    refine Recs.of_own nodeC_len rfl (base := W.heap.size) (e := 66) (n := 1) ⟨rfl, Or.inr ⟨W.heap.size, 1, #[.int .i64 1, .int .i64 1, .string ⟨#[]⟩, .int .i64 1, .string ⟨#[]⟩], rfl, Nat.le_refl _, heap_top _ _, Nat.le_refl _, by decide, rfl, rfl⟩⟩
  go_enter Tryd.func20, Tryd.ntmps20
  go_wp2_with fail
  refine bodyPost_ret_by (v := .agg #[.slice (some ⟨w.heap.size + 1, 0, none⟩) 1 1, .int .i64 1]) ?_ rfl ⟨_, rfl, ?_, below_two w _ _, _, _, _, rfl, by omega⟩
  · rw [results_cell_one rfl]
    go_simp
  · have h := HN.out (w.alloc (.cells #[.slice (some ⟨w.heap.size + 1, 0, none⟩) 1 1, .int .i64 1] 28))
    simp only [World.alloc_size] at h ⊢
    exact h
end Go.Proofs.YtmpjjfhmkfchfaaDoor.W07
/-
  A range over a function, at the wide fence: what an iterator promises its caller ('Seq': it hands out the texts of a list, in their order, and turns no blocks but its own), and what a caller owes at such a statement ('wp_range'). The border between the two is drawn by numbers of blocks: the iterator's own ones lie in a set that both know. For every program; no condition but those that each theorem bears.
-/
namespace Go.Proofs.YtmpjjfhmkfchfaaDoor.Range
open Go Go.RowKit

/-- from A to B no block that A had has turned but those of T -/
structure Turns (T : Nat → Prop) (A B : World) : Prop where
  os : B.os = A.os
  tape : B.tape = A.tape
  output : B.output = A.output
  size : A.heap.size ≤ B.heap.size
  block : ∀ k, k < A.heap.size → ¬ T k → B.heap[k]? = A.heap[k]?
section
variable {T T' : Nat → Prop} {A B C : World}
theorem Turns.refl (T : Nat → Prop) (A : World) : Turns T A A := ⟨rfl, rfl, rfl, Nat.le_refl _, fun _ _ _ => rfl⟩
theorem Turns.trans (h : Turns T A B) (k : Turns T B C) : Turns T A C :=
  ⟨k.os.trans h.os, k.tape.trans h.tape, k.output.trans h.output, Nat.le_trans h.size k.size, fun i hi ht => (k.block i (Nat.lt_of_lt_of_le hi h.size) ht).trans (h.block i hi ht)⟩
theorem Turns.wider (h : Turns T A B) (hs : ∀ k, T k → T' k) : Turns T' A B := ⟨h.os, h.tape, h.output, h.size, fun i hi ht => h.block i hi (fun e => ht (hs i e))⟩
theorem Turns.of_grown {row : Option Nat} (h : A.grownBy B row) (hr : ∀ r, row = some r → T r) : Turns T A B :=
  ⟨h.os, h.tape, h.output, h.size, fun i hi ht => h.block i hi (fun e => ht (hr i e.symm))⟩
theorem Turns.of_below {n : Nat} (h : Below n A B) (hs : ∀ k, n ≤ k → k < A.heap.size → T k) : Turns T A B :=
  ⟨h.os, h.tape, h.output, h.size, fun i hi ht => h.block i (by
    rcases Nat.lt_or_ge i n with hlt | hge
    · exact hlt
    · exact absurd (hs i hge hi) ht)⟩
theorem Turns.new (h : Below A.heap.size A B) : Turns T A B := Turns.of_below h (fun k h1 h2 => absurd h1 (by omega))
theorem Turns.alloc (T : Nat → Prop) (A : World) (o : Obj) : Turns T A (A.alloc o) := Turns.of_grown (World.grownBy_alloc A o none) (fun r e => by cases e)
theorem Turns.putObj {r : Nat} (o : Obj) (h : T r) : Turns T A (A.putObj r o) := Turns.of_grown (grownBy_putObj' A r o) (fun k e => by cases e; exact h)
theorem grown_set (A : World) (a : Addr) (v : Value) : A.grownBy (A.setCell a v) (some a.block) :=
  ⟨rfl, rfl, rfl, (KeepsWalks.setCell A a v).size, fun k _ hk => Below.heap_setCell _ _ _ k (fun e => hk (by rw [e]))⟩
theorem Turns.setCell {a : Addr} (v : Value) (h : T a.block) : Turns T A (A.setCell a v) := Turns.of_grown (grown_set A a v) (fun k e => by cases e; exact h)
theorem Turns.draw (T : Nat → Prop) (A : World) (n : Nat) : Turns T A (A.drewN n) := ⟨rfl, rfl, rfl, Nat.le_refl _, fun _ _ _ => rfl⟩
theorem Turns.below {n : Nat} (h : Turns T A B) (hs : ∀ k, T k → n ≤ k) (hn : n ≤ A.heap.size) : Below n A B :=
  ⟨h.os, h.tape, h.output, h.size, fun i hi => h.block i (by omega) (fun e => by have := hs i e; omega)⟩
theorem Turns.keeps {k : Nat} {o : Obj} (h : Turns T A B) (hk : A.heap[k]? = some o) (ht : ¬ T k) : B.heap[k]? = some o :=
  (h.block k (Array.getElem?_eq_some_iff.1 hk).1 ht).trans hk
theorem Turns.cell {a : Addr} {v : Value} (h : Turns T A B) (hc : A.cell? a = some v) (ht : ¬ T a.block) : B.cell? a = some v :=
  (World.cell?_of_block (h.block _ (World.block_lt_of_cell? A a hc) ht)).trans hc
theorem Turns.frozen {a : Addr} {v : Value} (h : Turns T A B) (hc : A.cell? a = some v) (ht : ¬ T a.block) : B.frozen? a = A.frozen? a :=
  World.frozen?_of_block (h.block _ (World.block_lt_of_cell? A a hc) ht)
theorem Turns.row {base : Nat} {e : TypeId} {size n : Nat} {v : Value} {xs : List Value} (h : Turns T A B) (hr : A.ownsRow base e size v n xs) (ht : ∀ k, base ≤ k → ¬ T k) : B.ownsRow base e size v n xs := by
  refine ⟨hr.1, ?_⟩
  rcases hr.2 with h0 | ⟨g, cap, cur, e1, hb, hh, rest⟩
  · exact Or.inl h0
  · exact Or.inr ⟨g, cap, cur, e1, hb, h.keeps hh (ht g hb), rest⟩
theorem Turns.row_at {base g n cap : Nat} {e : TypeId} {size m : Nat} {xs : List Value} (h : Turns T A B) (hr : A.ownsRow base e size (.slice (some ⟨g, 0, none⟩) n cap) m xs) (ht : ¬ T g) : B.ownsRow base e size (.slice (some ⟨g, 0, none⟩) n cap) m xs := by
  refine ⟨hr.1, ?_⟩
  rcases hr.2 with ⟨h0, _⟩ | ⟨g', cap', cur, e1, hb, hh, rest⟩
  · cases h0
  · cases e1
    exact Or.inr ⟨g, cap, cur, rfl, hb, h.keeps hh ht, rest⟩
end
/-- the blocks of an iterator: those of O, and the m that it lays at its start -/
def Its (O : Nat → Prop) (n m : Nat) (k : Nat) : Prop := O k ∨ (n ≤ k ∧ k < n + m)

/-- a call of yield: it asks for a round, and what the round comes to -/
def Yields (P : Program) (l : Nat) (v : Value) (W : World) (R : Ending → World → Prop) : Prop :=
  ∃ fn tmps assign body, (Instr.yield l #[v]).run P W = .ok (.round l fn tmps assign body) W ∧ RoundIn Fence.wide 9 P l fn tmps assign body W R
theorem round_wide {P : Program} {l f : Nat} {tmps : Array Value} {assign body : Code} {w : World} {R : Ending → World → Prop} {n : Nat} (m : Nat) (h : RoundIn Fence.wide n P l f tmps assign body w R) : RoundIn Fence.wide m P l f tmps assign body w R :=
  ⟨trivial, fun c cs _ => h.2 c cs (room_wide _)⟩
theorem round_in {P : Program} {l f : Nat} {tmps : Array Value} {assign body : Code} {w : World} {R : Ending → World → Prop} {n : Nat} (l' m : Nat) (h : RoundIn Fence.wide n P l f tmps assign body w R) : RoundIn (Fence.wide.inRound l') m P l f tmps assign body w R :=
  ⟨trivial, fun c cs _ => h.2 c cs (room_wide _)⟩

/-- WHAT AN ITERATOR PROMISES: called with yield, it hands out the elements of xs in their order, till all have come or a round has said 'no more'; it turns none but its own blocks, and a round turns none of these. -/
def Seq {α : Type} (P : Program) (g : Nat) (lb : Array Value) (enc : α → Value) (O : Nat → Prop) (m : Nat) (xs : List α) (w0 : World) : Prop :=
  ∀ (l : Nat) (J Jx : List α → World → Prop) (W : World), Below w0.heap.size w0 W →
    (∀ s A B, J s A → Turns (Its O W.heap.size m) A B → J s B) → (∀ s A B, Jx s A → Turns (Its O W.heap.size m) A B → Jx s B) →
    (∀ pre x W1, J pre W1 → W.heap.size + m ≤ W1.heap.size → pre ++ [x] <+: xs → Yields P l (enc x) W1 fun e W' =>
      (e = .returned (.bool true) ∧ J (pre ++ [x]) W' ∧ Turns (fun k => ¬ Its O W.heap.size m k) W1 W') ∨ (e = .returned (.bool false) ∧ Jx (pre ++ [x]) W' ∧ Turns (fun k => ¬ Its O W.heap.size m k) W1 W')) →
    J [] W →
    Calls P g (#[.func (.yield l) #[] #[]] ++ lb) W fun e W' => (∃ v, e = .returned v) ∧ (J xs W' ∨ ∃ pre, pre <+: xs ∧ Jx pre W')

/-- how a round may be left -/
def roundEnd {α : Type} (T : Nat → Prop) (I : List α → World → Prop) (Ix : Code → List α → World → Prop) (xs : List α) (W : World) : Exit → Act → World → Prop
  | .normal, _, W' => Turns (fun k => ¬ T k) W W' ∧ I xs W'
  | .ret, _, W' => Turns (fun k => ¬ T k) W W' ∧ Ix .ret xs W'
  | .exit id, _, W' => Turns (fun k => ¬ T k) W W' ∧ Ix (.exit id) xs W'
  | .goto t, _, W' => Turns (fun k => ¬ T k) W W' ∧ Ix (.goto t) xs W'
  | .panic _, _, _ => False
  | .outgrown, _, _ => False

/-- WHAT A CALLER OWES AT 'for x := range g': an invariant that does not mind what the iterator and the statement turn, and one walk of the body. -/
theorem wp_range {α : Type} {P : Program} {n : Nat} {g : Operand} {ps : Array Tmp} {assign body : Code} {Q : Exit → Act → World → Prop} {a : Act} {w : World}
    {gf : Nat} {lb : Array Value} (hg : a.eval g = .func (.func gf) #[] lb) (eg : ∀ args w, (callFunc gf args).run P w = .ok (.enter gf args) w)
    {enc : α → Value} {O : Nat → Prop} {m : Nat} {xs : List α} (hseq : Seq P gf lb enc O m xs w) (hO : ∀ k, O k → k < w.heap.size) (hps : ps.size = 1)
    (T : Nat → Prop) (hT : ∀ k, T k ↔ Its O w.heap.size (m + 2) k)
    (I : List α → World → Prop) (Ix : Code → List α → World → Prop) (hI : ∀ s A B, I s A → Turns T A B → I s B) (hIx : ∀ c s A B, Ix c s A → Turns T A B → Ix c s B) (h0 : I [] w) (a₁ : α → Act)
    (hassign : ∀ (l : Nat) (x : α) (W : World) (K : Act → World → Prop), K (a₁ x) W →
      assign.wpIn (Fence.wide.inRound l) 9 P (Exit.then K (fun _ _ _ => False)) { tmps := (ps.zip #[enc x]).foldl (fun t (p, v) => t.setIfInBounds p v) a.tmps, defers := [] } W)
    (hbody : ∀ (l : Nat) (pre : List α) (x : α) (W : World), I pre W → w.heap.size + m + 2 ≤ W.heap.size → pre ++ [x] <+: xs → body.wpIn (Fence.wide.inRound l) 9 P (roundEnd T I Ix (pre ++ [x]) W) (a₁ x) W)
    (hdone : ∀ (W : World), I xs W → W.heap[w.heap.size]? = some (.deferred (some [])) → Q .normal { a with defers := { target := .collected w.heap.size, args := #[] } :: a.defers } W)
    (hstop : ∀ (c : Code) (pre : List α) (W : World), pre <+: xs → Ix c pre W → W.heap[w.heap.size]? = some (.deferred (some [])) → c.wpIn Fence.wide n P Q { a with defers := { target := .collected w.heap.size, args := #[] } :: a.defers } W) :
    (Code.rangeFunc g ps assign body).wpIn Fence.wide n P Q a w := by
  refine wpIn_rangeFunc ?_
  intro fn hfn
  show ∃ (l : Nat) (mark : List Deferred) (w₁ : World) (d : Deferred) (w₁' : World) (f : FuncId) (args : Array Value) (w₂ : World),
      (Instr.enterLoop fn a.tmps ps assign body none).run P w = .ok (l, mark) w₁ ∧ _
  obtain ⟨rc, hrc⟩ : ∃ rc : LoopState → Option Code → Loop, rc = fun st pe => { state := st, pending := pe, fn, tmps := a.tmps, params := ps, assign, body, defers := w.heap.size } := ⟨_, rfl⟩
  obtain ⟨W1, hW1⟩ : ∃ W1, (w.alloc (.deferred (some []))).alloc (.loop (rc .ready none)) = W1 := ⟨_, rfl⟩
  have hs1 : W1.heap.size = w.heap.size + 2 := by rw [← hW1]; simp
  have hL1 : W1.heap[w.heap.size + 1]? = some (.loop (rc .ready none)) := by
    rw [← hW1]; have := World.alloc_heap_new (w.alloc (.deferred (some []))) (.loop (rc .ready none)); rwa [World.size_alloc] at this
  have hK1 : W1.heap[w.heap.size]? = some (.deferred (some [])) := by
    rw [← hW1]; exact (Below.heap_alloc _ _ _ (by simp)).trans (World.alloc_heap_new w _)
  have hI1 : I [] W1 := by rw [← hW1]; exact hI _ _ _ (hI _ _ _ h0 (Turns.alloc _ _ _)) (Turns.alloc _ _ _)
  have hb1 : Below w.heap.size w W1 := by rw [← hW1]; exact ((Below.refl _ w).alloc (Nat.le_refl _) _).alloc (by simp) _
  have tw : ∀ k, Its O W1.heap.size m k → T k := fun k hk => (hT k).2 (by
    rcases hk with hk | ⟨h1, h2⟩
    · exact Or.inl hk
    · exact Or.inr ⟨by omega, by omega⟩)
  have t0 : T w.heap.size := (hT _).2 (Or.inr ⟨Nat.le_refl _, by omega⟩)
  have t1 : T (w.heap.size + 1) := (hT _).2 (Or.inr ⟨by omega, by omega⟩)
  have n0 : ¬ Its O W1.heap.size m w.heap.size := by
    rintro (h | ⟨h, _⟩)
    · have := hO _ h; omega
    · omega
  have n1 : ¬ Its O W1.heap.size m (w.heap.size + 1) := by
    rintro (h | ⟨h, _⟩)
    · have := hO _ h; omega
    · omega
  refine ⟨w.heap.size + 1, [{ target := .collected w.heap.size, args := #[] }], W1, { target := .fn (.func gf) lb, args := #[.func (.yield (w.heap.size + 1)) #[] #[]] }, W1, gf,
    #[.func (.yield (w.heap.size + 1)) #[] #[]] ++ lb, W1, ?_, ?_, ?_, ?_, fun h => by simp [Fence.wide] at h, ?_⟩
  · rw [← hW1, hrc]; exact run_enterLoop_outer _ _ _ _ _
  · simp only [resolve, hg]
    simp [go_sem]
  · intro f' _; trivial
  · simp [invoke, go_sem, eg]
  · refine callsIn_wide.2 ((hseq (w.heap.size + 1)
      (fun pre W => I pre W ∧ W.heap[w.heap.size + 1]? = some (.loop (rc .ready none)) ∧ W.heap[w.heap.size]? = some (.deferred (some [])))
      (fun pre W => ∃ c, Ix c pre W ∧ W.heap[w.heap.size + 1]? = some (.loop (rc .done (some c))) ∧ W.heap[w.heap.size]? = some (.deferred (some [])))
      W1 hb1
      (fun s A B h ht => ⟨hI s A B h.1 (ht.wider tw), ht.keeps h.2.1 n1, ht.keeps h.2.2 n0⟩)
      (fun s A B h ht => by
        obtain ⟨c, hc, hl, hk⟩ := h
        exact ⟨c, hIx c s A B hc (ht.wider tw), ht.keeps hl n1, ht.keeps hk n0⟩)
      ?_ ⟨hI1, hL1, hK1⟩).mono ?_)
    · rintro pre x W ⟨hi, hl, hk⟩ hsz hpre
      have hlt : w.heap.size + 1 < W.heap.size := (Array.getElem?_eq_some_iff.1 hl).1
      have hy := run_yield (P := P) (args := #[enc x]) hl (by rw [hrc]; exact hps.symm)
      rw [hrc] at hy
      refine ⟨fn, _, assign, body, hy, roundIn_of_wpIn trivial (hassign _ x W _ ⟨_, run_beginRound hl (by rw [hrc]), ?_⟩)⟩
      have hl2 : (W.putObj (w.heap.size + 1) (.loop { rc .ready none with state := .busy })).heap[w.heap.size + 1]? = some (.loop { rc .ready none with state := .busy }) := World.putObj_heap_same hlt
      have hk2 : (W.putObj (w.heap.size + 1) (.loop { rc .ready none with state := .busy })).heap[w.heap.size]? = some (.deferred (some [])) := (World.putObj_heap_other (by omega)).trans hk
      have hw2 : Turns (fun k => ¬ Its O W1.heap.size m k) W (W.putObj (w.heap.size + 1) (.loop { rc .ready none with state := .busy })) := Turns.putObj _ n1
      refine wpIn_mono (hbody _ pre x _ (hI _ _ _ hi (Turns.putObj _ t1)) (by simp; omega) hpre) ?_
      have fin : ∀ (jump : Option Code) (W3 : World), Turns (fun k => ¬ T k) (W.putObj (w.heap.size + 1) (.loop { rc .ready none with state := .busy })) W3 →
          (Instr.endRound (w.heap.size + 1) jump).run P W3 = .ok (.bool jump.isNone) (W3.putObj (w.heap.size + 1) (.loop (rc (if jump.isNone then .ready else .done) jump))) ∧
          (W3.putObj (w.heap.size + 1) (.loop (rc (if jump.isNone then .ready else .done) jump))).heap[w.heap.size + 1]? = some (.loop (rc (if jump.isNone then .ready else .done) jump)) ∧
          (W3.putObj (w.heap.size + 1) (.loop (rc (if jump.isNone then .ready else .done) jump))).heap[w.heap.size]? = some (.deferred (some [])) := fun jump W3 hk3 => by
        have hl3 := hk3.keeps hl2 (fun h => h t1)
        have hr := run_endRound (P := P) jump hl3
        rw [hrc] at hr ⊢
        exact ⟨hr, World.putObj_heap_same (Array.getElem?_eq_some_iff.1 hl3).1, (World.putObj_heap_other (by omega)).trans (hk3.keeps hk2 (fun h => h t0))⟩
      rintro e a3 W3 hp
      cases e with
      | normal =>
        obtain ⟨hk3, hi3⟩ := hp
        obtain ⟨hr, hl4, hk4⟩ := fin none W3 hk3
        exact ⟨_, _, hr, .inl ⟨rfl, ⟨hI _ _ _ hi3 (Turns.putObj _ t1), hl4, hk4⟩, (hw2.trans (hk3.wider fun k h h2 => h (tw k h2))).trans (Turns.putObj _ n1)⟩⟩
      | ret =>
        obtain ⟨hk3, hi3⟩ := hp
        obtain ⟨hr, hl4, hk4⟩ := fin (some .ret) W3 hk3
        exact ⟨_, _, hr, .inr ⟨rfl, ⟨.ret, hIx _ _ _ _ hi3 (Turns.putObj _ t1), hl4, hk4⟩, (hw2.trans (hk3.wider fun k h h2 => h (tw k h2))).trans (Turns.putObj _ n1)⟩⟩
      | exit id =>
        obtain ⟨hk3, hi3⟩ := hp
        obtain ⟨hr, hl4, hk4⟩ := fin (some (.exit id)) W3 hk3
        exact ⟨_, _, hr, .inr ⟨rfl, ⟨.exit id, hIx _ _ _ _ hi3 (Turns.putObj _ t1), hl4, hk4⟩, (hw2.trans (hk3.wider fun k h h2 => h (tw k h2))).trans (Turns.putObj _ n1)⟩⟩
      | goto t =>
        obtain ⟨hk3, hi3⟩ := hp
        obtain ⟨hr, hl4, hk4⟩ := fin (some (.goto t)) W3 hk3
        exact ⟨_, _, hr, .inr ⟨rfl, ⟨.goto t, hIx _ _ _ _ hi3 (Turns.putObj _ t1), hl4, hk4⟩, (hw2.trans (hk3.wider fun k h h2 => h (tw k h2))).trans (Turns.putObj _ n1)⟩⟩
      | panic ch => exact hp.elim
      | outgrown => exact hp.elim
    · rintro e W2 ⟨⟨v, rfl⟩, (⟨hi, hl, hk⟩ | ⟨pre, hpre, c, hi, hl, hk⟩)⟩
      · exact ⟨none, _, by have := run_endLoop (P := P) hl (by rw [hrc]; simp); rw [hrc] at this; exact this, hdone _ (hI _ _ _ hi (Turns.putObj _ t1)) ((World.putObj_heap_other (by omega)).trans hk)⟩
      · exact ⟨some c, _, by have := run_endLoop (P := P) hl (by rw [hrc]; simp); rw [hrc] at this; exact this, hstop c pre _ hpre (hIx c _ _ _ hi (Turns.putObj _ t1)) ((World.putObj_heap_other (by omega)).trans hk)⟩
end Go.Proofs.YtmpjjfhmkfchfaaDoor.Range
/-
  Layer 7 (tree): what the laws ask of the program's calls, as one structure of contracts over any reading of a tree ('Trees'); and the laws' acts as records. No condition but those that each theorem bears.
-/
namespace Go.Proofs.YtmpjjfhmkfchfaaDoor.W07
open Go Go.RowKit Go.Proofs.YtmpjjfhmkfchfaaDoor.Strs Go.Proofs.YtmpjjfhmkfchfaaDoor.Recs Go.Proofs.YtmpjjfhmkfchfaaDoor.M07 Go.Proofs.YtmpjjfhmkfchfaaDoor.Range
open Go.Proofs.YtmpjjfhmkfchfaaDoor.M06 (Ent)
open Go.Proofs.YtmpjjfhmkfchfaaDoor.W06 (Ents HandsE)
open Go.Proofs.YtmpjjfhmkfchfaaDoor.Kit (ret_str ret_bool ret_int mk_of mk_bytes ba_ext below_draws on)

def Small (t : Tr) : Prop := t.L.length ≤ 1048576 ∧ t.last ≤ 1048576
/-- behind a call that may have written the tree of the blocks F: it reads as t', in blocks of F and new ones; no other block has turned -/
def Wrote (Rep : (Nat → Prop) → World → Value → Tr → Prop) (F : Nat → Prop) (v : Value) (t' : Tr) (w w' : World) : Prop := ∃ F', Rep F' w' v t' ∧ Turns F w w' ∧ ∀ k, F' k → F k ∨ w.heap.size ≤ k
/-- what a directory's List tells -/
def listed (t : Tr) (n : Int) : List Ent := if (nodeAt t.L n).kind = 1 then listDir t.L n else []
/-- entries are handed out that lie in the tree's blocks, or in new ones -/
def HandsIn (F : Nat → Prop) (w : World) (L : List Ent) (e : Ending) (w' : World) : Prop := ∃ v, e = .returned v ∧ Ents w'.heap.size w' v L ∧ (∀ b o n c, v = .slice (some ⟨b, o, none⟩) n c → F b ∨ w.heap.size ≤ b) ∧ Below w.heap.size w w'
/-- the contracts of the program's calls: Rep F w v t: in w the pointer v leads to a tree that reads as t and lies in the blocks of F -/
structure Trees (Rep : (Nat → Prop) → World → Value → Tr → Prop) : Prop where
  keep : ∀ {F w w' v t}, Rep F w v t → (∀ k, F k → w'.heap[k]? = w.heap[k]?) → w.heap.size ≤ w'.heap.size → Rep F w' v t
  low : ∀ {F w v t}, Rep F w v t → ∀ k, F k → k < w.heap.size
  right : ∀ {F w v t}, Rep F w v t → Right t
  new : ∀ w, Calls Tryd.prog 19 #[] w fun e w' => ∃ v F, e = .returned v ∧ Rep F w' v M07.new ∧ (∀ k, F k → w.heap.size ≤ k) ∧ Below w.heap.size w w'
  kind : ∀ {F w v t}, Rep F w v t → Small t → ∀ n : Int, Calls Tryd.prog 31 #[v, .int .i64 n] w fun e w' => e = .returned (.int .i64 (nodeAt t.L n).kind) ∧ Below w.heap.size w w'
  data : ∀ {F w v t}, Rep F w v t → Small t → ∀ n : Int, Calls Tryd.prog 50 #[v, .int .i64 n] w fun e w' => e = .returned (.string ⟨(nodeAt t.L n).data.toArray⟩) ∧ Below w.heap.size w w'
  up : ∀ {F w v t}, Rep F w v t → Small t → ∀ n : Int, Calls Tryd.prog 32 #[v, .int .i64 n] w fun e w' => e = .returned (.int .i64 (nodeAt t.L n).up) ∧ Below w.heap.size w w'
  lists : ∀ {F w v t}, Rep F w v t → Small t → ∀ n : Int, Calls Tryd.prog 37 #[v, .int .i64 n] w (HandsIn F w (listed t n))
  put : ∀ {F w v t}, Rep F w v t → Small t → ∀ (d : Int) (s : ByteArray) (kind : Int) (x : ByteArray), x.size ≤ maxLen → Calls Tryd.prog 21 #[v, .int .i64 d, .string s, .int .i64 kind, .string x] w fun e w' => e = .returned (.tuple #[.int .i64 (put t d s.data.toList kind x.data.toList).2.1, .int .i64 (put t d s.data.toList kind x.data.toList).2.2]) ∧ Wrote Rep F v (put t d s.data.toList kind x.data.toList).1 w w'
section
variable {Rep : (Nat → Prop) → World → Value → Tr → Prop} {F : Nat → Prop} {w w' : World} {v : Value} {t : Tr}
theorem Trees.list (C : Trees Rep) (h : Rep F w v t) (hs : Small t) (n : Int) : Calls Tryd.prog 37 #[v, .int .i64 n] w (HandsE w (listed t n)) :=
  (C.lists h hs n).mono fun _ _ ⟨u, he, hu, _, hb⟩ => ⟨u, he, hu, hb⟩
theorem Trees.below (C : Trees Rep) (h : Rep F w v t) (hb : Below w.heap.size w w') : Rep F w' v t := C.keep h (fun k hk => hb.block k (C.low h k hk)) hb.size
end

/-! acts -/
structure Ac where
  act : Int
  dir : Int
  to : Int
  name : Bytes
  alias : Bytes
  kind : Int
  data : Bytes
def actC (x : Ac) : List Value := [.int .i64 x.act, .int .i64 x.dir, .int .i64 x.to, strV x.name, strV x.alias, .int .i64 x.kind, strV x.data]
theorem actC_len (x : Ac) : (actC x).length = 7 := rfl
abbrev Acts (B : Nat) (w : World) (v : Value) (L : List Ac) : Prop := Recs actC 7 B w v L
theorem Acts.at_ {B : Nat} {w : World} {L : List Ac} {A : Option Addr} {n c : Nat} (h : Acts B w (.slice A n c) L) {k : Nat} (hk : k < n) : ∃ (b o : Nat) (hl : k < L.length), A = some ⟨b, o, none⟩ ∧ b < B ∧ w.cell? ⟨b, o + k * 7, none⟩ = some (.int .i64 (L[k]).act) ∧ w.cell? ⟨b, o + k * 7 + 1, none⟩ = some (.int .i64 (L[k]).dir) ∧ w.cell? ⟨b, o + k * 7 + 2, none⟩ = some (.int .i64 (L[k]).to) ∧ w.cell? ⟨b, o + k * 7 + 3, none⟩ = some (.string ⟨(L[k]).name.toArray⟩) ∧ w.cell? ⟨b, o + k * 7 + 4, none⟩ = some (.string ⟨(L[k]).alias.toArray⟩) ∧ w.cell? ⟨b, o + k * 7 + 5, none⟩ = some (.int .i64 (L[k]).kind) ∧ w.cell? ⟨b, o + k * 7 + 6, none⟩ = some (.string ⟨(L[k]).data.toArray⟩) := by
  obtain ⟨b, o, hl, rfl, hb, hc⟩ := Recs.flat_ h actC_len (by omega) hk
  exact ⟨b, o, hl, rfl, hb, hc 0 (by omega), hc 1 (by omega), hc 2 (by omega), hc 3 (by omega), hc 4 (by omega), hc 5 (by omega), hc 6 (by omega)⟩
def isShort (l : List Ac) : Bool := l.all (fun x => decide (x.data.length ≤ 70000)) && decide (l.length ≤ 60)
def shortTo (l : List Ac) (k : Nat) : Prop := ∀ x ∈ l.take k, x.data.length ≤ 70000
theorem short_next {l : List Ac} {k : Nat} (hk : k < l.length) (h : shortTo l k) (h2 : (l[k]).data.length ≤ 70000) : shortTo l (k + 1) := by
  intro x hx
  rw [List.take_succ_eq_append_getElem hk] at hx
  rcases List.mem_append.1 hx with hx | hx
  · exact h x hx
  · rw [List.mem_singleton.1 hx]; exact h2
theorem short_end {l : List Ac} {k : Nat} (hk : ¬ k < l.length) (h : shortTo l k) : isShort l = decide (l.length ≤ 60) := by
  unfold shortTo at h
  rw [List.take_of_length_le (by omega)] at h
  unfold isShort
  rw [List.all_eq_true.2 (fun x hx => by simpa using h x hx), Bool.true_and]
theorem short_no {l : List Ac} {k : Nat} (hk : k < l.length) (h2 : ¬ (l[k]).data.length ≤ 70000) : isShort l = false := by
  unfold isShort
  rw [Bool.and_eq_false_iff]
  left
  rw [List.all_eq_false]
  exact ⟨l[k], List.getElem_mem hk, by simpa using h2⟩
end Go.Proofs.YtmpjjfhmkfchfaaDoor.W07
