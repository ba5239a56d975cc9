/-
  Layer 7 (tree), a walk: the plain answer's Put: a tree with a node more, in new memory, or what is wrong; nothing that was there is changed.
-/
import Derived.Test.YtelphegeeiocnaaW07Cut
namespace Go.Proofs.Ytelphegeeiocnaa.W07
open Go Go.RowKit Go.Proofs.Ytelphegeeiocnaa.Strs Go.Proofs.Ytelphegeeiocnaa.Recs Go.Proofs.Ytelphegeeiocnaa.M07
open Go.Proofs.Ytelphegeeiocnaa.M03 (check)
open Go.Proofs.Ytelphegeeiocnaa.W03 (refCheck_any)
open Go.Proofs.Ytelphegeeiocnaa.Kit (ret_str ret_bool ret_int mk_of mk_bytes ba_ext below_draws on)

theorem results_cell_tmp2 {fn : Func} {p u t : Tmp} {ty : TypeId} (h : fn.results = #[.cell p ty, .tmp u, .tmp t]) (tmps : Array Value) (P : Program) (w : World) :
    (results fn tmps).run P w = ((asAddr (tmps.getD p undef)).run P w).andThen fun a w₁ => ((loadVar ty a).run P w₁).andThen fun v w₂ => .ok (.tuple #[v, tmps.getD u undef, tmps.getD t undef]) w₂ := by
  simp only [results, h]
  simp [Sem.run_bind, Result.andThen]
theorem wrap_next {n : Int} (h1 : 0 ≤ n + 1) (h2 : n + 1 < 9223372036854775808) : IntKind.i64.wrap (n + 1) = n + 1 := by
  unfold IntKind.wrap
  have e : ((n + 1) % (2 ^ IntKind.i64.bits : Int)) = n + 1 := by
    show (n + 1) % (2 ^ 64 : Int) = n + 1
    omega
  simp only [e]
  rw [if_neg]
  simp only [Bool.and_eq_true, decide_eq_true_eq, not_and]
  intro _
  show ¬ n + 1 ≥ (2 ^ 63 : Int)
  omega
theorem alloc_news {w : World} {b o : Nat} {xs : List Value} (hb : b < w.heap.size) (h : ∀ j u, xs[j]? = some u → w.cell? ((⟨b, o, none⟩ : Addr).add j) = some u) (ob : Obj) : ∀ j u, xs[j]? = some u → (w.drew.alloc ob).cell? ((⟨b, o, none⟩ : Addr).add j) = some u := fun j u hj => by
  rw [World.cell?_alloc_lt _ _ _ (by rw [block_add]; exact hb)]
  exact h j u hj
theorem below_own {w wr w1 : World} {base : Nat} {v : Value} {n size : Nat} {xs : List Value} {e : TypeId} (hb : Below base w wr) (hbase : base ≤ wr.heap.size) (hown : wr.ownsRow base e size v n xs) (hg : wr.grownBy w1 v.ownBlock) : Below base w w1 :=
  hb.grown hg hbase (fun k hk => (hown.lt k hk).1)
theorem own_nodes_text {w : World} {base : Nat} {v : Value} {out : List Nd} {a b k : Int} {s x : ByteArray} (h : w.ownsRow base 56 5 v (out.length + 1) (out.flatMap nodeC ++ [.int .i64 a, .int .i64 b, .string s, .int .i64 k, .string x])) : OwnNodes w base v (out ++ [⟨a, b, s.data.toList, k, x.data.toList⟩]) :=
  own_nodes_more (x := ⟨a, b, s.data.toList, k, x.data.toList⟩) (by simp only [mk_bytes]; exact h)
/-- what Put returns -/
def TreePut (v : Value) (w : World) (R : Tr × Int × Int) (e : Ending) (w' : World) : Prop := ∃ u, e = .returned (.tuple #[.agg #[u, .int .i64 R.1.last], .int .i64 R.2.1, .int .i64 R.2.2]) ∧ Nodes w'.heap.size w' u R.1.L ∧ Below w.heap.size w w' ∧ FromOr v w.heap.size u
theorem put_fails {t : Tr} {d kind : Int} {s x : Bytes} {er : Int} (h : putErr t d s kind x = er) (he : er ≠ 0) : put t d s kind x = (t, 0, er) := by
  unfold put; rw [h, if_pos he]
theorem put_works {t : Tr} {d kind : Int} {s x : Bytes} (h : putErr t d s kind x = 0) : put t d s kind x = (⟨t.L ++ [⟨t.last + 1, d, s, kind, x⟩], t.last + 1⟩, t.last + 1, 0) := by
  unfold put; rw [h]; rfl

set_option maxHeartbeats 4000000 in
set_option maxRecDepth 100000 in
theorem refPut_any (v : Value) (L : List Nd) (last d kind : Int) (s x : ByteArray) (hx : x.size ≤ maxLen) (w : World) (h : Nodes w.heap.size w v L) (hn : L.length ≤ 1073741824) (h0' : 0 < L.length) (hl1 : -1 ≤ last) (hl2 : last ≤ 4611686018427387904) :
    Calls Try.prog 30 #[.agg #[v, .int .i64 last], .int .i64 d, .string s, .int .i64 kind, .string x] w (TreePut v w (put ⟨L, last⟩ d s.data.toList kind x.data.toList)) := by
  obtain ⟨i0, hi, hz0, hz1, hz2⟩ := info_parts node_info
  have HBX := Lib.hid (boxed_new w v last)
  have HB0 := Lib.hid (below_two w (.cells #[v, .int .i64 last] 29) (.cells #[.slice none 0 0, .int .i64 0] 29))
  have HN0 := Lib.hid (h.below HB0.out)
  have HD := Lib.hid (fun (w' : World) (h : Nodes w.heap.size w' v L) (hB : w.heap.size ≤ w'.heap.size) => refDir_any v L last d w.heap.size w' h hB (by omega))
  have HI := Lib.hid (fun (w' : World) (h : Nodes w.heap.size w' v L) (hB : w.heap.size ≤ w'.heap.size) => refIn_any v L last d s w.heap.size w' h hB (by omega))
  have HK := Lib.hid (refCheck_any s)
  have HM := Lib.hid (refMay_any kind x hx)
  have HFL := Lib.hid (flat_len nodeC_len L)
  have HNEWS := Lib.hid (fun (w' : World) (h : Nodes w.heap.size w' v L) => h)
  obtain ⟨A, c, rfl, hA1, hA2⟩ := h.form
  clear h
  unfold maxLen at hA2
  have HE : Hid (putErr ⟨L, last⟩ d s.data.toList kind x.data.toList = if dirErr L d ≠ 0 then dirErr L d else if check s.data.toList ≠ 0 then check s.data.toList else if 0 < inDir L d s.data.toList then 6 else if mayErr kind x.data.toList ≠ 0 then mayErr kind x.data.toList else if 4096 ≤ L.length then 12 else 0) := rfl
  have HF := Lib.hid (fun er => put_fails (t := ⟨L, last⟩) (d := d) (kind := kind) (s := s.data.toList) (x := x.data.toList) (er := er))
  have HWK := Lib.hid (put_works (t := ⟨L, last⟩) (d := d) (kind := kind) (s := s.data.toList) (x := x.data.toList))
  generalize put ⟨L, last⟩ d s.data.toList kind x.data.toList = R at *
  generalize putErr ⟨L, last⟩ d s.data.toList kind x.data.toList = pe at *
  generalize dirErr L d = de at *
  generalize check s.data.toList = ck at *
  generalize inDir L d s.data.toList = nn at *
  generalize mayErr kind x.data.toList = me at *
  go_enter Try.func30, Try.ntmps30
  go_wp2_with fail
  refine (HD.out _ HN0.out HB0.out.size).mono ?_
  rintro e w1 ⟨rfl, hb1⟩
  have BX1 := Lib.hid (HBX.out.below hb1)
  have B1 := Lib.hid (on HB0.out hb1)
  have N1 := Lib.hid (HN0.out.below (hb1.mono HB0.out.size))
  clear hb1
  have x0 := BX1.out.t0
  have x1 := BX1.out.t1
  by_cases ke : de = 0
  · have te : (de == 0) = true := by simpa using ke
    have HE2 := Lib.hid (HE.out.trans (if_neg (by simpa using ke)))
    clear ke HE
    by_cases kc : ck = 0
    · have tc : (ck == 0) = true := by simpa using kc
      have HE3 := Lib.hid (HE2.out.trans (if_neg (by simpa using kc)))
      clear kc HE2
      go_wp2_with fail
      refine (HK.out _).mono ?_
      rintro e w1' ⟨rfl, rfl⟩
      go_wp2_with fail
      refine (HI.out _ N1.out B1.out.size).mono ?_
      rintro e w2 ⟨rfl, hb2⟩
      have BX2 := Lib.hid (BX1.out.below hb2)
      have B2 := Lib.hid (on B1.out hb2)
      have N2 := Lib.hid (N1.out.below (hb2.mono B1.out.size))
      clear hb2 x0 x1 BX1 B1 N1
      have x0 := BX2.out.t0
      have x1 := BX2.out.t1
      have y0 := BX2.out.r0
      have y1 := BX2.out.r1
      have g0 := BX2.out.f0
      have g1 := BX2.out.f1
      by_cases kn : 0 < nn
      · have HX : Hid (R = (⟨L, last⟩, 0, 6)) := HF.out 6 (HE3.out.trans (if_pos kn)) (by decide)
        clear HE3
        go_wp2_with fail
        refine bodyPost_ret_by (v := .tuple #[.agg #[.slice A L.length c, .int .i64 last], .int .i64 0, .int .i64 6]) ?_ rfl ?_
        · rw [results_cell_tmp2 rfl]
          go_simp
        · rw [HX.out]
          exact ⟨_, rfl, stored_nodes N2.out (by omega) BX2.out.2.2, stored_below B2.out (by omega), Or.inl rfl⟩
      · have HE4 := Lib.hid (HE3.out.trans (if_neg kn))
        clear HE3
        by_cases km : me = 0
        · have tm : (me == 0) = true := by simpa using km
          have HE5 := Lib.hid (HE4.out.trans (if_neg (by simpa using km)))
          clear km HE4
          by_cases kz : (4096 : Int) ≤ (L.length : Int)
          · have HX : Hid (R = (⟨L, last⟩, 0, 12)) := HF.out 12 (HE5.out.trans (if_pos (by omega))) (by decide)
            clear HE5
            go_wp2_with fail
            refine (HM.out _).mono ?_
            rintro e w3 ⟨rfl, rfl⟩
            go_wp2_with fail
            refine bodyPost_ret_by (v := .tuple #[.agg #[.slice A L.length c, .int .i64 last], .int .i64 0, .int .i64 12]) ?_ rfl ?_
            · rw [results_cell_tmp2 rfl]
              go_simp
            · rw [HX.out]
              exact ⟨_, rfl, stored_nodes N2.out (by omega) BX2.out.2.2, stored_below B2.out (by omega), Or.inl rfl⟩
          · have HX : Hid (R = (⟨L ++ [⟨last + 1, d, s.data.toList, kind, x.data.toList⟩], last + 1⟩, last + 1, 0)) := HWK.out (HE5.out.trans (if_neg (by omega)))
            clear HE5
            go_wp2_with fail
            refine (HM.out _).mono ?_
            rintro e w3 ⟨rfl, rfl⟩
            go_wp2_with fail
            have h0 : 0 < L.length := h0'
            obtain ⟨b, o, rfl, hbB, hnews⟩ := Recs.news N2.out nodeC_len (by omega) h0
            have HNW := Lib.hid hnews
            have hsz2 := BX2.out.2.2
            have hbw3 : b < w3.heap.size := by omega
            have hwr : IntKind.i64.wrap (last + 1) = last + 1 := wrap_next (by omega) (by omega)
            have hbs2 := B2.out.size
            clear hnews
            go_region_held3 (fun w' => w'.cell? ⟨w.heap.size, 0, none⟩ = some (.slice (some ⟨b, o, none⟩) L.length c) ∧ w'.cell? ⟨w.heap.size, 1, none⟩ = some (.int .i64 last))
              (first | exact ⟨(B5.cell (show w.heap.size < w3.heap.size by omega)).trans x0, (B5.cell (show w.heap.size < w3.heap.size by omega)).trans x1⟩ | exact ⟨x0, x1⟩ | exact ⟨(B4.cell (show w.heap.size < w3.heap.size by omega)).trans x0, (B4.cell (show w.heap.size < w3.heap.size by omega)).trans x1⟩ | go_keep)
              (first
                | (refine wp_append_own _ (.const (.slice none 0 0)) (.tmp 49) 27 rfl w3.heap.size 56 i0 (.agg #[.int .i64 0, .int .i64 0, .string ⟨#[]⟩, .int .i64 0, .string ⟨#[]⟩]) 5 56 Try.underlying27 hi hz0 hz1 hz2 rfl (by decide) (.slice none 0 0) 0 [] rfl (World.ownsRow_nil _ _ _ _) ⟨b, o, none⟩ L.length c (L.flatMap nodeC) rfl HFL.out HNW.out nodes_one (by unfold maxLen; omega) (by omega) (by first | exact Nat.le_refl _ | omega) ?_; intro v4 w4 hown4 hgrow4 _; have B4 : Below w3.heap.size w3 w4 := on (below_draws w3 1) ((Below.refl w3.heap.size (w3.drewN 1)).grown hgrow4 (Nat.le_refl _) (fun k hk => by cases hk)))
                | (refine wp_append_own _ (.const (.slice none 0 0)) (.tmp 49) 27 rfl w3.heap.size 56 i0 (.agg #[.int .i64 0, .int .i64 0, .string ⟨#[]⟩, .int .i64 0, .string ⟨#[]⟩]) 5 56 Try.underlying27 hi hz0 hz1 hz2 rfl (by decide) (.slice none 0 0) 0 [] rfl (World.ownsRow_nil _ _ _ _) ⟨b, o, none⟩ L.length c (L.flatMap nodeC) rfl HFL.out (alloc_news hbw3 HNW.out _) nodes_one (by unfold maxLen; omega) (by omega) (Nat.le_trans (Nat.le_succ _) (Nat.le_of_eq (World.alloc_size w3 _).symm)) ?_; intro v4 w4 hown4 hgrow4 _; have B4c := Lib.hid ((Below.refl (w3.heap.size + 1) _).grown hgrow4 (Nat.le_of_eq (World.alloc_size w3 _).symm) (fun k hk => by cases hk)); have B4 : Below w3.heap.size w3 w4 := on (below_draws w3 1) (((Below.refl w3.heap.size (w3.drewN 1)).alloc (Nat.le_refl _) _).trans (B4c.out.mono (Nat.le_succ _))))
                | (refine wp_append_own _ (.tmp 50) (.tmp 59) 27 rfl w3.heap.size 56 i0 (.agg #[.int .i64 0, .int .i64 0, .string ⟨#[]⟩, .int .i64 0, .string ⟨#[]⟩]) 5 56 Try.underlying27 hi hz0 hz1 hz2 rfl (by decide) _ _ _ rfl (World.ownsRow.alloc hown4 _) ⟨_, 0, none⟩ 1 1 [.int .i64 (last + 1), .int .i64 d, .string s, .int .i64 kind, .string x] rfl rfl (cells_new _ [_, _, _, _, _] _) (by intro u hu; simp at hu; rcases hu with rfl | rfl | rfl | rfl | rfl <;> rfl) (by unfold maxLen; omega) (by omega) (Nat.le_trans B4.size (by rw [World.alloc_size]; exact Nat.le_succ _)) ?_; intro v5 w5 hown5 hgrow5 _; have B5 : Below w3.heap.size w3 w5 := W06.below_more2 B4 B4.size hown4 hgrow5)
                | (refine wp_append_own _ (.tmp 50) (.tmp 59) 27 rfl w3.heap.size 56 i0 (.agg #[.int .i64 0, .int .i64 0, .string ⟨#[]⟩, .int .i64 0, .string ⟨#[]⟩]) 5 56 Try.underlying27 hi hz0 hz1 hz2 rfl (by decide) _ _ _ rfl hown4 ⟨w3.heap.size, 0, none⟩ 1 1 [.int .i64 (last + 1), .int .i64 d, .string s, .int .i64 kind, .string x] rfl rfl (fun j u hj => (B4c.out.cell (by rw [block_add]; exact Nat.lt_succ_self _)).trans (cells_new (w3.drewN 1) [_, _, _, _, _] _ j u hj)) (by intro u hu; simp at hu; rcases hu with rfl | rfl | rfl | rfl | rfl <;> rfl) (by unfold maxLen; omega) (by omega) B4.size ?_; intro v5 w5 hown5 hgrow5 _; have B5 : Below w3.heap.size w3 w5 := below_own B4 B4.size hown4 hgrow5))
            all_goals (
              rw [Nat.zero_add, List.nil_append] at hown5
              have O5 := Lib.hid (own_nodes_text hown5)
              clear hown5 hown4 hgrow4 hgrow5
              have HBB := Lib.hid (B2.out.trans (B5.mono hbs2))
              have q1 : w5.cell? ⟨w.heap.size, 1, none⟩ = some (.int .i64 last) := (B5.cell (show w.heap.size < w3.heap.size by omega)).trans x1
              have q2 : w5.cell? ⟨w.heap.size + 1, 0, none⟩ = some (.slice none 0 0) := (B5.cell (show w.heap.size + 1 < w3.heap.size by omega)).trans y0
              have q3 : w5.cell? ⟨w.heap.size + 1, 1, none⟩ = some (.int .i64 0) := (B5.cell (show w.heap.size + 1 < w3.heap.size by omega)).trans y1
              have q4 : w5.frozen? ⟨w.heap.size + 1, 0, none⟩ = false := (B5.frozen (show w.heap.size + 1 < w3.heap.size by omega)).trans g0
              have q5 : w5.frozen? ⟨w.heap.size + 1, 1, none⟩ = false := (B5.frozen (show w.heap.size + 1 < w3.heap.size by omega)).trans g1
              clear x0 x1 y0 y1 g0 g1 B4 B5
              generalize hLL : L ++ [⟨last + 1, d, s.data.toList, kind, x.data.toList⟩] = LL at O5 HX
              obtain ⟨g5, c5, rfl, hg5, hg6, hcn, hcm⟩ := own_form O5.out (by rw [← hLL]; simp)
              go_wp2_with fail
              go_region
              all_goals (
                go_wp2_with fail
                refine bodyPost_ret_by (v := .tuple #[.agg #[.slice (some ⟨g5, 0, none⟩) LL.length c5, .int .i64 (last + 1)], .int .i64 (last + 1), .int .i64 0]) ?_ rfl ?_
                · rw [results_cell_tmp2 rfl]
                  go_simp
                · rw [HX.out]
                  exact ⟨_, rfl, stored_own (w := w5.drewN 1) O5.out (by omega), stored_below (w' := w5.drewN 1) (on HBB.out (below_draws w5 1)) (by omega), Or.inr (Or.inr ⟨_, _, _, rfl, by omega⟩)⟩))
        · have tm : (me == 0) = false := by simpa using km
          have HX : Hid (R = (⟨L, last⟩, 0, me)) := HF.out me (HE4.out.trans (if_pos km)) km
          clear km HE4
          go_wp2_with fail
          refine (HM.out _).mono ?_
          rintro e w3 ⟨rfl, rfl⟩
          go_wp2_with fail
          refine bodyPost_ret_by (v := .tuple #[.agg #[.slice A L.length c, .int .i64 last], .int .i64 0, .int .i64 me]) ?_ rfl ?_
          · rw [results_cell_tmp2 rfl]
            go_simp
          · rw [HX.out]
            exact ⟨_, rfl, stored_nodes N2.out (by omega) BX2.out.2.2, stored_below B2.out (by omega), Or.inl rfl⟩
    · have tc : (ck == 0) = false := by simpa using kc
      have HX : Hid (R = (⟨L, last⟩, 0, ck)) := HF.out ck (HE2.out.trans (if_pos kc)) kc
      have y0 := BX1.out.r0
      have y1 := BX1.out.r1
      have g0 := BX1.out.f0
      have g1 := BX1.out.f1
      clear kc HE2
      go_wp2_with fail
      refine (HK.out _).mono ?_
      rintro e w1' ⟨rfl, rfl⟩
      go_wp2_with fail
      refine bodyPost_ret_by (v := .tuple #[.agg #[.slice A L.length c, .int .i64 last], .int .i64 0, .int .i64 ck]) ?_ rfl ?_
      · rw [results_cell_tmp2 rfl]
        go_simp
      · rw [HX.out]
        exact ⟨_, rfl, stored_nodes N1.out (by omega) BX1.out.2.2, stored_below B1.out (by omega), Or.inl rfl⟩
  · have te : (de == 0) = false := by simpa using ke
    have HX : Hid (R = (⟨L, last⟩, 0, de)) := HF.out de (HE.out.trans (if_pos ke)) ke
    have y0 := BX1.out.r0
    have y1 := BX1.out.r1
    have g0 := BX1.out.f0
    have g1 := BX1.out.f1
    clear ke HE
    go_wp2_with fail
    refine bodyPost_ret_by (v := .tuple #[.agg #[.slice A L.length c, .int .i64 last], .int .i64 0, .int .i64 de]) ?_ rfl ?_
    · rw [results_cell_tmp2 rfl]
      go_simp
    · rw [HX.out]
      exact ⟨_, rfl, stored_nodes N1.out (by omega) BX1.out.2.2, stored_below B1.out (by omega), Or.inl rfl⟩
end Go.Proofs.Ytelphegeeiocnaa.W07
