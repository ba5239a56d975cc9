/-
  Texts joined, in build order, each with its own comment and its own conditions: W07Put, W07Move, W07New, W07Abs, W08Abs, Maps.
-/
import Derived.Test.YtpihldcchjoinaaGreatDoorJ07
import Derived.Test.YtpihldcchjoinaaGreatDoorJ01
import Derived.Test.YtpihldcchjoinaaGreatDoorJ06
import Derived.Test.YtpihldcchjoinaaGreatDoorJ02
import Derived.Maps.RangeWalk
import Derived.OwnWalk
/-
  Layer 7 (tree), a walk: the plain answer's Put: a tree with a node more, in new memory, or what is wrong; nothing that was there is changed.
-/
namespace Go.Proofs.YtpihldcchjoinaaGreatDoor.W07
set_option maxRecDepth 100000
open Go Go.RowKit Go.Proofs.YtpihldcchjoinaaGreatDoor.Strs Go.Proofs.YtpihldcchjoinaaGreatDoor.Recs Go.Proofs.YtpihldcchjoinaaGreatDoor.M07
open Go.Proofs.YtpihldcchjoinaaGreatDoor.M03 (check)
open Go.Proofs.YtpihldcchjoinaaGreatDoor.W03 (refCheck_any)
open Go.Proofs.YtpihldcchjoinaaGreatDoor.Kit (ret_str ret_bool ret_int mk_of mk_bytes ba_ext below_draws on)

theorem results_cell_tmp2 {fn : Func} {p u t : Tmp} {ty : TypeId} (h : fn.results = #[.cell p ty, .tmp u, .tmp t]) (tmps : Array Value) (P : Program) (w : World) :
    (results fn tmps).run P w = ((asAddr (tmps.getD p undef)).run P w).andThen fun a w₁ => ((loadVar ty a).run P w₁).andThen fun v w₂ => .ok (.tuple #[v, tmps.getD u undef, tmps.getD t undef]) w₂ := by
  simp only [results, h]
  simp [Sem.run_bind, Result.andThen]
theorem wrap_next {n : Int} (h1 : 0 ≤ n + 1) (h2 : n + 1 < 9223372036854775808) : IntKind.i64.wrap (n + 1) = n + 1 := by
  unfold IntKind.wrap
  have e : ((n + 1) % (2 ^ IntKind.i64.bits : Int)) = n + 1 := by
    show (n + 1) % (2 ^ 64 : Int) = n + 1
    omega
  simp only [e]
  rw [if_neg]
  simp only [Bool.and_eq_true, decide_eq_true_eq, not_and]
  intro _
  show ¬ n + 1 ≥ (2 ^ 63 : Int)
  omega
theorem alloc_news {w : World} {b o : Nat} {xs : List Value} (hb : b < w.heap.size) (h : ∀ j u, xs[j]? = some u → w.cell? ((⟨b, o, none⟩ : Addr).add j) = some u) (ob : Obj) : ∀ j u, xs[j]? = some u → (w.drew.alloc ob).cell? ((⟨b, o, none⟩ : Addr).add j) = some u := fun j u hj => by
  rw [World.cell?_alloc_lt _ _ _ (by rw [block_add]; exact hb)]
  exact h j u hj
theorem below_own {w wr w1 : World} {base : Nat} {v : Value} {n size : Nat} {xs : List Value} {e : TypeId} (hb : Below base w wr) (hbase : base ≤ wr.heap.size) (hown : wr.ownsRow base e size v n xs) (hg : wr.grownBy w1 v.ownBlock) : Below base w w1 :=
  hb.grown hg hbase (fun k hk => (hown.lt k hk).1)
theorem own_nodes_text {w : World} {base : Nat} {v : Value} {out : List Nd} {a b k : Int} {s x : ByteArray} (h : w.ownsRow base 77 5 v (out.length + 1) (out.flatMap nodeC ++ [.int .i64 a, .int .i64 b, .string s, .int .i64 k, .string x])) : OwnNodes w base v (out ++ [⟨a, b, s.data.toList, k, x.data.toList⟩]) :=
  own_nodes_more (x := ⟨a, b, s.data.toList, k, x.data.toList⟩) (by simp only [mk_bytes]; exact h)
/-- what Put returns -/
def TreePut (v : Value) (w : World) (R : Tr × Int × Int) (e : Ending) (w' : World) : Prop := ∃ u, e = .returned (.tuple #[.agg #[u, .int .i64 R.1.last], .int .i64 R.2.1, .int .i64 R.2.2]) ∧ Nodes w'.heap.size w' u R.1.L ∧ Below w.heap.size w w' ∧ FromOr v w.heap.size u
theorem put_fails {t : Tr} {d kind : Int} {s x : Bytes} {er : Int} (h : putErr t d s kind x = er) (he : er ≠ 0) : put t d s kind x = (t, 0, er) := by
  unfold put; rw [h, if_pos he]
theorem put_works {t : Tr} {d kind : Int} {s x : Bytes} (h : putErr t d s kind x = 0) : put t d s kind x = (⟨t.L ++ [⟨t.last + 1, d, s, kind, x⟩], t.last + 1⟩, t.last + 1, 0) := by
  unfold put; rw [h]; rfl

set_option maxHeartbeats 4000000 in
set_option maxRecDepth 100000 in
theorem refPut_any (v : Value) (L : List Nd) (last d kind : Int) (s x : ByteArray) (hx : x.size ≤ maxLen) (w : World) (h : Nodes w.heap.size w v L) (hn : L.length ≤ 1073741824) (h0' : 0 < L.length) (hl1 : -1 ≤ last) (hl2 : last ≤ 4611686018427387904) :
    Calls Tryz.prog 27 #[.agg #[v, .int .i64 last], .int .i64 d, .string s, .int .i64 kind, .string x] w (TreePut v w (put ⟨L, last⟩ d s.data.toList kind x.data.toList)) := by
  obtain ⟨i0, hi, hz0, hz1, hz2⟩ := info_parts node_info
  have HBX := Lib.hid (boxed_new w v last)
  have HB0 := Lib.hid (below_two w (.cells #[v, .int .i64 last] 28) (.cells #[.slice none 0 0, .int .i64 0] 28))
  have HN0 := Lib.hid (h.below HB0.out)
  have HD := Lib.hid (fun (w' : World) (h : Nodes w.heap.size w' v L) (hB : w.heap.size ≤ w'.heap.size) => refDir_any v L last d w.heap.size w' h hB (by omega))
  have HI := Lib.hid (fun (w' : World) (h : Nodes w.heap.size w' v L) (hB : w.heap.size ≤ w'.heap.size) => refIn_any v L last d s w.heap.size w' h hB (by omega))
  have HK := Lib.hid (refCheck_any s)
  have HM := Lib.hid (refMay_any kind x hx)
  have HFL := Lib.hid (flat_len nodeC_len L)
  have HNEWS := Lib.hid (fun (w' : World) (h : Nodes w.heap.size w' v L) => h)
  obtain ⟨A, c, rfl, hA1, hA2⟩ := h.form
  clear h
  unfold maxLen at hA2
  have HE : Hid (putErr ⟨L, last⟩ d s.data.toList kind x.data.toList = if dirErr L d ≠ 0 then dirErr L d else if check s.data.toList ≠ 0 then check s.data.toList else if 0 < inDir L d s.data.toList then 6 else if mayErr kind x.data.toList ≠ 0 then mayErr kind x.data.toList else if 4096 ≤ L.length then 12 else 0) := rfl
  have HF := Lib.hid (fun er => put_fails (t := ⟨L, last⟩) (d := d) (kind := kind) (s := s.data.toList) (x := x.data.toList) (er := er))
  have HWK := Lib.hid (put_works (t := ⟨L, last⟩) (d := d) (kind := kind) (s := s.data.toList) (x := x.data.toList))
  generalize put ⟨L, last⟩ d s.data.toList kind x.data.toList = R at *
  generalize putErr ⟨L, last⟩ d s.data.toList kind x.data.toList = pe at *
  generalize dirErr L d = de at *
  generalize check s.data.toList = ck at *
  generalize inDir L d s.data.toList = nn at *
  generalize mayErr kind x.data.toList = me at *
  go_enter Tryz.func27, Tryz.ntmps27
  go_wp2_with fail
  refine (HD.out _ HN0.out HB0.out.size).mono ?_
  rintro e w1 ⟨rfl, hb1⟩
  have BX1 := Lib.hid (HBX.out.below hb1)
  have B1 := Lib.hid (on HB0.out hb1)
  have N1 := Lib.hid (HN0.out.below (hb1.mono HB0.out.size))
  clear hb1
  have x0 := BX1.out.t0
  have x1 := BX1.out.t1
  by_cases ke : de = 0
  · have te : (de == 0) = true := by simpa using ke
    have HE2 := Lib.hid (HE.out.trans (if_neg (by simpa using ke)))
    clear ke HE
    by_cases kc : ck = 0
    · have tc : (ck == 0) = true := by simpa using kc
      have HE3 := Lib.hid (HE2.out.trans (if_neg (by simpa using kc)))
      clear kc HE2
      go_wp2_with fail
      refine (HK.out _).mono ?_
      rintro e w1' ⟨rfl, rfl⟩
      go_wp2_with fail
      refine (HI.out _ N1.out B1.out.size).mono ?_
      rintro e w2 ⟨rfl, hb2⟩
      have BX2 := Lib.hid (BX1.out.below hb2)
      have B2 := Lib.hid (on B1.out hb2)
      have N2 := Lib.hid (N1.out.below (hb2.mono B1.out.size))
      clear hb2 x0 x1 BX1 B1 N1
      have x0 := BX2.out.t0
      have x1 := BX2.out.t1
      have y0 := BX2.out.r0
      have y1 := BX2.out.r1
      have g0 := BX2.out.f0
      have g1 := BX2.out.f1
      by_cases kn : 0 < nn
      · have HX : Hid (R = (⟨L, last⟩, 0, 6)) := HF.out 6 (HE3.out.trans (if_pos kn)) (by decide)
        clear HE3
        go_wp2_with fail
        refine bodyPost_ret_by (v := .tuple #[.agg #[.slice A L.length c, .int .i64 last], .int .i64 0, .int .i64 6]) ?_ rfl ?_
        · rw [results_cell_tmp2 rfl]
          go_simp
        · rw [HX.out]
          exact ⟨_, rfl, stored_nodes N2.out (by omega) BX2.out.2.2, stored_below B2.out (by omega), Or.inl rfl⟩
      · have HE4 := Lib.hid (HE3.out.trans (if_neg kn))
        clear HE3
        by_cases km : me = 0
        · have tm : (me == 0) = true := by simpa using km
          have HE5 := Lib.hid (HE4.out.trans (if_neg (by simpa using km)))
          clear km HE4
          by_cases kz : (4096 : Int) ≤ (L.length : Int)
          · have HX : Hid (R = (⟨L, last⟩, 0, 12)) := HF.out 12 (HE5.out.trans (if_pos (by omega))) (by decide)
            clear HE5
            go_wp2_with fail
            refine (HM.out _).mono ?_
            rintro e w3 ⟨rfl, rfl⟩
            go_wp2_with fail
            refine bodyPost_ret_by (v := .tuple #[.agg #[.slice A L.length c, .int .i64 last], .int .i64 0, .int .i64 12]) ?_ rfl ?_
            · rw [results_cell_tmp2 rfl]
              go_simp
            · rw [HX.out]
              exact ⟨_, rfl, stored_nodes N2.out (by omega) BX2.out.2.2, stored_below B2.out (by omega), Or.inl rfl⟩
          · have HX : Hid (R = (⟨L ++ [⟨last + 1, d, s.data.toList, kind, x.data.toList⟩], last + 1⟩, last + 1, 0)) := HWK.out (HE5.out.trans (if_neg (by omega)))
            clear HE5
            go_wp2_with fail
            refine (HM.out _).mono ?_
            rintro e w3 ⟨rfl, rfl⟩
            go_wp2_with fail
            have h0 : 0 < L.length := h0'
            obtain ⟨b, o, rfl, hbB, hnews⟩ := Recs.news N2.out nodeC_len (by omega) h0
            have HNW := Lib.hid hnews
            have hsz2 := BX2.out.2.2
            have hbw3 : b < w3.heap.size := by omega
            have hwr : IntKind.i64.wrap (last + 1) = last + 1 := wrap_next (by omega) (by omega)
            have hbs2 := B2.out.size
            clear hnews
            go_region_held3 (fun w' => w'.cell? ⟨w.heap.size, 0, none⟩ = some (.slice (some ⟨b, o, none⟩) L.length c) ∧ w'.cell? ⟨w.heap.size, 1, none⟩ = some (.int .i64 last))
              (first | exact ⟨(B5.cell (show w.heap.size < w3.heap.size by omega)).trans x0, (B5.cell (show w.heap.size < w3.heap.size by omega)).trans x1⟩ | exact ⟨x0, x1⟩ | exact ⟨(B4.cell (show w.heap.size < w3.heap.size by omega)).trans x0, (B4.cell (show w.heap.size < w3.heap.size by omega)).trans x1⟩ | go_keep)
              (first
                | (refine wp_append_own _ (.const (.slice none 0 0)) (.tmp 49) 26 rfl w3.heap.size 77 i0 (.agg #[.int .i64 0, .int .i64 0, .string ⟨#[]⟩, .int .i64 0, .string ⟨#[]⟩]) 5 56 Tryz.underlying26 hi hz0 hz1 hz2 rfl (by decide) (.slice none 0 0) 0 [] rfl (World.ownsRow_nil _ _ _ _) ⟨b, o, none⟩ L.length c (L.flatMap nodeC) rfl HFL.out HNW.out nodes_one (by unfold maxLen; omega) (by omega) (by first | exact Nat.le_refl _ | omega) ?_; intro v4 w4 hown4 hgrow4 _; have B4 : Below w3.heap.size w3 w4 := on (below_draws w3 1) ((Below.refl w3.heap.size (w3.drewN 1)).grown hgrow4 (Nat.le_refl _) (fun k hk => by cases hk)))
                | (refine wp_append_own _ (.const (.slice none 0 0)) (.tmp 49) 26 rfl w3.heap.size 77 i0 (.agg #[.int .i64 0, .int .i64 0, .string ⟨#[]⟩, .int .i64 0, .string ⟨#[]⟩]) 5 56 Tryz.underlying26 hi hz0 hz1 hz2 rfl (by decide) (.slice none 0 0) 0 [] rfl (World.ownsRow_nil _ _ _ _) ⟨b, o, none⟩ L.length c (L.flatMap nodeC) rfl HFL.out (alloc_news hbw3 HNW.out _) nodes_one (by unfold maxLen; omega) (by omega) (Nat.le_trans (Nat.le_succ _) (Nat.le_of_eq (World.alloc_size w3 _).symm)) ?_; intro v4 w4 hown4 hgrow4 _; have B4c := Lib.hid ((Below.refl (w3.heap.size + 1) _).grown hgrow4 (Nat.le_of_eq (World.alloc_size w3 _).symm) (fun k hk => by cases hk)); have B4 : Below w3.heap.size w3 w4 := on (below_draws w3 1) (((Below.refl w3.heap.size (w3.drewN 1)).alloc (Nat.le_refl _) _).trans (B4c.out.mono (Nat.le_succ _))))
                | (refine wp_append_own _ (.tmp 50) (.tmp 59) 26 rfl w3.heap.size 77 i0 (.agg #[.int .i64 0, .int .i64 0, .string ⟨#[]⟩, .int .i64 0, .string ⟨#[]⟩]) 5 56 Tryz.underlying26 hi hz0 hz1 hz2 rfl (by decide) _ _ _ rfl (World.ownsRow.alloc hown4 _) ⟨_, 0, none⟩ 1 1 [.int .i64 (last + 1), .int .i64 d, .string s, .int .i64 kind, .string x] rfl rfl (cells_new _ [_, _, _, _, _] _) (by intro u hu; simp at hu; rcases hu with rfl | rfl | rfl | rfl | rfl <;> rfl) (by unfold maxLen; omega) (by omega) (Nat.le_trans B4.size (by rw [World.alloc_size]; exact Nat.le_succ _)) ?_; intro v5 w5 hown5 hgrow5 _; have B5 : Below w3.heap.size w3 w5 := W06.below_more2 B4 B4.size hown4 hgrow5)
                | (refine wp_append_own _ (.tmp 50) (.tmp 59) 26 rfl w3.heap.size 77 i0 (.agg #[.int .i64 0, .int .i64 0, .string ⟨#[]⟩, .int .i64 0, .string ⟨#[]⟩]) 5 56 Tryz.underlying26 hi hz0 hz1 hz2 rfl (by decide) _ _ _ rfl hown4 ⟨w3.heap.size, 0, none⟩ 1 1 [.int .i64 (last + 1), .int .i64 d, .string s, .int .i64 kind, .string x] rfl rfl (fun j u hj => (B4c.out.cell (by rw [block_add]; exact Nat.lt_succ_self _)).trans (cells_new (w3.drewN 1) [_, _, _, _, _] _ j u hj)) (by intro u hu; simp at hu; rcases hu with rfl | rfl | rfl | rfl | rfl <;> rfl) (by unfold maxLen; omega) (by omega) B4.size ?_; intro v5 w5 hown5 hgrow5 _; have B5 : Below w3.heap.size w3 w5 := below_own B4 B4.size hown4 hgrow5))
            all_goals (
              rw [Nat.zero_add, List.nil_append] at hown5
              have O5 := Lib.hid (own_nodes_text hown5)
              clear hown5 hown4 hgrow4 hgrow5
              have HBB := Lib.hid (B2.out.trans (B5.mono hbs2))
              have q1 : w5.cell? ⟨w.heap.size, 1, none⟩ = some (.int .i64 last) := (B5.cell (show w.heap.size < w3.heap.size by omega)).trans x1
              have q2 : w5.cell? ⟨w.heap.size + 1, 0, none⟩ = some (.slice none 0 0) := (B5.cell (show w.heap.size + 1 < w3.heap.size by omega)).trans y0
              have q3 : w5.cell? ⟨w.heap.size + 1, 1, none⟩ = some (.int .i64 0) := (B5.cell (show w.heap.size + 1 < w3.heap.size by omega)).trans y1
              have q4 : w5.frozen? ⟨w.heap.size + 1, 0, none⟩ = false := (B5.frozen (show w.heap.size + 1 < w3.heap.size by omega)).trans g0
              have q5 : w5.frozen? ⟨w.heap.size + 1, 1, none⟩ = false := (B5.frozen (show w.heap.size + 1 < w3.heap.size by omega)).trans g1
              clear x0 x1 y0 y1 g0 g1 B4 B5
              generalize hLL : L ++ [⟨last + 1, d, s.data.toList, kind, x.data.toList⟩] = LL at O5 HX
              obtain ⟨g5, c5, rfl, hg5, hg6, hcn, hcm⟩ := own_form O5.out (by rw [← hLL]; simp)
              go_wp2_with fail
              go_region
              all_goals (
                go_wp2_with fail
                refine bodyPost_ret_by (v := .tuple #[.agg #[.slice (some ⟨g5, 0, none⟩) LL.length c5, .int .i64 (last + 1)], .int .i64 (last + 1), .int .i64 0]) ?_ rfl ?_
                · rw [results_cell_tmp2 rfl]
                  go_simp
                · rw [HX.out]
                  exact ⟨_, rfl, stored_own (w := w5.drewN 1) O5.out (by omega), stored_below (w' := w5.drewN 1) (on HBB.out (below_draws w5 1)) (by omega), Or.inr (Or.inr ⟨_, _, _, rfl, by omega⟩)⟩))
        · have tm : (me == 0) = false := by simpa using km
          have HX : Hid (R = (⟨L, last⟩, 0, me)) := HF.out me (HE4.out.trans (if_pos km)) km
          clear km HE4
          go_wp2_with fail
          refine (HM.out _).mono ?_
          rintro e w3 ⟨rfl, rfl⟩
          go_wp2_with fail
          refine bodyPost_ret_by (v := .tuple #[.agg #[.slice A L.length c, .int .i64 last], .int .i64 0, .int .i64 me]) ?_ rfl ?_
          · rw [results_cell_tmp2 rfl]
            go_simp
          · rw [HX.out]
            exact ⟨_, rfl, stored_nodes N2.out (by omega) BX2.out.2.2, stored_below B2.out (by omega), Or.inl rfl⟩
    · have tc : (ck == 0) = false := by simpa using kc
      have HX : Hid (R = (⟨L, last⟩, 0, ck)) := HF.out ck (HE2.out.trans (if_pos kc)) kc
      have y0 := BX1.out.r0
      have y1 := BX1.out.r1
      have g0 := BX1.out.f0
      have g1 := BX1.out.f1
      clear kc HE2
      go_wp2_with fail
      refine (HK.out _).mono ?_
      rintro e w1' ⟨rfl, rfl⟩
      go_wp2_with fail
      refine bodyPost_ret_by (v := .tuple #[.agg #[.slice A L.length c, .int .i64 last], .int .i64 0, .int .i64 ck]) ?_ rfl ?_
      · rw [results_cell_tmp2 rfl]
        go_simp
      · rw [HX.out]
        exact ⟨_, rfl, stored_nodes N1.out (by omega) BX1.out.2.2, stored_below B1.out (by omega), Or.inl rfl⟩
  · have te : (de == 0) = false := by simpa using ke
    have HX : Hid (R = (⟨L, last⟩, 0, de)) := HF.out de (HE.out.trans (if_pos ke)) ke
    have y0 := BX1.out.r0
    have y1 := BX1.out.r1
    have g0 := BX1.out.f0
    have g1 := BX1.out.f1
    clear ke HE
    go_wp2_with fail
    refine bodyPost_ret_by (v := .tuple #[.agg #[.slice A L.length c, .int .i64 last], .int .i64 0, .int .i64 de]) ?_ rfl ?_
    · rw [results_cell_tmp2 rfl]
      go_simp
    · rw [HX.out]
      exact ⟨_, rfl, stored_nodes N1.out (by omega) BX1.out.2.2, stored_below B1.out (by omega), Or.inl rfl⟩
end Go.Proofs.YtpihldcchjoinaaGreatDoor.W07
/-
  Layer 7 (tree), walks: the plain answers New and Move: what each returns, Move at every right tree; new memory may be laid, nothing that was there is changed.
-/
namespace Go.Proofs.YtpihldcchjoinaaGreatDoor.W07
open Go Go.RowKit Go.Proofs.YtpihldcchjoinaaGreatDoor.Strs Go.Proofs.YtpihldcchjoinaaGreatDoor.Recs Go.Proofs.YtpihldcchjoinaaGreatDoor.M07
open Go.Proofs.YtpihldcchjoinaaGreatDoor.M06 (Ent)
open Go.Proofs.YtpihldcchjoinaaGreatDoor.M03 (check)
open Go.Proofs.YtpihldcchjoinaaGreatDoor.W03 (refCheck_any)
open Go.Proofs.YtpihldcchjoinaaGreatDoor.Kit (ret_str ret_bool ret_int mk_of mk_bytes ba_ext below_draws on)

theorem set_heap {w : World} {p : Nat} {cur : Array Value} {t : TypeId} {fz : Nat × Nat} (h : w.heap[p]? = some (.cells cur t fz)) (j : Nat) (u : Value) : (w.setCell ⟨p, j, none⟩ u).heap[p]? = some (.cells (cur.setIfInBounds j u) t fz) := by
  obtain ⟨hlt, hk⟩ := Array.getElem?_eq_some_iff.1 h
  show (w.heap.modify p _)[p]? = _
  rw [Array.getElem?_eq_getElem (by rw [Array.size_modify]; exact hlt), Array.getElem_modify_self, hk]
  rfl
theorem set_size (w : World) (q : Addr) (u : Value) : (w.setCell q u).heap.size = w.heap.size := by show (w.heap.modify _ _).size = _; rw [Array.size_modify]
/-- a box of a node -/
def NodeBox (w : World) (p : Nat) (x : Nd) : Prop := w.heap[p]? = some (.cells #[.int .i64 x.num, .int .i64 x.up, .string ⟨x.name.toArray⟩, .int .i64 x.kind, .string ⟨x.data.toArray⟩] 77 (0, 0))
section
variable {w w' : World} {p : Nat} {x : Nd}
theorem NodeBox.lt (h : NodeBox w p x) : p < w.heap.size := (Array.getElem?_eq_some_iff.1 h).1
theorem NodeBox.below (h : NodeBox w p x) (hb : Below w.heap.size w w') : NodeBox w' p x := (hb.block _ h.lt).trans h
theorem NodeBox.alloc (h : NodeBox w p x) (o : Obj) : NodeBox (w.alloc o) p x := h.below ((Below.refl w.heap.size w).alloc (Nat.le_refl _) o)
theorem NodeBox.new (w : World) (x : Nd) : NodeBox (w.alloc (.cells #[.int .i64 x.num, .int .i64 x.up, .string ⟨x.name.toArray⟩, .int .i64 x.kind, .string ⟨x.data.toArray⟩] 77)) w.heap.size x := heap_top _ _
theorem NodeBox.c0 (h : NodeBox w p x) : w.cell? ⟨p, 0, none⟩ = some (.int .i64 x.num) := cell_of_row w _ 0 _ _ (0, 0) h
theorem NodeBox.c1 (h : NodeBox w p x) : w.cell? ⟨p, 1, none⟩ = some (.int .i64 x.up) := cell_of_row w _ 1 _ _ (0, 0) h
theorem NodeBox.c2 (h : NodeBox w p x) : w.cell? ⟨p, 2, none⟩ = some (.string ⟨x.name.toArray⟩) := cell_of_row w _ 2 _ _ (0, 0) h
theorem NodeBox.c3 (h : NodeBox w p x) : w.cell? ⟨p, 3, none⟩ = some (.int .i64 x.kind) := cell_of_row w _ 3 _ _ (0, 0) h
theorem NodeBox.c4 (h : NodeBox w p x) : w.cell? ⟨p, 4, none⟩ = some (.string ⟨x.data.toArray⟩) := cell_of_row w _ 4 _ _ (0, 0) h
theorem NodeBox.fr (h : NodeBox w p x) (j : Nat) : w.frozen? ⟨p, j, none⟩ = false := frozen_of_row w _ j _ _ h
theorem NodeBox.moved (h : NodeBox w p x) (d : Int) (a : ByteArray) : NodeBox ((w.setCell ⟨p, 1, none⟩ (.int .i64 d)).setCell ⟨p, 2, none⟩ (.string a)) p { x with up := d, name := a.data.toList } := by
  have h2 := set_heap (set_heap h 1 (.int .i64 d)) 2 (.string a)
  have e : (⟨a.data.toList.toArray⟩ : ByteArray) = a := mk_bytes a
  unfold NodeBox
  rw [h2]
  show some (Obj.cells #[.int .i64 x.num, .int .i64 d, .string a, .int .i64 x.kind, .string ⟨x.data.toArray⟩] _ _) = some (Obj.cells #[.int .i64 x.num, .int .i64 d, .string ⟨a.data.toList.toArray⟩, .int .i64 x.kind, .string ⟨x.data.toArray⟩] _ _)
  rw [e]
end
theorem Boxed.stored {w : World} {k : Nat} {v : Value} {last : Int} (h : Boxed w k v last) (u : Value) (l : Int) : Boxed ((w.setCell ⟨k, 0, none⟩ u).setCell ⟨k, 1, none⟩ (.int .i64 l)) k u l := by
  refine ⟨set_heap (set_heap h.1 0 u) 1 (.int .i64 l), ?_, by rw [set_size, set_size]; exact h.2.2⟩
  exact (Below.heap_setCell _ _ _ _ (by show k + 1 ≠ k; omega)).trans ((Below.heap_setCell _ _ _ _ (by show k + 1 ≠ k; omega)).trans h.2.1)
theorem cut_len (t : Tr) (d : Int) (s : Bytes) : (cut t d s).1.L.length ≤ t.L.length := by
  unfold cut
  split
  · exact Nat.le_refl _
  · split
    · exact Nat.le_refl _
    · split
      · exact Nat.le_refl _
      · exact List.length_filter_le _ _
theorem right_full {t : Tr} (h : Right t) : 0 < t.L.length := by
  obtain ⟨r, hr⟩ := h.root
  rw [hr]; simp

end Go.Proofs.YtpihldcchjoinaaGreatDoor.W07
/-
  Layer 7 (tree), a walk: the plain answer's New: a tree with Root alone, in new memory; nothing that was there is changed.
-/
namespace Go.Proofs.YtpihldcchjoinaaGreatDoor.W07
set_option maxRecDepth 100000
open Go Go.RowKit Go.Proofs.YtpihldcchjoinaaGreatDoor.Strs Go.Proofs.YtpihldcchjoinaaGreatDoor.Recs Go.Proofs.YtpihldcchjoinaaGreatDoor.M07
open Go.Proofs.YtpihldcchjoinaaGreatDoor.Kit (ret_str ret_bool ret_int mk_of mk_bytes ba_ext below_draws on)

/-- what a call returns that hands out a tree -/
def TreeNew (w : World) (t : Tr) (e : Ending) (w' : World) : Prop := ∃ u, e = .returned (.agg #[u, .int .i64 t.last]) ∧ Nodes w'.heap.size w' u t.L ∧ Below w.heap.size w w' ∧ ∃ g n c, u = .slice (some ⟨g, 0, none⟩) n c ∧ w.heap.size ≤ g
set_option maxHeartbeats 1000000 in
theorem refNew_any (w : World) : Calls Tryz.prog 25 #[] w (TreeNew w new) := by
  have HN : Hid (∀ W : World, Nodes (W.alloc (.cells #[.int .i64 1, .int .i64 1, .string ⟨#[]⟩, .int .i64 1, .string ⟨#[]⟩] 77)).heap.size (W.alloc (.cells #[.int .i64 1, .int .i64 1, .string ⟨#[]⟩, .int .i64 1, .string ⟨#[]⟩] 77)) (.slice (some ⟨W.heap.size, 0, none⟩) 1 1) new.L) := by
    show ∀ W : World, _
    intro W
    refine Recs.of_own nodeC_len rfl (base := W.heap.size) (e := 77) (n := 1) ⟨rfl, Or.inr ⟨W.heap.size, 1, #[.int .i64 1, .int .i64 1, .string ⟨#[]⟩, .int .i64 1, .string ⟨#[]⟩], rfl, Nat.le_refl _, heap_top _ _, Nat.le_refl _, by decide, rfl, rfl⟩⟩
  go_enter Tryz.func25, Tryz.ntmps25
  go_wp2_with fail
  refine bodyPost_ret_by (v := .agg #[.slice (some ⟨w.heap.size + 1, 0, none⟩) 1 1, .int .i64 1]) ?_ rfl ⟨_, rfl, ?_, below_two w _ _, _, _, _, rfl, by omega⟩
  · rw [results_cell_one rfl]
    go_simp
  · have h := HN.out (w.alloc (.cells #[.slice (some ⟨w.heap.size + 1, 0, none⟩) 1 1, .int .i64 1] 28))
    simp only [World.alloc_size] at h ⊢
    exact h
end Go.Proofs.YtpihldcchjoinaaGreatDoor.W07
/-
  Layer 7 (tree): what the laws ask of the program's calls, as one structure of contracts over any reading of a tree ('Trees'); and the laws' acts as records. No condition but those that each theorem bears.
-/
namespace Go.Proofs.YtpihldcchjoinaaGreatDoor.W07
open Go Go.RowKit Go.Proofs.YtpihldcchjoinaaGreatDoor.Strs Go.Proofs.YtpihldcchjoinaaGreatDoor.Recs Go.Proofs.YtpihldcchjoinaaGreatDoor.M07 Go.Proofs.YtpihldcchjoinaaGreatDoor.Range
open Go.Proofs.YtpihldcchjoinaaGreatDoor.M06 (Ent)
open Go.Proofs.YtpihldcchjoinaaGreatDoor.W06 (Ents HandsE)
open Go.Proofs.YtpihldcchjoinaaGreatDoor.Kit (ret_str ret_bool ret_int mk_of mk_bytes ba_ext below_draws on)

def Small (t : Tr) : Prop := t.L.length ≤ 1048576 ∧ t.last ≤ 1048576
/-- behind a call that may have written the tree of the blocks F: it reads as t', in blocks of F and new ones; no other block has turned -/
def Wrote (Rep : (Nat → Prop) → World → Value → Tr → Prop) (F : Nat → Prop) (v : Value) (t' : Tr) (w w' : World) : Prop := ∃ F', Rep F' w' v t' ∧ Turns F w w' ∧ ∀ k, F' k → F k ∨ w.heap.size ≤ k
/-- what a directory's List tells -/
def listed (t : Tr) (n : Int) : List Ent := if (nodeAt t.L n).kind = 1 then listDir t.L n else []
/-- entries are handed out that lie in the tree's blocks, or in new ones -/
def HandsIn (F : Nat → Prop) (w : World) (L : List Ent) (e : Ending) (w' : World) : Prop := ∃ v, e = .returned v ∧ Ents w'.heap.size w' v L ∧ (∀ b o n c, v = .slice (some ⟨b, o, none⟩) n c → F b ∨ w.heap.size ≤ b) ∧ Below w.heap.size w w'
/-- the contracts of the program's calls: Rep F w v t: in w the pointer v leads to a tree that reads as t and lies in the blocks of F -/
structure Trees (Rep : (Nat → Prop) → World → Value → Tr → Prop) : Prop where
  keep : ∀ {F w w' v t}, Rep F w v t → (∀ k, F k → w'.heap[k]? = w.heap[k]?) → w.heap.size ≤ w'.heap.size → Rep F w' v t
  low : ∀ {F w v t}, Rep F w v t → ∀ k, F k → k < w.heap.size
  right : ∀ {F w v t}, Rep F w v t → Right t
  new : ∀ w, Calls Tryz.prog 24 #[] w fun e w' => ∃ v F, e = .returned v ∧ Rep F w' v M07.new ∧ (∀ k, F k → w.heap.size ≤ k) ∧ Below w.heap.size w w'
  kind : ∀ {F w v t}, Rep F w v t → Small t → ∀ n : Int, Calls Tryz.prog 42 #[v, .int .i64 n] w fun e w' => e = .returned (.int .i64 (nodeAt t.L n).kind) ∧ Below w.heap.size w w'
  data : ∀ {F w v t}, Rep F w v t → Small t → ∀ n : Int, Calls Tryz.prog 43 #[v, .int .i64 n] w fun e w' => e = .returned (.string ⟨(nodeAt t.L n).data.toArray⟩) ∧ Below w.heap.size w w'
  up : ∀ {F w v t}, Rep F w v t → Small t → ∀ n : Int, Calls Tryz.prog 44 #[v, .int .i64 n] w fun e w' => e = .returned (.int .i64 (nodeAt t.L n).up) ∧ Below w.heap.size w w'
  len : ∀ {F w v t}, Rep F w v t → Small t → Calls Tryz.prog 40 #[v] w fun e w' => e = .returned (.int .i64 t.L.length) ∧ Below w.heap.size w w'
  lists : ∀ {F w v t}, Rep F w v t → Small t → ∀ n : Int, Calls Tryz.prog 47 #[v, .int .i64 n] w (HandsIn F w (listed t n))
  put : ∀ {F w v t}, Rep F w v t → Small t → ∀ (d : Int) (s : ByteArray) (kind : Int) (x : ByteArray), x.size ≤ maxLen → Calls Tryz.prog 26 #[v, .int .i64 d, .string s, .int .i64 kind, .string x] w fun e w' => e = .returned (.tuple #[.int .i64 (put t d s.data.toList kind x.data.toList).2.1, .int .i64 (put t d s.data.toList kind x.data.toList).2.2]) ∧ Wrote Rep F v (put t d s.data.toList kind x.data.toList).1 w w'
  set : ∀ {F w v t}, Rep F w v t → Small t → ∀ (n : Int) (x : ByteArray), x.size ≤ maxLen → Calls Tryz.prog 100 #[v, .int .i64 n, .string x] w fun e w' => e = .returned (.int .i64 (set t n x.data.toList).2) ∧ Wrote Rep F v (set t n x.data.toList).1 w w'
section
variable {Rep : (Nat → Prop) → World → Value → Tr → Prop} {F : Nat → Prop} {w w' : World} {v : Value} {t : Tr}
theorem Trees.list (C : Trees Rep) (h : Rep F w v t) (hs : Small t) (n : Int) : Calls Tryz.prog 47 #[v, .int .i64 n] w (HandsE w (listed t n)) :=
  (C.lists h hs n).mono fun _ _ ⟨u, he, hu, _, hb⟩ => ⟨u, he, hu, hb⟩
theorem Trees.below (C : Trees Rep) (h : Rep F w v t) (hb : Below w.heap.size w w') : Rep F w' v t := C.keep h (fun k hk => hb.block k (C.low h k hk)) hb.size
end

/-! acts -/
structure Ac where
  act : Int
  dir : Int
  to : Int
  name : Bytes
  alias : Bytes
  kind : Int
  data : Bytes
def actC (x : Ac) : List Value := [.int .i64 x.act, .int .i64 x.dir, .int .i64 x.to, strV x.name, strV x.alias, .int .i64 x.kind, strV x.data]
theorem actC_len (x : Ac) : (actC x).length = 7 := rfl
abbrev Acts (B : Nat) (w : World) (v : Value) (L : List Ac) : Prop := Recs actC 7 B w v L
theorem Acts.at_ {B : Nat} {w : World} {L : List Ac} {A : Option Addr} {n c : Nat} (h : Acts B w (.slice A n c) L) {k : Nat} (hk : k < n) : ∃ (b o : Nat) (hl : k < L.length), A = some ⟨b, o, none⟩ ∧ b < B ∧ w.cell? ⟨b, o + k * 7, none⟩ = some (.int .i64 (L[k]).act) ∧ w.cell? ⟨b, o + k * 7 + 1, none⟩ = some (.int .i64 (L[k]).dir) ∧ w.cell? ⟨b, o + k * 7 + 2, none⟩ = some (.int .i64 (L[k]).to) ∧ w.cell? ⟨b, o + k * 7 + 3, none⟩ = some (.string ⟨(L[k]).name.toArray⟩) ∧ w.cell? ⟨b, o + k * 7 + 4, none⟩ = some (.string ⟨(L[k]).alias.toArray⟩) ∧ w.cell? ⟨b, o + k * 7 + 5, none⟩ = some (.int .i64 (L[k]).kind) ∧ w.cell? ⟨b, o + k * 7 + 6, none⟩ = some (.string ⟨(L[k]).data.toArray⟩) := by
  obtain ⟨b, o, hl, rfl, hb, hc⟩ := Recs.flat_ h actC_len (by omega) hk
  exact ⟨b, o, hl, rfl, hb, hc 0 (by omega), hc 1 (by omega), hc 2 (by omega), hc 3 (by omega), hc 4 (by omega), hc 5 (by omega), hc 6 (by omega)⟩
def shortTo (l : List Ac) (k : Nat) : Prop := ∀ x ∈ l.take k, x.data.length ≤ 70000
theorem short_next {l : List Ac} {k : Nat} (hk : k < l.length) (h : shortTo l k) (h2 : (l[k]).data.length ≤ 70000) : shortTo l (k + 1) := by
  intro x hx
  rw [List.take_succ_eq_append_getElem hk] at hx
  rcases List.mem_append.1 hx with hx | hx
  · exact h x hx
  · rw [List.mem_singleton.1 hx]; exact h2
end Go.Proofs.YtpihldcchjoinaaGreatDoor.W07
/-
  Layer 8 (seek): what the laws ask of the program's calls, as a structure of contracts over any reading of a tree ('Seeks'); the laws' nodes as records, Few; what Made makes. No condition but those that each theorem bears.
-/
namespace Go.Proofs.YtpihldcchjoinaaGreatDoor.W08
set_option maxRecDepth 100000
open Go Go.RowKit Go.Proofs.YtpihldcchjoinaaGreatDoor.Strs Go.Proofs.YtpihldcchjoinaaGreatDoor.Recs Go.Proofs.YtpihldcchjoinaaGreatDoor.Range
open Go.Proofs.YtpihldcchjoinaaGreatDoor.M07 (Tr nodeAt inDir Right put put_right)
open Go.Proofs.YtpihldcchjoinaaGreatDoor.M08
open Go.Proofs.YtpihldcchjoinaaGreatDoor.W07 (Small Trees)
open Go.Proofs.YtpihldcchjoinaaGreatDoor.Kit (ret_str ret_bool ret_int mk_of mk_bytes ba_ext below_draws on)

abbrev Bytes := List UInt8
/-- a tree of few nodes, few bytes, names that may be -/
structure Good (t : Tr) : Prop where
  small : Small t
  fit : Fit t
  named : Named t
structure Seeks (Rep : (Nat → Prop) → World → Value → Tr → Prop) : Prop where
  find : ∀ {F w v t}, Rep F w v t → Good t → ∀ (p : ByteArray) (last : Bool), p.size ≤ 1048576 → Calls Tryz.prog 28 #[v, .string p, .bool last] w fun e w' => e = .returned (.tuple #[.int .i64 (M08.find t p.data.toList last).1, .int .i64 (M08.find t p.data.toList last).2]) ∧ Below w.heap.size w w'
  spot : ∀ {F w v t}, Rep F w v t → Good t → ∀ (p : ByteArray), p.size ≤ 1048576 → Calls Tryz.prog 123 #[v, .string p] w fun e w' => e = .returned (.tuple #[.int .i64 (spot t p.data.toList).1, .string ⟨(spot t p.data.toList).2.1.toArray⟩, .int .i64 (spot t p.data.toList).2.2]) ∧ Below w.heap.size w w'
  real : ∀ {F w v t}, Rep F w v t → Good t → ∀ (n : Int), Calls Tryz.prog 29 #[v, .int .i64 n] w fun e w' => e = .returned (.tuple #[.string ⟨(real t n).1.toArray⟩, .bool (real t n).2]) ∧ Below w.heap.size w w'
/-- the calls of a nil pointer -/
structure NoSeek : Prop where
  find : ∀ w (p : ByteArray) (last : Bool), Calls Tryz.prog 28 #[.pointer none, .string p, .bool last] w fun e w' => e = .returned (.tuple #[.int .i64 0, .int .i64 1]) ∧ Below w.heap.size w w'
  spot : ∀ w (p : ByteArray), Calls Tryz.prog 123 #[.pointer none, .string p] w fun e w' => e = .returned (.tuple #[.int .i64 0, .string ⟨#[]⟩, .int .i64 1]) ∧ Below w.heap.size w w'
  real : ∀ w (n : Int), Calls Tryz.prog 29 #[.pointer none, .int .i64 n] w fun e w' => e = .returned (.tuple #[.string ⟨#[]⟩, .bool false]) ∧ Below w.heap.size w w'

/-! the laws' nodes -/
structure Sn where
  inn : Int
  name : Bytes
  kind : Int
  data : Bytes
def snC (x : Sn) : List Value := [.int .i64 x.inn, strV x.name, .int .i64 x.kind, strV x.data]
theorem snC_len (x : Sn) : (snC x).length = 4 := rfl
abbrev Snodes (B : Nat) (w : World) (v : Value) (L : List Sn) : Prop := Recs snC 4 B w v L
theorem Snodes.at_ {B : Nat} {w : World} {L : List Sn} {A : Option Addr} {n c : Nat} (h : Snodes B w (.slice A n c) L) {k : Nat} (hk : k < n) : ∃ (b o : Nat) (hl : k < L.length), A = some ⟨b, o, none⟩ ∧ b < B ∧ w.cell? ⟨b, o + k * 4, none⟩ = some (.int .i64 (L[k]).inn) ∧ w.cell? ⟨b, o + k * 4 + 1, none⟩ = some (.string ⟨(L[k]).name.toArray⟩) ∧ w.cell? ⟨b, o + k * 4 + 2, none⟩ = some (.int .i64 (L[k]).kind) ∧ w.cell? ⟨b, o + k * 4 + 3, none⟩ = some (.string ⟨(L[k]).data.toArray⟩) := by
  obtain ⟨b, o, hl, rfl, hb, hc⟩ := Recs.flat_ h snC_len (by omega) hk
  exact ⟨b, o, hl, rfl, hb, hc 0 (by omega), hc 1 (by omega), hc 2 (by omega), hc 3 (by omega)⟩
def isFew (l : List Sn) : Bool := l.all (fun x => decide (x.data.length ≤ 2000)) && decide (l.length ≤ 60)
def fewTo (l : List Sn) (k : Nat) : Prop := ∀ x ∈ l.take k, x.data.length ≤ 2000
theorem few_next {l : List Sn} {k : Nat} (hk : k < l.length) (h : fewTo l k) (h2 : (l[k]).data.length ≤ 2000) : fewTo l (k + 1) := by
  intro x hx
  rw [List.take_succ_eq_append_getElem hk] at hx
  rcases List.mem_append.1 hx with hx | hx
  · exact h x hx
  · rw [List.mem_singleton.1 hx]; exact h2
theorem few_end {l : List Sn} {k : Nat} (hk : ¬ k < l.length) (h : fewTo l k) : isFew l = decide (l.length ≤ 60) := by
  unfold fewTo at h
  rw [List.take_of_length_le (by omega)] at h
  unfold isFew
  rw [List.all_eq_true.2 (fun x hx => by simpa using h x hx), Bool.true_and]
theorem few_no {l : List Sn} {k : Nat} (hk : k < l.length) (h2 : ¬ (l[k]).data.length ≤ 2000) : isFew l = false := by
  unfold isFew
  rw [Bool.and_eq_false_iff]
  left
  rw [List.all_eq_false]
  exact ⟨l[k], List.getElem_mem hk, by simpa using h2⟩
theorem few_is {l : List Sn} (h : isFew l = true) : (∀ x ∈ l, x.data.length ≤ 2000) ∧ l.length ≤ 60 := by
  unfold isFew at h
  simp only [Bool.and_eq_true, decide_eq_true_eq, List.all_eq_true] at h
  exact h
set_option maxHeartbeats 1000000 in
theorem few_any (v : Value) (L : List Sn) (B : Nat) (w : World) (h : Snodes B w v L) : Calls Tryz.prog 7 #[v] w fun e w' => e = .returned (.bool (isFew L)) ∧ w' = w := by
  have H := Lib.hid h
  obtain ⟨A, c, rfl, hA1, hA2⟩ := h.form
  unfold maxLen at hA2
  clear h
  generalize hm : L.length = m at *
  have HM := Lib.hid hm
  clear hm
  go_enter Tryz.func7, Tryz.ntmps7
  go_wp2_with fail
  go_loop [3] (fun i => ∃ k : Nat, k ≤ m ∧ i = .int .i64 k ∧ Hid (fewTo L k)) (fun i => m - (intOf i).toNat)
  case atStart => exact ⟨0, Nat.zero_le _, rfl, fun x hx => by simp at hx⟩
  case round =>
    obtain ⟨k, hk, rfl, hr⟩ := hrel
    by_cases hlt : k < m
    · obtain ⟨b, o, hl1, rfl, hbl, hc0, hc1, hc2, hc3⟩ := Snodes.at_ H.out hlt
      by_cases hd : (L[k]).data.length ≤ 2000
      · have HX := Lib.hid (few_next hl1 hr.out hd)
        have td : ((L[k]).data.length : Int) ≤ 2000 := by omega
        clear hd
        go_wp2_with fail
        go_round
        case rel => exact ⟨k + 1, by omega, by go_num, HX⟩
        case measure => simp [intOf]; omega
      · have HX := Lib.hid (few_no hl1 hd)
        have td : (2000 : Int) < ((L[k]).data.length : Int) := by omega
        clear hd
        go_wp2_with fail
        go_ret
        exact ⟨ret_bool HX.out.symm, rfl⟩
    · have HX := Lib.hid (few_end (by rw [HM.out]; exact hlt) hr.out)
      rw [HM.out] at HX
      go_wp2_with fail
      go_ret
      exact ⟨ret_bool (by rw [HX.out]; congr 1; simp; omega), rfl⟩

/-! what Made makes -/
def madeDir (nums : List Int) (inn : Int) : Int := if 0 ≤ inn ∧ inn < (nums.length : Int) then nums.getD inn.toNat 0 else 1
def madeOn (st : Tr × List Int) (x : Sn) : Tr × List Int := ((put st.1 (madeDir st.2 x.inn) x.name x.kind x.data).1, st.2 ++ [(put st.1 (madeDir st.2 x.inn) x.name x.kind x.data).2.1])
def made (l : List Sn) : Tr × List Int := l.foldl madeOn (M07.new, [])
theorem made_next {l : List Sn} {k : Nat} (hk : k < l.length) : made (l.take (k + 1)) = madeOn (made (l.take k)) l[k] := by
  unfold made
  rw [List.take_succ_eq_append_getElem hk, List.foldl_append]; rfl
theorem put_more (t : Tr) (d : Int) (s : Bytes) (k : Int) (x : Bytes) : (put t d s k x).1.L.length ≤ t.L.length + 1 ∧ (put t d s k x).1.last ≤ t.last + 1 ∧ t.last ≤ (put t d s k x).1.last := by
  unfold M07.put
  split
  · exact ⟨by show t.L.length ≤ _; omega, by show t.last ≤ _; omega, Int.le_refl _⟩
  · exact ⟨by show (t.L ++ _).length ≤ _; simp, by show t.last + 1 ≤ _; omega, by show t.last ≤ t.last + 1; omega⟩
structure MadeIs (t : Tr) (nums : List Int) (k : Nat) : Prop where
  right : Right t
  fit : Fit t
  named : Named t
  len : t.L.length ≤ k + 1
  last : t.last ≤ k + 1
  count : nums.length = k
theorem MadeIs.start : MadeIs M07.new [] 0 := ⟨M07.new_right, fit_new, named_new, by decide, by decide, rfl⟩
theorem MadeIs.next {t : Tr} {nums : List Int} {k : Nat} (h : MadeIs t nums k) (x : Sn) : MadeIs (madeOn (t, nums) x).1 (madeOn (t, nums) x).2 (k + 1) := by
  have := put_more t (madeDir nums x.inn) x.name x.kind x.data
  have h1 := h.len
  have h2 := h.last
  exact ⟨put_right h.right, fit_put h.fit _ _ _ _, named_put h.named _ _ _ _, by show (put t (madeDir nums x.inn) x.name x.kind x.data).1.L.length ≤ _; omega, by show (put t (madeDir nums x.inn) x.name x.kind x.data).1.last ≤ _; omega, by show (nums ++ [_]).length = _; rw [List.length_append, h.count]; rfl⟩
theorem made_is (l : List Sn) : ∀ k, k ≤ l.length → MadeIs (made (l.take k)).1 (made (l.take k)).2 k
  | 0, _ => by rw [List.take_zero]; exact MadeIs.start
  | k + 1, hk => by
    rw [made_next (by omega)]
    exact (made_is l k (by omega)).next _
theorem made_good {l : List Sn} (h : l.length ≤ 60) : Good (made l).1 ∧ Right (made l).1 := by
  have := made_is l l.length (Nat.le_refl _)
  rw [List.take_length] at this
  have h1 := this.len
  have h2 := this.last
  exact ⟨⟨⟨by omega, by omega⟩, this.fit, this.named⟩, this.right⟩
end Go.Proofs.YtpihldcchjoinaaGreatDoor.W08
/-
  Maps keyed by int whose elements are told by a function from the keys: what they hold, how many they are; look-up, store, delete, len, range at the operations; for every program. Plain lemmas on worlds; no condition but those that each theorem bears.
-/
namespace Go.Proofs.YtpihldcchjoinaaGreatDoor.Maps
open Go Go.RowKit Go.Maps Go.ChangeMaps Go.MapKept
open Go.WideElems (Fit rd rg pl rd_key rd_val rg_of)

/-- an element as it is -/
def hold (v : Value) : Option (DataW Value × List MemPlace) := some (.held v, [])
/-- in w the block b is a map that holds at each key what f tells; its entries are m -/
def MapIs (w : World) (P : Program) (k : TypeId) (b : Nat) (f : Int → Option Value) (m : Nat) : Prop :=
  ∃ l : List (Lit × DataW Value), w.ownsMap P k hold b m (.map l) ∧ l.length = m ∧ ∀ n v, f n = some v ↔ (Lit.int .i64 n, DataW.held v) ∈ l
def upd {α : Type} (f : Int → α) (n : Int) (x : α) : Int → α := fun m => if m = n then x else f m
theorem upd_here {α : Type} (f : Int → α) (n : Int) (x : α) : upd f n x n = x := by unfold upd; rw [if_pos rfl]
theorem upd_other {α : Type} (f : Int → α) {n m : Int} (x : α) (h : m ≠ n) : upd f n x m = f m := by unfold upd; rw [if_neg h]
section
variable {P : Program} {k t e : TypeId} {w w' : World} {b m : Nat} {f : Int → Option Value}
theorem exact_ {n : Nat} {l : List (Lit × DataW Value)} (h : w.ownsMap P k hold b n (.map l)) : w.ownsMap P k hold b l.length (.map l) := by
  obtain ⟨es, clock, hb, F, hs, hD⟩ := h
  refine ⟨es, clock, hb, F, ?_, hD⟩
  injection hD with hD
  rw [hD, length_sorted]; simp
theorem MapIs.keep (h : MapIs w P k b f m) (hb : w'.heap[b]? = w.heap[b]?) : MapIs w' P k b f m := by
  obtain ⟨l, ⟨es, clock, hb2, r⟩, h2⟩ := h
  exact ⟨l, ⟨es, clock, hb.trans hb2, r⟩, h2⟩
theorem MapIs.lt (h : MapIs w P k b f m) : b < w.heap.size := by obtain ⟨l, h, _⟩ := h; exact h.lt
theorem MapIs.alloc (h : MapIs w P k b f m) (o : Obj) : MapIs (w.alloc o) P k b f m := h.keep (Below.heap_alloc _ _ _ h.lt)
theorem MapIs.as {g : Int → Option Value} {n : Nat} (h : MapIs w P k b f m) (hf : ∀ i, f i = g i) (hn : m = n) : MapIs w P k b g n := by subst hn; obtain rfl : f = g := funext hf; exact h
theorem map_made (w : World) (P : Program) (k : TypeId) : MapIs (w.alloc (.map #[] 0)) P k w.heap.size (fun _ => none) 0 :=
  ⟨[], World.ownsMap_made _ _ _ _, rfl, fun n v => by simp⟩
/-- where the map lies there is a map -/
theorem MapIs.at_ (h : MapIs w P k b f m) : ∃ es clock, w.heap[b]? = some (.map es clock) := by
  obtain ⟨l, ⟨es, clock, hb2, r⟩, h2⟩ := h
  exact ⟨es, clock, hb2⟩
theorem MapIs.keys (h : MapIs w P k b f m) (hk : P.underlying k = some (.int .i64)) : ∃ l : List (Lit × DataW Value), l.length = m ∧ (∀ n v, f n = some v ↔ (Lit.int .i64 n, DataW.held v) ∈ l) ∧ l.Pairwise (fun p q => p.1 ≠ q.1) ∧ ∀ p ∈ l, ∃ n v, p = (Lit.int .i64 n, DataW.held v) ∧ (Lit.int .i64 n).wf = true := by
  obtain ⟨l, h, hl, hf⟩ := h
  obtain ⟨l', e, hp⟩ := h.tidy (int_keyed hk)
  injection e with e
  subst e
  refine ⟨l, hl, hf, hp, fun p hp => ?_⟩
  obtain ⟨es, clock, hb, F, hs, hD⟩ := h
  injection hD with hD
  rw [hD] at hp
  obtain ⟨x, hx, rfl⟩ := List.mem_map.1 (mem_sorted.1 hp)
  obtain ⟨y, hy⟩ := F.reads x hx
  rw [rg_of hy]
  obtain ⟨n, -, e2, hw⟩ := Maps.keyOf_int_inv hk (rd_key hy)
  obtain ⟨z, hz, e3⟩ := rd_val hy
  unfold hold at hz
  cases hz
  exact ⟨n, x.val, Prod.ext e2 e3, hw⟩
theorem MapIs.wf (h : MapIs w P k b f m) (hk : P.underlying k = some (.int .i64)) {n : Int} {v : Value} (hv : f n = some v) : (Lit.int .i64 n).wf = true := by
  obtain ⟨l, -, hf, -, hw⟩ := h.keys hk
  obtain ⟨n', v', e, hn⟩ := hw _ ((hf n v).1 hv)
  cases e
  exact hn
theorem nodup_sub {α : Type} [DecidableEq α] : ∀ {a b : List α}, a.Nodup → (∀ x ∈ a, x ∈ b) → a.length ≤ b.length
  | [], _, _, _ => Nat.zero_le _
  | x :: r, b, h, hs => by
    rw [List.nodup_cons] at h
    have hx := hs x List.mem_cons_self
    have h1 := nodup_sub (b := b.erase x) h.2 (fun y hy => (List.mem_erase_of_ne (fun e => h.1 (by rw [← e]; exact hy))).2 (hs y (List.mem_cons_of_mem _ hy)))
    rw [List.length_erase_of_mem hx] at h1
    have := List.length_pos_of_mem hx
    rw [List.length_cons]; omega
def numOf : Lit × DataW Value → Int | (.int _ n, _) => n | _ => 0
/-- two maps with one set of keys are of one size -/
theorem MapIs.one_size {w2 : World} {b2 m2 : Nat} {f2 : Int → Option Value} (h : MapIs w P k b f m) (h2 : MapIs w2 P k b2 f2 m2) (hk : P.underlying k = some (.int .i64)) (hs : ∀ n, (f n).isSome = true → (f2 n).isSome = true) : m ≤ m2 := by
  obtain ⟨l, hl, hf, hp, hw⟩ := h.keys hk
  obtain ⟨l2, hl2, hf2, hp2, hw2⟩ := h2.keys hk
  have hn : (l.map numOf).Nodup := by
    rw [List.Nodup, List.pairwise_map]
    refine List.Pairwise.imp_of_mem ?_ hp
    intro x y hx hy hne e
    obtain ⟨n, v, rfl, _⟩ := hw x hx
    obtain ⟨n', v', rfl, _⟩ := hw y hy
    exact hne (by show Lit.int .i64 n = Lit.int .i64 n'; rw [show n = n' from e])
  have := nodup_sub (b := l2.map numOf) hn (fun x hx => by
    obtain ⟨p, hp, rfl⟩ := List.mem_map.1 hx
    obtain ⟨n, v, rfl, _⟩ := hw p hp
    have h1 := hs n (by rw [(hf n v).2 hp]; rfl)
    obtain ⟨v2, hv2⟩ := Option.isSome_iff_exists.1 h1
    exact List.mem_map.2 ⟨_, (hf2 n v2).1 hv2, rfl⟩)
  simp only [List.length_map] at this
  omega

theorem MapIs.has_ {l : List (Lit × DataW Value)} (hown : w.ownsMap P k hold b m (.map l)) (hl : l.length = m) (hf : ∀ n v, f n = some v ↔ (Lit.int .i64 n, DataW.held v) ∈ l) (hk : P.underlying k = some (.int .i64)) (n : Int) : has (.map l) (.int .i64 n) = (f n).isSome := by
  obtain ⟨l2, hl2, hf2, hp2, hw2⟩ := MapIs.keys (f := f) (m := m) ⟨l, hown, hl, hf⟩ hk
  rw [has_eq]
  cases hv : f n with
  | none =>
    rw [List.any_eq_false.2 (fun p hp he => ?_)]; · rfl
    have e1 := WideAt.sameKey_eq he
    obtain ⟨es, clock, hb, F, hs, hD⟩ := hown
    injection hD with hD
    rw [hD] at hp
    obtain ⟨x, hx, rfl⟩ := List.mem_map.1 (mem_sorted.1 hp)
    obtain ⟨y, hy⟩ := F.reads x hx
    obtain ⟨q, hq, e3⟩ := rd_val hy
    unfold hold at hq
    cases hq
    have : f n = some x.val := by
      rw [hf, hD]
      refine mem_sorted.2 (List.mem_map.2 ⟨x, hx, ?_⟩)
      have e4 := rg_of hy
      rw [e4] at e1
      exact e4.trans (Prod.ext e1 e3)
    rw [hv] at this
    cases this
  | some u =>
    show _ = true
    exact List.any_eq_true.2 ⟨_, (hf n u).1 hv, WideAt.sameKey_self (by exact trivial)⟩
/-- 'm[k]' at whatever number -/
theorem MapIs.look (h : MapIs w P k b f m) (hk : P.underlying k = some (.int .i64)) (ht : P.underlying t = some (.map k e)) {z : Value} (hz : (zeroValue e).run P w = .ok z w) (n : Int) :
    (Instr.lookup t (.map (some b)) (.int .i64 n) false).run P w = .ok ((f n).getD z) w := by
  obtain ⟨l, ⟨es, clock, hb, F, hs, hD⟩, hl, hf⟩ := h
  injection hD with hD
  have hmem : ∀ x ∈ es.toList, ∃ j, x.key = .int .i64 j ∧ rg P k hold x = (Lit.int .i64 j, DataW.held x.val) := fun x hx => by
    obtain ⟨y, hy⟩ := F.reads x hx
    obtain ⟨j, e1, e2, hw⟩ := Maps.keyOf_int_inv hk (rd_key hy)
    obtain ⟨q, hq, e3⟩ := rd_val hy
    unfold hold at hq
    cases hq
    exact ⟨j, e1, (rg_of hy).trans (Prod.ext e2 e3)⟩
  have hc := run_checkKey (P := P) (w := w) (k := .int .i64 n) hk rfl
  rcases findNow_spec (d := .int .i64) (k := .int .i64 n) rfl es.toList 0 (fun x hx => by obtain ⟨j, e1, -⟩ := hmem x hx; rw [e1]; rfl) with ⟨h1, h2⟩ | ⟨j, e0, h1, h2, h3⟩
  · have h0 : f n = none := by
      cases hv : f n with
      | none => rfl
      | some v =>
        have := (hf n v).1 hv
        rw [hD] at this
        obtain ⟨x, hx, e⟩ := List.mem_map.1 (mem_sorted.1 this)
        obtain ⟨j, e1, e2⟩ := hmem x hx
        rw [e2] at e
        cases e
        exact absurd e1 (h2 x hx)
    rw [h0]
    simp [Instr.lookup, run_underlying ht, MapKept.run_getObj_map hb, hc, run_findKey hk h1, hz, Result.andThen]
  · have hm0 : e0 ∈ es.toList := List.mem_of_getElem? h2
    have h0 : f n = some e0.val := by
      obtain ⟨j', e1, e2⟩ := hmem e0 hm0
      rw [h3] at e1
      cases e1
      rw [hf, hD]
      exact mem_sorted.2 (List.mem_map.2 ⟨e0, hm0, e2⟩)
    rw [h0]
    simp [Instr.lookup, run_underlying ht, MapKept.run_getObj_map hb, hc, run_findKey hk h1, Result.andThen]
/-- 'm[k]' of a map that is nil is not asked for here. 'm[k] = v' -/
theorem MapIs.store (h : MapIs w P k b f m) (hk : P.underlying k = some (.int .i64)) (ht : P.underlying t = some (.map k e)) (hm : m < maxLen) {n : Int} (hn : (Lit.int .i64 n).wf = true) (v : Value) :
    ∃ w', (Instr.mapUpdate t (.map (some b)) (.int .i64 n) v).run P w = .ok () w' ∧ MapIs w' P k b (upd f n (some v)) (if (f n).isSome = true then m else m + 1) ∧ w.mapTurned w' b := by
  obtain ⟨l, hown, hl, hf⟩ := h
  have K := int_keyed hk
  have htd := hown.tidy K
  obtain ⟨w', hrun, hown', hturn⟩ := hown.store K ht hm (keyOf_int_mk hk hn) (d := .held v) (ps := []) rfl
  refine ⟨w', hrun, ?_, hturn⟩
  have hsz := size_put (k := Lit.int .i64 n) htd (DataW.held v)
  obtain ⟨l', hl'⟩ : ∃ l', (DataW.map l).put (.int .i64 n) (.held v) = .map l' := hown'.isMap
  have hl'' : l' = DataW.insert (Lit.int .i64 n, DataW.held v) (l.filter fun p => !p.1.sameKey (.int .i64 n)) := by
    have : (DataW.map l).put (.int .i64 n) (.held v) = .map (DataW.insert (Lit.int .i64 n, DataW.held v) (l.filter fun p => !p.1.sameKey (.int .i64 n))) := rfl
    rw [hl'] at this
    injection this
  rw [hl'] at hown' hsz
  have hhas := MapIs.has_ hown hl hf hk n
  rw [hhas] at hsz
  have hsz : l'.length = if (f n).isSome = true then m else m + 1 := by rw [← hl]; exact hsz
  refine ⟨l', by have := exact_ hown'; rw [hsz] at this; exact this, hsz, fun j u => ?_⟩
  rw [hl'', mem_insert_iff]
  unfold upd
  by_cases e1 : j = n
  · subst e1
    rw [if_pos rfl]
    constructor
    · intro e2; cases e2; exact Or.inl rfl
    · rintro (e2 | e2)
      · cases e2; rfl
      · have := (List.mem_filter.1 e2).2
        rw [WideAt.sameKey_self (by exact trivial)] at this
        cases this
  · rw [if_neg e1, hf]
    constructor
    · intro e2
      exact Or.inr (List.mem_filter.2 ⟨e2, by rw [sameKey_ne (by intro e3; cases e3; exact e1 rfl)]; rfl⟩)
    · rintro (e2 | e2)
      · cases e2; exact absurd rfl e1
      · exact (List.mem_filter.1 e2).1
/-- 'delete(m, k)' -/
theorem MapIs.drop (h : MapIs w P k b f m) (hk : P.underlying k = some (.int .i64)) (ht : P.underlying t = some (.map k e)) {n : Int} (hn : (Lit.int .i64 n).wf = true) (ty : TypeId) :
    ∃ w', (Builtin.delete_ #[t, k] ty #[.map (some b), .int .i64 n]).run P w = .ok (.tuple #[]) w' ∧ MapIs w' P k b (upd f n none) (if (f n).isSome = true then m - 1 else m) ∧ w.mapTurned w' b := by
  obtain ⟨l, hown, hl, hf⟩ := h
  have K := int_keyed hk
  have htd := hown.tidy K
  obtain ⟨w', hrun, hown', hturn⟩ := hown.drop K ht (keyOf_int_mk hk hn) ty
  refine ⟨w', hrun, ?_, hturn⟩
  have hsz := size_del (k := Lit.int .i64 n) htd
  rw [MapIs.has_ hown hl hf hk n] at hsz
  have hsz : (l.filter fun p => !p.1.sameKey (.int .i64 n)).length = if (f n).isSome = true then m - 1 else m := by
    have h1 : (l.filter fun p => !p.1.sameKey (.int .i64 n)).length + (if (f n).isSome = true then 1 else 0) = l.length := hsz
    split at h1 <;> rename_i h2 <;> simp only [h2, if_true, if_false, Bool.false_eq_true] <;> omega
  refine ⟨_, by have := exact_ (l := l.filter fun p => !p.1.sameKey (.int .i64 n)) hown'; rw [hsz] at this; exact this, hsz, fun j u => ?_⟩
  unfold upd
  by_cases e1 : j = n
  · subst e1
    rw [if_pos rfl]
    constructor
    · intro e2; cases e2
    · intro e2
      have := (List.mem_filter.1 e2).2
      rw [WideAt.sameKey_self (by exact trivial)] at this
      cases this
  · rw [if_neg e1, hf]
    constructor
    · intro e2
      exact List.mem_filter.2 ⟨e2, by rw [sameKey_ne (by intro e3; cases e3; exact e1 rfl)]; rfl⟩
    · intro e2; exact (List.mem_filter.1 e2).1
/-- 'len(m)' -/
theorem MapIs.len (h : MapIs w P k b f m) (ht : P.underlying t = some (.map k e)) (ty : TypeId) : (Builtin.len_ #[t] ty #[.map (some b)]).run P w = .ok (.int .i64 m) w := by
  obtain ⟨l, hown, hl, -⟩ := h
  have := hown.len ht ty
  rw [show Maps.size (.map l) = l.length from rfl, hl] at this
  exact this
/-- 'for k, v := range m' under way: left tells which numbers are still to come -/
def Going (w : World) (P : Program) (k : TypeId) (b r : Nat) (f : Int → Option Value) (m : Nat) (left : Int → Bool) (cnt : Nat) : Prop :=
  ∃ l lf, w.ranges P k hold b r m (.map l) lf cnt ∧ l.length = m ∧ (∀ n v, f n = some v ↔ (Lit.int .i64 n, DataW.held v) ∈ l) ∧ ∀ n, lf (.int .i64 n) = left n
theorem Going.is {r cnt : Nat} {left : Int → Bool} (h : Going w P k b r f m left cnt) : MapIs w P k b f m := by
  obtain ⟨l, lf, h1, h2, h3, h4⟩ := h
  exact ⟨l, h1.owns, h2, h3⟩
theorem Going.lt {r cnt : Nat} {left : Int → Bool} (h : Going w P k b r f m left cnt) : r < w.heap.size := by
  obtain ⟨l, lf, h1, h2, h3, h4⟩ := h
  exact h1.lt
theorem Going.keep {r cnt : Nat} {left : Int → Bool} (h : Going w P k b r f m left cnt) (hb : w'.heap[b]? = w.heap[b]?) (hr : w'.heap[r]? = w.heap[r]?) : Going w' P k b r f m left cnt := by
  obtain ⟨l, lf, ⟨es, clock, since, seen, c0, h1, F, hs, hD, h5, rest⟩, h2⟩ := h
  exact ⟨l, lf, ⟨es, clock, since, seen, c0, hb.trans h1, F, hs, hD, hr.trans h5, rest⟩, h2⟩
end
section
variable {P : Program} (w : World) {ops : Array Oper} {rest : List Oper} {o : Oper} {a : Act} {Q : Exit → Act → World → Prop}
theorem wpList_look (hg : o.guard = none) (m x : Operand) (t : TypeId) (hop : o.op = Op.lookup t m x false) (k e : TypeId) (hk : P.underlying k = some (.int .i64)) (ht : P.underlying t = some (.map k e))
    {z : Value} (hz : (zeroValue e).run P w = .ok z w) (b s : Nat) (f : Int → Option Value) (hm : a.eval m = .map (some b)) (h : MapIs w P k b f s) (n : Int) (hx : a.eval x = .int .i64 n) (v : Value) (hv : (f n).getD z = v)
    (hK : wpList P ops Q rest (a.put o.dst v) w) : wpList P ops Q (o :: rest) a w := by
  refine wpList_plain hg fun K' hK' => ?_
  have hrun := h.look hk ht hz n
  rw [hv] at hrun
  unfold Oper.wp
  simp [execOp, hop, hm, hx, hrun, Result.andThen]
  exact hK' _ _ hK
end
end Go.Proofs.YtpihldcchjoinaaGreatDoor.Maps
