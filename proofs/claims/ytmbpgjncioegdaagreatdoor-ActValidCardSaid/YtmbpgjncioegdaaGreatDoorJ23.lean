/-
  Texts joined, in build order, each with its own comment and its own conditions: W20Lives, W09More, W09Put, W07Lives, W07Goes.
-/
import Derived.Test.YtmbpgjncioegdaaGreatDoorJ22
import Derived.Test.YtmbpgjncioegdaaGreatDoorJ11
import Derived.Test.YtmbpgjncioegdaaGreatDoorJ15
import Derived.Test.YtmbpgjncioegdaaGreatDoorJ09
import Derived.Test.YtmbpgjncioegdaaGreatDoorJ05
import Derived.Test.YtmbpgjncioegdaaGreatDoorJ04
import Derived.Deep.RegionHeld3
/-
  Layer 20 (act), a walk of the law's own function lives over the contracts: it returns true. New memory is laid, nothing that was there is changed. The conditions stand in the statement.
-/
namespace Go.Proofs.YtmbpgjncioegdaaGreatDoor.W20
set_option maxRecDepth 100000
open Go Go.RowKit Go.Proofs.YtmbpgjncioegdaaGreatDoor.Strs Go.Proofs.YtmbpgjncioegdaaGreatDoor.Recs Go.Proofs.YtmbpgjncioegdaaGreatDoor.Range
open Go.Proofs.YtmbpgjncioegdaaGreatDoor.M07 (Tr nodeAt Right)
open Go.Proofs.YtmbpgjncioegdaaGreatDoor.M08 Go.Proofs.YtmbpgjncioegdaaGreatDoor.M09 Go.Proofs.YtmbpgjncioegdaaGreatDoor.M10 Go.Proofs.YtmbpgjncioegdaaGreatDoor.M20
open Go.Proofs.YtmbpgjncioegdaaGreatDoor.W07 (Small Trees Wrote)
open Go.Proofs.YtmbpgjncioegdaaGreatDoor.W09 (Tk tkC tkC_len Tasks Within)
open Go.Proofs.YtmbpgjncioegdaaGreatDoor.W10 (Applies)
open Go.Proofs.YtmbpgjncioegdaaGreatDoor.Kit (ret_str ret_bool ret_int mk_of mk_bytes ba_ext below_draws on)

def oneA : Tr := ⟨[⟨1, 1, [], 1, []⟩, ⟨2, 1, [97], 1, []⟩], 2⟩
def twoA : List Tk := [⟨1, [47, 97], []⟩, ⟨1, [47, 97], []⟩]
theorem do_dir {t : Tr} {p n : List UInt8} {d : Int} (h1 : M08.spot t p = (d, n, 0)) : doTask t 1 p [] = ((M07.put t d n 1 []).1, (M07.put t d n 1 []).2.2) := by
  unfold doTask putAt
  rw [if_pos rfl, h1, if_neg (fun e : (0 : Int) ≠ 0 => e rfl)]
theorem do_one : doTask M07.new 1 [47, 97] [] = (oneA, 0) := by
  rw [do_dir (d := 1) (n := [97]) (by
    unfold M08.spot
    rw [if_neg (by decide), if_neg (by decide), if_neg (by decide)]
    have hp : M04.parts [47, 97] = [[97]] := rfl
    simp only [hp, show ([[97]] : List (List UInt8)).dropLast = [] from rfl, go_nil]
    rfl)]
  rfl
theorem do_two : doTask oneA 1 [47, 97] [] = (oneA, 6) := by
  rw [do_dir (d := 1) (n := [97]) (by
    unfold M08.spot
    rw [if_neg (by decide), if_neg (by decide), if_neg (by decide)]
    have hp : M04.parts [47, 97] = [[97]] := rfl
    simp only [hp, show ([[97]] : List (List UInt8)).dropLast = [] from rfl, go_nil]
    rfl)]
  rfl
theorem may_two : may twoA = 0 := by decide +kernel
theorem valid_two : valid M07.new twoA = (1, 6) := by
  rw [valid_ok may_two]
  unfold twoA applyAll
  simp only [do_one]
  rw [if_neg (fun e : (0 : Int) ≠ 0 => e rfl)]
  unfold applyAll
  simp only [do_two]
  rw [if_pos (by decide)]
theorem texts_two : Texts twoA := by
  intro x hx
  rcases List.mem_cons.1 hx with rfl | hx
  · exact ⟨by decide, by decide⟩
  · rcases List.mem_cons.1 hx with rfl | hx
    · exact ⟨by decide, by decide⟩
    · cases hx
theorem new_in : Within M07.new 61 := W09.made_within (l := []) (by decide)
theorem tasks_new (w : World) (t : TypeId) (L : List Tk) (h : L.length ≤ maxLen) : Tasks (w.heap.size + 1) (w.alloc (.cells (L.flatMap tkC).toArray t)) (.slice (some ⟨w.heap.size, 0, none⟩) L.length L.length) L := by
  refine ⟨_, L.length, rfl, Nat.le_refl _, h, fun _ => ⟨_, rfl, Nat.lt_succ_self _, fun i hi j hj => ?_⟩⟩
  have hf := flat_at tkC_len L i hi j hj
  have hlt : j < (tkC L[i]).length := by rw [tkC_len]; exact hj
  rw [List.getElem?_eq_getElem hlt] at hf ⊢
  exact cells_new w (L.flatMap tkC) t (i * 3 + j) _ hf
set_option maxHeartbeats 4000000 in
theorem lives_over {Rep : Blocks → World → Value → Tr → Prop} (T : Trees Rep) (X : Applies Rep) (hfull : ∀ {F w v t}, Rep F w v t → ∃ a, v = .pointer (some a)) (w : World) : Calls Tryz.prog 9 #[] w fun e w' => e = .returned (.bool true) ∧ Below w.heap.size w w' := by
  have HN := Lib.hid (T.new w)
  go_enter Tryz.func9, Tryz.ntmps9
  go_wp2_with fail
  refine HN.out.mono ?_
  rintro e w1 ⟨v, F1, rfl, h1, hF1, hb1⟩
  obtain ⟨ad, rfl⟩ := hfull h1
  have HT := tasks_new w1 59 twoA (by decide)
  have hba := W07.below_one w1 (.cells #[.int .i64 1, .string ⟨#[47, 97]⟩, .string ⟨#[]⟩, .int .i64 1, .string ⟨#[47, 97]⟩, .string ⟨#[]⟩] 59)
  have hsz := World.size_alloc w1 (.cells #[.int .i64 1, .string ⟨#[47, 97]⟩, .string ⟨#[]⟩, .int .i64 1, .string ⟨#[47, 97]⟩, .string ⟨#[]⟩] 59)
  obtain ⟨w2, hw2⟩ : ∃ w2, w1.alloc (.cells #[.int .i64 1, .string ⟨#[47, 97]⟩, .string ⟨#[]⟩, .int .i64 1, .string ⟨#[47, 97]⟩, .string ⟨#[]⟩] 59) = w2 := ⟨_, rfl⟩
  have HT2 : Tasks (w1.heap.size + 1) w2 (.slice (some ⟨w1.heap.size, 0, none⟩) 2 2) twoA := by rw [← hw2]; exact HT
  rw [hw2] at hba hsz
  have HV := valid_any T X hfull (T.below h1 hba) 61 new_in (HT2.more (by omega)) (by decide) texts_two
  rw [valid_two] at HV
  have HV := Lib.hid HV
  have B2 := Lib.hid (on hb1 hba)
  clear HT HT2 hba hsz h1 hF1 hb1 HN
  go_wp2_with fail
  refine HV.out.mono ?_
  rintro e w3 ⟨rfl, hb3⟩
  have B3 := Lib.hid (on B2.out hb3)
  clear hb3
  go_wp2_with fail
  go_ret
  exact ⟨rfl, B3.out⟩
set_option maxHeartbeats 4000000 in
theorem actNone_over {Rep : Blocks → World → Value → Tr → Prop} (T : Trees Rep) (X : Applies Rep) (hfull : ∀ {F w v t}, Rep F w v t → ∃ a, v = .pointer (some a)) (w : World) (v : Value) (L : List Tk) (h : Tasks w.heap.size w v L) (j : Int) :
    Calls Tryz.prog 6 #[v, .int .i64 j] w fun e w' => e = .returned (.bool true) ∧ Below w.heap.size w w' := by
  obtain ⟨A, c, rfl, -, -⟩ := h.form
  clear h
  have H1 := Lib.hid (validNil_any w (.slice A L.length c))
  have H2 := Lib.hid (fun w' => runNil_any w' (.slice A L.length c))
  have H3 := Lib.hid (fun w' => afterNil_any w' (.slice A L.length c) j)
  have HL := Lib.hid (fun w' => lives_over T X hfull w')
  generalize L.length = q at *
  go_enter Tryz.func6, Tryz.ntmps6
  go_wp2_with fail
  refine H1.out.mono ?_
  rintro e w1 ⟨rfl, hb1⟩
  have B1 := Lib.hid hb1
  have H2 := Lib.hid (H2.out w1)
  clear hb1
  go_wp2_with fail
  refine H2.out.mono ?_
  rintro e w2 ⟨rfl, hb2⟩
  have B2 := Lib.hid (on B1.out hb2)
  have H3 := Lib.hid (H3.out w2)
  clear hb2
  go_wp2_with fail
  refine H3.out.mono ?_
  rintro e w3 ⟨rfl, hb3⟩
  have B3 := Lib.hid (on B2.out hb3)
  have HL := Lib.hid (HL.out w3)
  clear hb3
  go_wp2_with fail
  refine HL.out.mono ?_
  rintro e w4 ⟨rfl, hb4⟩
  have B4 := Lib.hid (on B3.out hb4)
  clear hb4
  go_wp2_with fail
  go_ret
  exact ⟨rfl, B4.out⟩
end Go.Proofs.YtmbpgjncioegdaaGreatDoor.W20
/-
  Layer 9 (posix), walks over the contracts: the laws PosixMoves and PosixNone: each returns true; nothing that was there is changed. The conditions stand in the statements.
-/
namespace Go.Proofs.YtmbpgjncioegdaaGreatDoor.W09
open Go Go.RowKit Go.Proofs.YtmbpgjncioegdaaGreatDoor.Strs Go.Proofs.YtmbpgjncioegdaaGreatDoor.Recs Go.Proofs.YtmbpgjncioegdaaGreatDoor.Range
open Go.Proofs.YtmbpgjncioegdaaGreatDoor.M07 (Tr Nd nodeAt inDir Right listDir)
open Go.Proofs.YtmbpgjncioegdaaGreatDoor.M08 Go.Proofs.YtmbpgjncioegdaaGreatDoor.M09
open Go.Proofs.YtmbpgjncioegdaaGreatDoor.W07 (Small Trees Wrote Nodes nodeV TreeBox heap_top)
open Go.Proofs.YtmbpgjncioegdaaGreatDoor.W08 (Sn Snodes snC snC_len isFew few_is made Seeks)
open Go.Proofs.YtmbpgjncioegdaaGreatDoor.Kit (ret_str ret_bool ret_int mk_of mk_bytes ba_ext below_draws on)

end Go.Proofs.YtmbpgjncioegdaaGreatDoor.W09
/-
  Layer 9 (posix), walks: the plain answers Put, Cut, Rename, Write, Do: each hands out a tree and an error's number; nothing that was there is changed. The conditions stand in the statements.
-/
namespace Go.Proofs.YtmbpgjncioegdaaGreatDoor.W09
set_option maxRecDepth 100000
open Go Go.RowKit Go.Proofs.YtmbpgjncioegdaaGreatDoor.Strs Go.Proofs.YtmbpgjncioegdaaGreatDoor.Recs Go.Proofs.YtmbpgjncioegdaaGreatDoor.Range
open Go.Proofs.YtmbpgjncioegdaaGreatDoor.M07 (Tr Nd nodeAt inDir Right listDir)
open Go.Proofs.YtmbpgjncioegdaaGreatDoor.M08 Go.Proofs.YtmbpgjncioegdaaGreatDoor.M09
open Go.Proofs.YtmbpgjncioegdaaGreatDoor.W07 (Nodes nodeV TreeBox heap_top boxed_new below_two TreeErr FromOr Off turns_box nodes_turns off_from stored_nodes stored_below right_full)
open Go.Proofs.YtmbpgjncioegdaaGreatDoor.Kit (ret_str ret_bool ret_int mk_of mk_bytes ba_ext below_draws on)

theorem off_nodes {F : Nat → Prop} {B : Nat} {w : World} {v : Value} {L : List Nd} (h : Nodes B w v L) (h0 : 0 < L.length) (hF : ∀ k, F k → B ≤ k) : Off F v := by
  obtain ⟨A, c, rfl, -, -⟩ := h.form
  obtain ⟨b, o, _, rfl, hb, _⟩ := W07.Nodes.at_ h h0
  intro b' o' n' c' e hk
  cases e
  have := hF _ hk
  omega
theorem FromOr.low {v u : Value} {S S' : Nat} (h : FromOr v S u) (hs : S' ≤ S) : FromOr v S' u := by
  rcases h with h | h | ⟨g, n, c, h, hg⟩
  · exact Or.inl h
  · exact Or.inr (Or.inl h)
  · exact Or.inr (Or.inr ⟨g, n, c, h, Nat.le_trans hs hg⟩)
/-- behind the store of a tree that a call handed out -/
theorem stored_out {w wj : World} {u vv : Value} {L : List Nd} {S q : Nat} (hv : Off (fun k => k = q) vv) (N : Nodes wj.heap.size wj u L) (hf : FromOr vv S u) (hS : q < S) (hq : w.heap.size ≤ q) (B : Below w.heap.size w wj) (a b : Value) :
    Nodes ((wj.setCell ⟨q, 0, none⟩ a).setCell ⟨q, 1, none⟩ b).heap.size ((wj.setCell ⟨q, 0, none⟩ a).setCell ⟨q, 1, none⟩ b) u L ∧ Below w.heap.size w ((wj.setCell ⟨q, 0, none⟩ a).setCell ⟨q, 1, none⟩ b) ∧ FromOr vv w.heap.size u := by
  have ht := turns_box wj q a b
  exact ⟨(nodes_turns N ht (off_from hv (fun k hk => by have : k = q := hk; omega) hf)).more ht.size, (B.setCell hq _).setCell hq _, FromOr.low hf (by omega)⟩
theorem out_of {v u : Value} {w W : World} {R : Tr × Int} {t' : Tr} {er : Int} (hR : R = (t', er)) (h : Nodes W.heap.size W u t'.L ∧ Below w.heap.size w W ∧ FromOr v w.heap.size u) : TreeErr v w R (.returned (.tuple #[.agg #[u, .int .i64 t'.last], .int .i64 er])) W := by
  subst hR
  exact ⟨u, rfl, h.1, h.2.1, h.2.2⟩
theorem out_all {v u : Value} {w W : World} {R Q : Tr × Int} (hR : R = Q) (h : Nodes W.heap.size W u Q.1.L ∧ Below w.heap.size w W ∧ FromOr v w.heap.size u) : TreeErr v w R (.returned (.tuple #[.agg #[u, .int .i64 Q.1.last], .int .i64 Q.2])) W := by
  subst hR
  exact ⟨u, rfl, h.1, h.2.1, h.2.2⟩
theorem two_keep {w2 w' w'' : World} {p : Nat} {a b : Value} (hp : p < w2.heap.size) (h : w'.cell? ⟨p, 0, none⟩ = some a ∧ w'.cell? ⟨p, 1, none⟩ = some b ∧ Below w2.heap.size w2 w') (hb : Below w'.heap.size w' w'') : w''.cell? ⟨p, 0, none⟩ = some a ∧ w''.cell? ⟨p, 1, none⟩ = some b ∧ Below w2.heap.size w2 w'' := by
  have hs := h.2.2.size
  exact ⟨(hb.cell (by show p < _; omega)).trans h.1, (hb.cell (by show p < _; omega)).trans h.2.1, on h.2.2 hb⟩
/-- what a plain tree is asked to be -/
structure Fits (t : Tr) (w : World) (u : Value) : Prop where
  fit : Fit t
  len : t.L.length ≤ 1048576
  some : 0 < t.L.length
  low : -1 ≤ t.last
  high : t.last ≤ 1048576
  nodes : Nodes w.heap.size w u t.L
set_option maxHeartbeats 4000000 in
theorem refPut9_any (t : Tr) (u : Value) (w : World) (hf : Fits t w u) (p : ByteArray) (kind : Int) (x : ByteArray) (hx : x.size ≤ maxLen) :
    Calls Tryz.prog 57 #[.agg #[u, .int .i64 t.last], .string p, .int .i64 kind, .string x] w (TreeErr u w (putAt t p.data.toList kind x.data.toList)) := by
  have HU := Lib.hid hf.nodes
  have HOFF : Hid (Off (fun k => k = w.heap.size + 1) u) := off_nodes hf.nodes hf.some (fun k hk => by have : k = w.heap.size + 1 := hk; omega)
  have hlen := hf.len
  have hsome := hf.some
  have hlow := hf.low
  have hhigh := hf.high
  have hfit := Lib.hid hf.fit
  obtain ⟨Au, cu, rfl, hu1, hu2⟩ := hf.nodes.form
  unfold maxLen at hu2
  obtain ⟨w1, hw1⟩ : ∃ w1 : World, (w.alloc (.cells #[.slice Au t.L.length cu, .int .i64 t.last] 30)).alloc (.cells #[.slice none 0 0, .int .i64 0] 30) = w1 := ⟨_, rfl⟩
  have B1 : Hid (Below w.heap.size w w1) := by show Below _ _ _; rw [← hw1]; exact below_two _ _ _
  have BX : Hid (W07.Boxed w1 w.heap.size (.slice Au t.L.length cu) t.last) := by show W07.Boxed _ _ _ _; rw [← hw1]; exact boxed_new _ _ _
  have t0 := BX.out.t0
  have t1 := BX.out.t1
  have HSP := Lib.hid (W08.refSpot_any t hfit.out hlen (.slice Au t.L.length cu) p w1 ((HU.out.below B1.out).more B1.out.size))
  have HX : Hid (putAt t p.data.toList kind x.data.toList = if (spot t p.data.toList).2.2 ≠ 0 then (t, (spot t p.data.toList).2.2) else ((M07.put t (spot t p.data.toList).1 (spot t p.data.toList).2.1 kind x.data.toList).1, (M07.put t (spot t p.data.toList).1 (spot t p.data.toList).2.1 kind x.data.toList).2.2)) := rfl
  generalize putAt t p.data.toList kind x.data.toList = R at *
  generalize spot t p.data.toList = G at *
  obtain ⟨gd, gs, ge⟩ := G
  obtain ⟨ds, hds⟩ : ∃ ds : ByteArray, ds.data.toList = gs := ⟨⟨gs.toArray⟩, rfl⟩
  subst hds
  rw [mk_bytes] at HSP
  have HPU := Lib.hid (fun (w' : World) (hb : Below w.heap.size w w') => W07.refPut_any (.slice Au t.L.length cu) t.L t.last gd kind ds x hx w' ((HU.out.below hb).more hb.size) (by omega) hsome hlow (by omega))
  clear hf
  go_enter Tryz.func57, Tryz.ntmps57
  go_wp2_with fail
  clear hw1
  refine HSP.out.mono ?_
  rintro e w2 ⟨rfl, hb⟩
  have B2 := Lib.hid (on B1.out hb)
  replace BX := Lib.hid (BX.out.below hb)
  clear hb t0 t1
  have t0 := BX.out.t0
  have t1 := BX.out.t1
  have r0 := BX.out.r0
  have r1 := BX.out.r1
  have f0 := BX.out.f0
  have f1 := BX.out.f1
  have hz := BX.out.2.2
  by_cases he : ge = 0
  · have te : (ge != 0) = false := by simp [he]
    replace HX : Hid (R = ((M07.put t gd ds.data.toList kind x.data.toList).1, (M07.put t gd ds.data.toList kind x.data.toList).2.2)) := HX.out.trans (if_neg (fun h => h he))
    have HPU := Lib.hid (HPU.out w2 B2.out)
    have hput : M07.put ⟨t.L, t.last⟩ gd ds.data.toList kind x.data.toList = M07.put t gd ds.data.toList kind x.data.toList := rfl
    rw [hput] at HPU
    generalize M07.put t gd ds.data.toList kind x.data.toList = Q at *
    clear he hput
    go_wp2_with fail
    refine HPU.out.mono ?_
    rintro e w3 ⟨u, rfl, hn, hb, hfo⟩
    obtain ⟨A9, c9, rfl, -, -⟩ := hn.form
    obtain ⟨w4, hw4⟩ : ∃ w4 : World, w3.alloc (.cells #[.slice A9 Q.1.L.length c9, .int .i64 Q.1.last] 30) = w4 := ⟨_, rfl⟩
    have ha : Below w3.heap.size w3 w4 := by rw [← hw4]; exact (Below.refl _ _).alloc (Nat.le_refl _) _
    have TB : Hid (TreeBox w4 w3.heap.size (.slice A9 Q.1.L.length c9) Q.1.last) := by show TreeBox _ _ _ _; rw [← hw4]; exact heap_top _ _
    have B4 := Lib.hid (on B2.out (on hb ha))
    have hS : w.heap.size + 1 < w2.heap.size := hz
    replace BX := Lib.hid (BX.out.below (on hb ha))
    have N9 := Lib.hid ((hn.below ha).more ha.size)
    have F9 := Lib.hid hfo
    clear hb ha hn hfo t0 t1 r0 r1 f0 f1 hz
    have t0 := BX.out.t0
    have t1 := BX.out.t1
    have r0 := BX.out.r0
    have r1 := BX.out.r1
    have f0 := BX.out.f0
    have f1 := BX.out.f1
    have hz := BX.out.2.2
    have x0 := TB.out.c0
    have x1 := TB.out.c1
    go_wp2_with fail
    clear hw4
    refine bodyPost_ret_by (v := .tuple #[.agg #[.slice A9 Q.1.L.length c9, .int .i64 Q.1.last], .int .i64 Q.2.2]) ?_ rfl ?_
    · rw [results_cell_tmp rfl]
      go_simp
    · exact out_of HX.out (stored_out HOFF.out N9.out F9.out hS (by omega) B4.out _ _)
  · have te : (ge != 0) = true := by simpa using he
    replace HX : Hid (R = (t, ge)) := HX.out.trans (if_pos he)
    clear he HPU
    go_wp2_with fail
    refine bodyPost_ret_by (v := .tuple #[.agg #[.slice Au t.L.length cu, .int .i64 t.last], .int .i64 ge]) ?_ rfl ?_
    · rw [results_cell_tmp rfl]
      go_simp
    · exact out_of HX.out ⟨stored_nodes (HU.out.below B2.out) (by omega) hz, stored_below B2.out (by omega), Or.inl rfl⟩
set_option maxHeartbeats 8000000 in
theorem refCut9_any (t : Tr) (u : Value) (w : World) (hf : Fits t w u) (p : ByteArray) (dir : Bool) :
    Calls Tryz.prog 58 #[.agg #[u, .int .i64 t.last], .string p, .bool dir] w (TreeErr u w (cutAt t p.data.toList dir)) := by
  have HU := Lib.hid hf.nodes
  have HOFF : Hid (Off (fun k => k = w.heap.size + 1) u) := off_nodes hf.nodes hf.some (fun k hk => by have : k = w.heap.size + 1 := hk; omega)
  have hlen := hf.len
  have hsome := hf.some
  have hlow := hf.low
  have hhigh := hf.high
  have hfit := Lib.hid hf.fit
  obtain ⟨Au, cu, rfl, hu1, hu2⟩ := hf.nodes.form
  unfold maxLen at hu2
  obtain ⟨w1, hw1⟩ : ∃ w1 : World, (w.alloc (.cells #[.slice Au t.L.length cu, .int .i64 t.last] 30)).alloc (.cells #[.slice none 0 0, .int .i64 0] 30) = w1 := ⟨_, rfl⟩
  have B1 : Hid (Below w.heap.size w w1) := by show Below _ _ _; rw [← hw1]; exact below_two _ _ _
  have BX : Hid (W07.Boxed w1 w.heap.size (.slice Au t.L.length cu) t.last) := by show W07.Boxed _ _ _ _; rw [← hw1]; exact boxed_new _ _ _
  have t0 := BX.out.t0
  have t1 := BX.out.t1
  have HSP := Lib.hid (W08.refSpot_any t hfit.out hlen (.slice Au t.L.length cu) p w1 ((HU.out.below B1.out).more B1.out.size))
  have HX : Hid (cutAt t p.data.toList dir = if (spot t p.data.toList).2.2 ≠ 0 then (t, (spot t p.data.toList).2.2) else if (nodeAt t.L (inDir t.L (spot t p.data.toList).1 (spot t p.data.toList).2.1)).kind = 0 then (t, 5) else if dir = true ∧ (nodeAt t.L (inDir t.L (spot t p.data.toList).1 (spot t p.data.toList).2.1)).kind ≠ 1 then (t, 7) else if dir = false ∧ (nodeAt t.L (inDir t.L (spot t p.data.toList).1 (spot t p.data.toList).2.1)).kind = 1 then (t, 8) else M07.cut t (spot t p.data.toList).1 (spot t p.data.toList).2.1) := rfl
  generalize cutAt t p.data.toList dir = R at *
  generalize spot t p.data.toList = G at *
  obtain ⟨gd, gs, ge⟩ := G
  obtain ⟨ds, hds⟩ : ∃ ds : ByteArray, ds.data.toList = gs := ⟨⟨gs.toArray⟩, rfl⟩
  subst hds
  rw [mk_bytes] at HSP
  have HIN := Lib.hid (fun (w' : World) (hb : Below w.heap.size w w') => W07.refIn_any (.slice Au t.L.length cu) t.L t.last gd ds w.heap.size w' (HU.out.below hb) hb.size (by omega))
  have HAT := Lib.hid (fun (n : Int) (w' : World) (hb : Below w.heap.size w w') => W07.refAt_any (.slice Au t.L.length cu) t.L t.last n w.heap.size w' (HU.out.below hb) hb.size (by omega))
  have HCU := Lib.hid (fun (w' : World) (hb : Below w.heap.size w w') => W07.refCut_any (.slice Au t.L.length cu) t.L t.last gd ds w' ((HU.out.below hb).more hb.size) (by omega))
  clear hf
  go_enter Tryz.func58, Tryz.ntmps58
  go_wp2_with fail
  clear hw1
  refine HSP.out.mono ?_
  rintro e w2 ⟨rfl, hb⟩
  have B2 := Lib.hid (on B1.out hb)
  replace BX := Lib.hid (BX.out.below hb)
  clear hb t0 t1
  have t0 := BX.out.t0
  have t1 := BX.out.t1
  have r0 := BX.out.r0
  have r1 := BX.out.r1
  have f0 := BX.out.f0
  have f1 := BX.out.f1
  have hz := BX.out.2.2
  by_cases he : ge = 0
  · have te : (ge != 0) = false := by simp [he]
    replace HX := Lib.hid (HX.out.trans (if_neg (fun h => h he)))
    replace HX : Hid (R = if (nodeAt t.L (inDir t.L gd ds.data.toList)).kind = 0 then (t, 5) else if dir = true ∧ (nodeAt t.L (inDir t.L gd ds.data.toList)).kind ≠ 1 then (t, 7) else if dir = false ∧ (nodeAt t.L (inDir t.L gd ds.data.toList)).kind = 1 then (t, 8) else M07.cut t gd ds.data.toList) := HX.out
    generalize inDir t.L gd ds.data.toList = n at *
    have HAT := Lib.hid (HAT.out n)
    generalize nodeAt t.L n = x at *
    have hfd := fun (w : World) => W07.field_kind x.num x.up ⟨x.name.toArray⟩ x.kind ⟨x.data.toArray⟩ w
    unfold nodeV at HAT
    have hp2 : w.heap.size < w2.heap.size := by omega
    clear he
    go_wp2_with fail
    go_region_held3 (fun w' => w'.cell? ⟨w.heap.size, 0, none⟩ = some (.slice Au t.L.length cu) ∧ w'.cell? ⟨w.heap.size, 1, none⟩ = some (.int .i64 t.last) ∧ Below w2.heap.size w2 w')
      (first | exact hS4 | exact hS3 | exact ⟨t0, t1, below_draws w2 1⟩ | go_keep)
      (first
        | (go_at_call 51; refine (HIN.out _ (on B2.out (below_draws w2 1))).mono ?_; rintro e w3 ⟨rfl, hb3⟩; have hS3 := two_keep (w' := w2.drewN 1) hp2 ⟨t0, t1, below_draws w2 1⟩ hb3; clear hb3)
        | (go_at_call 34; refine (HAT.out w3 (on B2.out hS3.2.2)).mono ?_; rintro e w4 ⟨rfl, hb4⟩; have hS4 := two_keep hp2 hS3 hb4; clear hb4))
    have B4 := Lib.hid (on B2.out hS4.2.2)
    replace BX := Lib.hid (BX.out.below hS4.2.2)
    clear t0 t1 r0 r1 f0 f1 hz hS3 hS4 HIN HAT
    have t0 := BX.out.t0
    have t1 := BX.out.t1
    have r0 := BX.out.r0
    have r1 := BX.out.r1
    have f0 := BX.out.f0
    have f1 := BX.out.f1
    have hz := BX.out.2.2
    by_cases h0 : x.kind = 0
    · have tk : (x.kind == 0) = true := by simp [h0]
      replace HX : Hid (R = (t, 5)) := HX.out.trans (if_pos h0)
      clear h0 HCU
      go_wp2_with fail
      refine bodyPost_ret_by (v := .tuple #[.agg #[.slice Au t.L.length cu, .int .i64 t.last], .int .i64 5]) ?_ rfl ?_
      · rw [results_cell_tmp rfl]
        go_simp
      · exact out_of HX.out ⟨stored_nodes (HU.out.below B4.out) (by omega) hz, stored_below B4.out (by omega), Or.inl rfl⟩
    · have tk : (x.kind == 0) = false := by simpa using h0
      replace HX := Lib.hid (HX.out.trans (if_neg h0))
      cases dir with
      | true =>
        by_cases h1 : x.kind = 1
        · have tk1 : (x.kind != 1) = false := by simp [h1]
          replace HX : Hid (R = M07.cut t gd ds.data.toList) := by have := HX.out; rw [if_neg (by simp [h1]), if_neg (by simp)] at this; exact this
          have HCU := Lib.hid (HCU.out w4 B4.out)
          have hcut : M07.cut ⟨t.L, t.last⟩ gd ds.data.toList = M07.cut t gd ds.data.toList := rfl
          rw [hcut] at HCU
          generalize M07.cut t gd ds.data.toList = Q at *
          clear h0 h1 hcut
          go_wp2_with fail
          refine HCU.out.mono ?_
          rintro e w5 ⟨u, rfl, hn, hb, hfo⟩
          obtain ⟨A9, c9, rfl, -, -⟩ := hn.form
          have B5 := Lib.hid (on B4.out hb)
          have hS : w.heap.size + 1 < w4.heap.size := hz
          replace BX := Lib.hid (BX.out.below hb)
          have N9 := Lib.hid hn
          have F9 := Lib.hid hfo
          clear hb hn hfo t0 t1 r0 r1 f0 f1 hz
          have t0 := BX.out.t0
          have t1 := BX.out.t1
          have r0 := BX.out.r0
          have r1 := BX.out.r1
          have f0 := BX.out.f0
          have f1 := BX.out.f1
          have hz := BX.out.2.2
          go_wp2_with fail
          refine bodyPost_ret_by (v := .tuple #[.agg #[.slice A9 Q.1.L.length c9, .int .i64 Q.1.last], .int .i64 Q.2]) ?_ rfl ?_
          · rw [results_cell_tmp rfl]
            go_simp
          · exact out_all HX.out (stored_out HOFF.out N9.out F9.out hS (by omega) B5.out _ _)
        · have tk1 : (x.kind != 1) = true := by simpa using h1
          replace HX : Hid (R = (t, 7)) := by have := HX.out; rw [if_pos (show true = true ∧ x.kind ≠ 1 from ⟨rfl, h1⟩)] at this; exact this
          clear h0 h1 HCU
          go_wp2_with fail
          refine bodyPost_ret_by (v := .tuple #[.agg #[.slice Au t.L.length cu, .int .i64 t.last], .int .i64 7]) ?_ rfl ?_
          · rw [results_cell_tmp rfl]
            go_simp
          · exact out_of HX.out ⟨stored_nodes (HU.out.below B4.out) (by omega) hz, stored_below B4.out (by omega), Or.inl rfl⟩
      | false =>
        by_cases h1 : x.kind = 1
        · have tk1 : (x.kind == 1) = true := by simp [h1]
          replace HX : Hid (R = (t, 8)) := by have := HX.out; rw [if_neg (by simp), if_pos (show false = false ∧ x.kind = 1 from ⟨rfl, h1⟩)] at this; exact this
          clear h0 h1 HCU
          go_wp2_with fail
          refine bodyPost_ret_by (v := .tuple #[.agg #[.slice Au t.L.length cu, .int .i64 t.last], .int .i64 8]) ?_ rfl ?_
          · rw [results_cell_tmp rfl]
            go_simp
          · exact out_of HX.out ⟨stored_nodes (HU.out.below B4.out) (by omega) hz, stored_below B4.out (by omega), Or.inl rfl⟩
        · have tk1 : (x.kind == 1) = false := by simpa using h1
          replace HX : Hid (R = M07.cut t gd ds.data.toList) := by have := HX.out; rw [if_neg (by simp), if_neg (by simp [h1])] at this; exact this
          have HCU := Lib.hid (HCU.out w4 B4.out)
          have hcut : M07.cut ⟨t.L, t.last⟩ gd ds.data.toList = M07.cut t gd ds.data.toList := rfl
          rw [hcut] at HCU
          generalize M07.cut t gd ds.data.toList = Q at *
          clear h0 h1 hcut
          go_wp2_with fail
          refine HCU.out.mono ?_
          rintro e w5 ⟨u, rfl, hn, hb, hfo⟩
          obtain ⟨A9, c9, rfl, -, -⟩ := hn.form
          have B5 := Lib.hid (on B4.out hb)
          have hS : w.heap.size + 1 < w4.heap.size := hz
          replace BX := Lib.hid (BX.out.below hb)
          have N9 := Lib.hid hn
          have F9 := Lib.hid hfo
          clear hb hn hfo t0 t1 r0 r1 f0 f1 hz
          have t0 := BX.out.t0
          have t1 := BX.out.t1
          have r0 := BX.out.r0
          have r1 := BX.out.r1
          have f0 := BX.out.f0
          have f1 := BX.out.f1
          have hz := BX.out.2.2
          go_wp2_with fail
          refine bodyPost_ret_by (v := .tuple #[.agg #[.slice A9 Q.1.L.length c9, .int .i64 Q.1.last], .int .i64 Q.2]) ?_ rfl ?_
          · rw [results_cell_tmp rfl]
            go_simp
          · exact out_all HX.out (stored_out HOFF.out N9.out F9.out hS (by omega) B5.out _ _)
  · have te : (ge != 0) = true := by simpa using he
    replace HX : Hid (R = (t, ge)) := HX.out.trans (if_pos he)
    clear he HCU HIN HAT
    go_wp2_with fail
    refine bodyPost_ret_by (v := .tuple #[.agg #[.slice Au t.L.length cu, .int .i64 t.last], .int .i64 ge]) ?_ rfl ?_
    · rw [results_cell_tmp rfl]
      go_simp
    · exact out_of HX.out ⟨stored_nodes (HU.out.below B2.out) (by omega) hz, stored_below B2.out (by omega), Or.inl rfl⟩
set_option maxHeartbeats 8000000 in
theorem refRename9_any (t : Tr) (u : Value) (w : World) (hf : Fits t w u) (hR : Right t) (p q : ByteArray) :
    Calls Tryz.prog 59 #[.agg #[u, .int .i64 t.last], .string p, .string q] w (TreeErr u w (M09.rename t p.data.toList q.data.toList)) := by
  have HU := Lib.hid hf.nodes
  have HOFF : Hid (Off (fun k => k = w.heap.size + 1) u) := off_nodes hf.nodes hf.some (fun k hk => by have : k = w.heap.size + 1 := hk; omega)
  have hlen := hf.len
  have hsome := hf.some
  have hlow := hf.low
  have hhigh := hf.high
  have hfit := Lib.hid hf.fit
  obtain ⟨Au, cu, rfl, hu1, hu2⟩ := hf.nodes.form
  unfold maxLen at hu2
  obtain ⟨w1, hw1⟩ : ∃ w1 : World, (w.alloc (.cells #[.slice Au t.L.length cu, .int .i64 t.last] 30)).alloc (.cells #[.slice none 0 0, .int .i64 0] 30) = w1 := ⟨_, rfl⟩
  have B1 : Hid (Below w.heap.size w w1) := by show Below _ _ _; rw [← hw1]; exact below_two _ _ _
  have BX : Hid (W07.Boxed w1 w.heap.size (.slice Au t.L.length cu) t.last) := by show W07.Boxed _ _ _ _; rw [← hw1]; exact boxed_new _ _ _
  have t0 := BX.out.t0
  have t1 := BX.out.t1
  have HSP := Lib.hid (W08.refSpot_any t hfit.out hlen (.slice Au t.L.length cu) p w1 ((HU.out.below B1.out).more B1.out.size))
  have HSQ := Lib.hid (fun (w' : World) (hb : Below w.heap.size w w') => W08.refSpot_any t hfit.out hlen (.slice Au t.L.length cu) q w' ((HU.out.below hb).more hb.size))
  have HX : Hid (M09.rename t p.data.toList q.data.toList = if (spot t p.data.toList).2.2 ≠ 0 then (t, (spot t p.data.toList).2.2) else if (spot t q.data.toList).2.2 ≠ 0 then (t, (spot t q.data.toList).2.2) else M07.move t (spot t p.data.toList).1 (spot t p.data.toList).2.1 (spot t q.data.toList).1 (spot t q.data.toList).2.1) := rfl
  generalize M09.rename t p.data.toList q.data.toList = R at *
  generalize spot t p.data.toList = G at *
  generalize spot t q.data.toList = G2 at *
  obtain ⟨gd, gs, ge⟩ := G
  obtain ⟨gd2, gs2, ge2⟩ := G2
  obtain ⟨ds, hds⟩ : ∃ ds : ByteArray, ds.data.toList = gs := ⟨⟨gs.toArray⟩, rfl⟩
  subst hds
  obtain ⟨ds2, hds2⟩ : ∃ ds : ByteArray, ds.data.toList = gs2 := ⟨⟨gs2.toArray⟩, rfl⟩
  subst hds2
  rw [mk_bytes] at HSP HSQ
  have HMV := Lib.hid (fun (w' : World) (hb : Below w.heap.size w w') => W07.refMove_any (.slice Au t.L.length cu) t.L t.last gd ds gd2 ds2 w' ((HU.out.below hb).more hb.size) (by omega) hR)
  clear hf
  go_enter Tryz.func59, Tryz.ntmps59
  go_wp2_with fail
  clear hw1
  refine HSP.out.mono ?_
  rintro e w2 ⟨rfl, hb⟩
  have B2 := Lib.hid (on B1.out hb)
  replace BX := Lib.hid (BX.out.below hb)
  clear hb t0 t1
  have t0 := BX.out.t0
  have t1 := BX.out.t1
  have r0 := BX.out.r0
  have r1 := BX.out.r1
  have f0 := BX.out.f0
  have f1 := BX.out.f1
  have hz := BX.out.2.2
  by_cases he : ge = 0
  · have te : (ge != 0) = false := by simp [he]
    replace HX := Lib.hid (HX.out.trans (if_neg (fun h => h he)))
    have HSQ := Lib.hid (HSQ.out w2 B2.out)
    clear he r0 r1 f0 f1 hz
    go_wp2_with fail
    refine HSQ.out.mono ?_
    rintro e w3 ⟨rfl, hb⟩
    have B3 := Lib.hid (on B2.out hb)
    replace BX := Lib.hid (BX.out.below hb)
    clear hb t0 t1
    have t0 := BX.out.t0
    have t1 := BX.out.t1
    have r0 := BX.out.r0
    have r1 := BX.out.r1
    have f0 := BX.out.f0
    have f1 := BX.out.f1
    have hz := BX.out.2.2
    by_cases he2 : ge2 = 0
    · have te2 : (ge2 != 0) = false := by simp [he2]
      replace HX : Hid (R = M07.move t gd ds.data.toList gd2 ds2.data.toList) := HX.out.trans (if_neg (fun h => h he2))
      have HMV := Lib.hid (HMV.out w3 B3.out)
      have hmv : M07.move ⟨t.L, t.last⟩ gd ds.data.toList gd2 ds2.data.toList = M07.move t gd ds.data.toList gd2 ds2.data.toList := rfl
      rw [hmv] at HMV
      generalize M07.move t gd ds.data.toList gd2 ds2.data.toList = Q at *
      clear he2 hmv
      go_wp2_with fail
      refine HMV.out.mono ?_
      rintro e w4 ⟨u, rfl, hn, hb, hfo⟩
      obtain ⟨A9, c9, rfl, -, -⟩ := hn.form
      have B4 := Lib.hid (on B3.out hb)
      have hS : w.heap.size + 1 < w3.heap.size := hz
      replace BX := Lib.hid (BX.out.below hb)
      have N9 := Lib.hid hn
      have F9 := Lib.hid hfo
      clear hb hn hfo t0 t1 r0 r1 f0 f1 hz
      have t0 := BX.out.t0
      have t1 := BX.out.t1
      have r0 := BX.out.r0
      have r1 := BX.out.r1
      have f0 := BX.out.f0
      have f1 := BX.out.f1
      have hz := BX.out.2.2
      go_wp2_with fail
      refine bodyPost_ret_by (v := .tuple #[.agg #[.slice A9 Q.1.L.length c9, .int .i64 Q.1.last], .int .i64 Q.2]) ?_ rfl ?_
      · rw [results_cell_tmp rfl]
        go_simp
      · exact out_all HX.out (stored_out HOFF.out N9.out F9.out hS (by omega) B4.out _ _)
    · have te2 : (ge2 != 0) = true := by simpa using he2
      replace HX : Hid (R = (t, ge2)) := HX.out.trans (if_pos he2)
      clear he2 HMV
      go_wp2_with fail
      refine bodyPost_ret_by (v := .tuple #[.agg #[.slice Au t.L.length cu, .int .i64 t.last], .int .i64 ge2]) ?_ rfl ?_
      · rw [results_cell_tmp rfl]
        go_simp
      · exact out_of HX.out ⟨stored_nodes (HU.out.below B3.out) (by omega) hz, stored_below B3.out (by omega), Or.inl rfl⟩
  · have te : (ge != 0) = true := by simpa using he
    replace HX : Hid (R = (t, ge)) := HX.out.trans (if_pos he)
    clear he HMV HSQ
    go_wp2_with fail
    refine bodyPost_ret_by (v := .tuple #[.agg #[.slice Au t.L.length cu, .int .i64 t.last], .int .i64 ge]) ?_ rfl ?_
    · rw [results_cell_tmp rfl]
      go_simp
    · exact out_of HX.out ⟨stored_nodes (HU.out.below B2.out) (by omega) hz, stored_below B2.out (by omega), Or.inl rfl⟩
set_option maxHeartbeats 8000000 in
theorem refWrite9_any (t : Tr) (u : Value) (w : World) (hf : Fits t w u) (p x : ByteArray) (hx : x.size ≤ maxLen) :
    Calls Tryz.prog 60 #[.agg #[u, .int .i64 t.last], .string p, .string x] w (TreeErr u w (M09.write t p.data.toList x.data.toList)) := by
  have HU := Lib.hid hf.nodes
  have HOFF : Hid (Off (fun k => k = w.heap.size + 1) u) := off_nodes hf.nodes hf.some (fun k hk => by have : k = w.heap.size + 1 := hk; omega)
  have hlen := hf.len
  have hsome := hf.some
  have hlow := hf.low
  have hhigh := hf.high
  have hfit := Lib.hid hf.fit
  obtain ⟨Au, cu, rfl, hu1, hu2⟩ := hf.nodes.form
  unfold maxLen at hu2
  obtain ⟨w1, hw1⟩ : ∃ w1 : World, (w.alloc (.cells #[.slice Au t.L.length cu, .int .i64 t.last] 30)).alloc (.cells #[.slice none 0 0, .int .i64 0] 30) = w1 := ⟨_, rfl⟩
  have B1 : Hid (Below w.heap.size w w1) := by show Below _ _ _; rw [← hw1]; exact below_two _ _ _
  have BX : Hid (W07.Boxed w1 w.heap.size (.slice Au t.L.length cu) t.last) := by show W07.Boxed _ _ _ _; rw [← hw1]; exact boxed_new _ _ _
  have t0 := BX.out.t0
  have t1 := BX.out.t1
  have HFD := Lib.hid (W08.refFind_any t hfit.out hlen (.slice Au t.L.length cu) p true w1 ((HU.out.below B1.out).more B1.out.size))
  have HSP := Lib.hid (fun (w' : World) (hb : Below w.heap.size w w') => W08.refSpot_any t hfit.out hlen (.slice Au t.L.length cu) p w' ((HU.out.below hb).more hb.size))
  have HPU := Lib.hid (fun (w' : World) (hb : Below w.heap.size w w') => refPut9_any t (.slice Au t.L.length cu) w' ⟨hfit.out, hlen, hsome, hlow, hhigh, (HU.out.below hb).more hb.size⟩ p 2 x hx)
  have HX : Hid (M09.write t p.data.toList x.data.toList = if (find t p.data.toList true).2 = 0 then M07.set t (find t p.data.toList true).1 x.data.toList else if (find t p.data.toList true).2 ≠ 5 then (t, (find t p.data.toList true).2) else if (spot t p.data.toList).2.2 ≠ 0 then (t, (spot t p.data.toList).2.2) else if 0 < inDir t.L (spot t p.data.toList).1 (spot t p.data.toList).2.1 then (t, 5) else putAt t p.data.toList 2 x.data.toList) := rfl
  generalize M09.write t p.data.toList x.data.toList = R at *
  generalize find t p.data.toList true = FD at *
  generalize spot t p.data.toList = G at *
  obtain ⟨fn, fe⟩ := FD
  obtain ⟨gd, gs, ge⟩ := G
  obtain ⟨ds, hds⟩ : ∃ ds : ByteArray, ds.data.toList = gs := ⟨⟨gs.toArray⟩, rfl⟩
  subst hds
  rw [mk_bytes] at HSP
  have HSE := Lib.hid (fun (w' : World) (hb : Below w.heap.size w w') => W07.refSet_any (.slice Au t.L.length cu) t.L t.last fn x hx w' ((HU.out.below hb).more hb.size) (by omega) hsome)
  have HIN := Lib.hid (fun (w' : World) (hb : Below w.heap.size w w') => W07.refIn_any (.slice Au t.L.length cu) t.L t.last gd ds w.heap.size w' (HU.out.below hb) hb.size (by omega))
  clear hf
  go_enter Tryz.func60, Tryz.ntmps60
  go_wp2_with fail
  clear hw1
  refine HFD.out.mono ?_
  rintro e w2 ⟨rfl, hb⟩
  have B2 := Lib.hid (on B1.out hb)
  replace BX := Lib.hid (BX.out.below hb)
  clear hb t0 t1
  have t0 := BX.out.t0
  have t1 := BX.out.t1
  have r0 := BX.out.r0
  have r1 := BX.out.r1
  have f0 := BX.out.f0
  have f1 := BX.out.f1
  have hz := BX.out.2.2
  by_cases he : fe = 0
  · have te : (fe == 0) = true := by simp [he]
    replace HX : Hid (R = M07.set t fn x.data.toList) := HX.out.trans (if_pos he)
    have HSE := Lib.hid (HSE.out w2 B2.out)
    have hse : M07.set ⟨t.L, t.last⟩ fn x.data.toList = M07.set t fn x.data.toList := rfl
    rw [hse] at HSE
    generalize M07.set t fn x.data.toList = Q at *
    clear he hse HPU HSP HIN
    go_wp2_with fail
    refine HSE.out.mono ?_
    rintro e w3 ⟨u, rfl, hn, hb, hfo⟩
    obtain ⟨A9, c9, rfl, -, -⟩ := hn.form
    have B3 := Lib.hid (on B2.out hb)
    have hS : w.heap.size + 1 < w2.heap.size := hz
    replace BX := Lib.hid (BX.out.below hb)
    have N9 := Lib.hid hn
    have F9 := Lib.hid hfo
    clear hb hn hfo t0 t1 r0 r1 f0 f1 hz
    have t0 := BX.out.t0
    have t1 := BX.out.t1
    have r0 := BX.out.r0
    have r1 := BX.out.r1
    have f0 := BX.out.f0
    have f1 := BX.out.f1
    have hz := BX.out.2.2
    go_wp2_with fail
    refine bodyPost_ret_by (v := .tuple #[.agg #[.slice A9 Q.1.L.length c9, .int .i64 Q.1.last], .int .i64 Q.2]) ?_ rfl ?_
    · rw [results_cell_tmp rfl]
      go_simp
    · exact out_all HX.out (stored_out HOFF.out N9.out F9.out hS (by omega) B3.out _ _)
  · have te : (fe == 0) = false := by simpa using he
    replace HX := Lib.hid (HX.out.trans (if_neg he))
    by_cases h5 : fe = 5
    · have t5 : (fe != 5) = false := by simp [h5]
      replace HX := Lib.hid (HX.out.trans (if_neg (fun h => h h5)))
      have HSP := Lib.hid (HSP.out w2 B2.out)
      clear he h5 r0 r1 f0 f1 hz HSE
      go_wp2_with fail
      refine HSP.out.mono ?_
      rintro e w3 ⟨rfl, hb⟩
      have B3 := Lib.hid (on B2.out hb)
      replace BX := Lib.hid (BX.out.below hb)
      clear hb t0 t1
      have t0 := BX.out.t0
      have t1 := BX.out.t1
      have r0 := BX.out.r0
      have r1 := BX.out.r1
      have f0 := BX.out.f0
      have f1 := BX.out.f1
      have hz := BX.out.2.2
      by_cases h6 : ge = 0
      · have t6 : (ge != 0) = false := by simp [h6]
        replace HX : Hid (R = if 0 < inDir t.L gd ds.data.toList then (t, 5) else putAt t p.data.toList 2 x.data.toList) := HX.out.trans (if_neg (fun h => h h6))
        have HIN := Lib.hid (HIN.out w3 B3.out)
        generalize inDir t.L gd ds.data.toList = n at *
        clear h6 r0 r1 f0 f1 hz
        go_wp2_with fail
        refine HIN.out.mono ?_
        rintro e w4 ⟨rfl, hb⟩
        have B4 := Lib.hid (on B3.out hb)
        replace BX := Lib.hid (BX.out.below hb)
        clear hb t0 t1
        have t0 := BX.out.t0
        have t1 := BX.out.t1
        have r0 := BX.out.r0
        have r1 := BX.out.r1
        have f0 := BX.out.f0
        have f1 := BX.out.f1
        have hz := BX.out.2.2
        by_cases h7 : 0 < n
        · replace HX : Hid (R = (t, 5)) := HX.out.trans (if_pos h7)
          clear HPU
          go_wp2_with fail
          refine bodyPost_ret_by (v := .tuple #[.agg #[.slice Au t.L.length cu, .int .i64 t.last], .int .i64 5]) ?_ rfl ?_
          · rw [results_cell_tmp rfl]
            go_simp
          · exact out_of HX.out ⟨stored_nodes (HU.out.below B4.out) (by omega) hz, stored_below B4.out (by omega), Or.inl rfl⟩
        · replace HX : Hid (R = putAt t p.data.toList 2 x.data.toList) := HX.out.trans (if_neg h7)
          have HPU := Lib.hid (HPU.out w4 B4.out)
          generalize putAt t p.data.toList 2 x.data.toList = Q at *
          go_wp2_with fail
          refine HPU.out.mono ?_
          rintro e w5 ⟨u, rfl, hn, hb, hfo⟩
          obtain ⟨A9, c9, rfl, -, -⟩ := hn.form
          have B5 := Lib.hid (on B4.out hb)
          have hS : w.heap.size + 1 < w4.heap.size := hz
          replace BX := Lib.hid (BX.out.below hb)
          have N9 := Lib.hid hn
          have F9 := Lib.hid hfo
          clear hb hn hfo t0 t1 r0 r1 f0 f1 hz
          have t0 := BX.out.t0
          have t1 := BX.out.t1
          have r0 := BX.out.r0
          have r1 := BX.out.r1
          have f0 := BX.out.f0
          have f1 := BX.out.f1
          have hz := BX.out.2.2
          go_wp2_with fail
          refine bodyPost_ret_by (v := .tuple #[.agg #[.slice A9 Q.1.L.length c9, .int .i64 Q.1.last], .int .i64 Q.2]) ?_ rfl ?_
          · rw [results_cell_tmp rfl]
            go_simp
          · exact out_all HX.out (stored_out HOFF.out N9.out F9.out hS (by omega) B5.out _ _)
      · have t6 : (ge != 0) = true := by simpa using h6
        replace HX : Hid (R = (t, ge)) := HX.out.trans (if_pos h6)
        clear h6 HPU HIN
        go_wp2_with fail
        refine bodyPost_ret_by (v := .tuple #[.agg #[.slice Au t.L.length cu, .int .i64 t.last], .int .i64 ge]) ?_ rfl ?_
        · rw [results_cell_tmp rfl]
          go_simp
        · exact out_of HX.out ⟨stored_nodes (HU.out.below B3.out) (by omega) hz, stored_below B3.out (by omega), Or.inl rfl⟩
    · have t5 : (fe != 5) = true := by simpa using h5
      replace HX : Hid (R = (t, fe)) := HX.out.trans (if_pos h5)
      clear he h5 HPU HIN HSP HSE
      go_wp2_with fail
      refine bodyPost_ret_by (v := .tuple #[.agg #[.slice Au t.L.length cu, .int .i64 t.last], .int .i64 fe]) ?_ rfl ?_
      · rw [results_cell_tmp rfl]
        go_simp
      · exact out_of HX.out ⟨stored_nodes (HU.out.below B2.out) (by omega) hz, stored_below B2.out (by omega), Or.inl rfl⟩
/-- the three boxes that Do lays at its start -/
def boxes9 (w : World) (v : Value) (last k : Int) (p x : ByteArray) : World := ((w.alloc (.cells #[v, .int .i64 last] 30)).alloc (.cells #[.int .i64 k, .string p, .string x] 59)).alloc (.cells #[.slice none 0 0, .int .i64 0] 30)
theorem boxes9_lie (w : World) (v : Value) (last k : Int) (p x : ByteArray) :
    TreeBox (boxes9 w v last k p x) w.heap.size v last ∧ TaskBox (boxes9 w v last k p x) (w.heap.size + 1) k p x ∧ TreeBox (boxes9 w v last k p x) (w.heap.size + 1 + 1) (.slice none 0 0) 0 ∧ Below w.heap.size w (boxes9 w v last k p x) :=
  ⟨W07.heap_three_a _ _ _ _, W07.heap_three_b _ _ _ _, W07.heap_three_c _ _ _ _, (((Below.refl _ w).alloc (Nat.le_refl _) _).alloc (by rw [World.alloc_size]; omega) _).alloc (by rw [World.alloc_size, World.alloc_size]; omega) _⟩
set_option maxHeartbeats 8000000 in
theorem refDo9_any (t : Tr) (u : Value) (w : World) (hf : Fits t w u) (hR : Right t) (k : Int) (p x : ByteArray) (hx : x.size ≤ maxLen) :
    Calls Tryz.prog 32 #[.agg #[u, .int .i64 t.last], .agg #[.int .i64 k, .string p, .string x]] w (TreeErr u w (doTask t k p.data.toList x.data.toList)) := by
  have HU := Lib.hid hf.nodes
  have HOFF : Hid (Off (fun k => k = w.heap.size + 2) u) := off_nodes hf.nodes hf.some (fun k hk => by have : k = w.heap.size + 2 := hk; omega)
  have hlen := hf.len
  have hsome := hf.some
  have hlow := hf.low
  have hhigh := hf.high
  have hfit := Lib.hid hf.fit
  obtain ⟨Au, cu, rfl, hu1, hu2⟩ := hf.nodes.form
  unfold maxLen at hu2
  obtain ⟨w1, hw1⟩ : ∃ w1 : World, boxes9 w (.slice Au t.L.length cu) t.last k p x = w1 := ⟨_, rfl⟩
  have hbx := boxes9_lie w (.slice Au t.L.length cu) t.last k p x
  rw [hw1] at hbx
  obtain ⟨tb, kb, rb, b1⟩ := hbx
  unfold boxes9 at hw1
  have TB := Lib.hid tb
  have KB := Lib.hid kb
  have RB := Lib.hid rb
  have B1 := Lib.hid b1
  have hz := rb.lt
  have HF1 : Hid (Fits t w1 (.slice Au t.L.length cu)) := ⟨hf.fit, hf.len, hf.some, hf.low, hf.high, (HU.out.below b1).more b1.size⟩
  have t0 := tb.c0
  have t1 := tb.c1
  have k0 := kb.c0
  have k1 := kb.c1
  have k2 := kb.c2
  have r0 := rb.c0
  have r1 := rb.c1
  have f0 := rb.fr 0
  have f1 := rb.fr 1
  have HX : Hid (doTask t k p.data.toList x.data.toList = if k = 1 then putAt t p.data.toList 1 [] else if k = 2 then cutAt t p.data.toList true else if k = 3 then putAt t p.data.toList 3 x.data.toList else if k = 4 then cutAt t p.data.toList false else if k = 5 then M09.rename t p.data.toList x.data.toList else if k = 6 then M09.write t p.data.toList x.data.toList else (t, 2)) := rfl
  generalize doTask t k p.data.toList x.data.toList = R at *
  clear tb kb rb b1 hf
  by_cases h1 : k = 1
  · have tk : (k == 1) = true := by simp [h1]
    replace HX : Hid (R = putAt t p.data.toList 1 []) := HX.out.trans (if_pos h1)
    have HC := refPut9_any t _ w1 HF1.out p 1 ⟨#[]⟩ (by decide)
    rw [show (⟨#[]⟩ : ByteArray).data.toList = [] from rfl] at HC
    have HC := Lib.hid HC
    generalize putAt t p.data.toList 1 [] = Q at *
    clear h1 HF1
    go_enter Tryz.func32, Tryz.ntmps32
    go_wp2_with fail
    clear hw1
    refine HC.out.mono ?_
    rintro e w2 ⟨u, rfl, hn, hb, hfo⟩
    obtain ⟨A9, c9, rfl, -, -⟩ := hn.form
    have B2 := Lib.hid (on B1.out hb)
    have rb := RB.out.below hb
    have N9 := Lib.hid hn
    have F9 := Lib.hid hfo
    clear hb hn hfo t0 t1 r0 r1 f0 f1
    have r0 := rb.c0
    have r1 := rb.c1
    have f0 := rb.fr 0
    have f1 := rb.fr 1
    go_wp2_with fail
    refine bodyPost_ret_by (v := .tuple #[.agg #[.slice A9 Q.1.L.length c9, .int .i64 Q.1.last], .int .i64 Q.2]) ?_ rfl ?_
    · rw [results_cell_tmp rfl]
      go_simp
    · exact out_all HX.out (stored_out HOFF.out N9.out F9.out hz (by omega) B2.out _ _)
  · have tk1 : (k == 1) = false := by simpa using h1
    replace HX := Lib.hid (HX.out.trans (if_neg h1))
    clear h1
    by_cases h2 : k = 2
    · have tk : (k == 2) = true := by simp [h2]
      replace HX : Hid (R = cutAt t p.data.toList true) := HX.out.trans (if_pos h2)
      have HC := refCut9_any t _ w1 HF1.out p true
      have HC := Lib.hid HC
      generalize cutAt t p.data.toList true = Q at *
      clear h2 HF1
      go_enter Tryz.func32, Tryz.ntmps32
      go_wp2_with fail
      clear hw1
      refine HC.out.mono ?_
      rintro e w2 ⟨u, rfl, hn, hb, hfo⟩
      obtain ⟨A9, c9, rfl, -, -⟩ := hn.form
      have B2 := Lib.hid (on B1.out hb)
      have rb := RB.out.below hb
      have N9 := Lib.hid hn
      have F9 := Lib.hid hfo
      clear hb hn hfo t0 t1 r0 r1 f0 f1
      have r0 := rb.c0
      have r1 := rb.c1
      have f0 := rb.fr 0
      have f1 := rb.fr 1
      go_wp2_with fail
      refine bodyPost_ret_by (v := .tuple #[.agg #[.slice A9 Q.1.L.length c9, .int .i64 Q.1.last], .int .i64 Q.2]) ?_ rfl ?_
      · rw [results_cell_tmp rfl]
        go_simp
      · exact out_all HX.out (stored_out HOFF.out N9.out F9.out hz (by omega) B2.out _ _)
    · have tk2 : (k == 2) = false := by simpa using h2
      replace HX := Lib.hid (HX.out.trans (if_neg h2))
      clear h2
      by_cases h3 : k = 3
      · have tk : (k == 3) = true := by simp [h3]
        replace HX : Hid (R = putAt t p.data.toList 3 x.data.toList) := HX.out.trans (if_pos h3)
        have HC := refPut9_any t _ w1 HF1.out p 3 x hx
        have HC := Lib.hid HC
        generalize putAt t p.data.toList 3 x.data.toList = Q at *
        clear h3 HF1
        go_enter Tryz.func32, Tryz.ntmps32
        go_wp2_with fail
        clear hw1
        refine HC.out.mono ?_
        rintro e w2 ⟨u, rfl, hn, hb, hfo⟩
        obtain ⟨A9, c9, rfl, -, -⟩ := hn.form
        have B2 := Lib.hid (on B1.out hb)
        have rb := RB.out.below hb
        have N9 := Lib.hid hn
        have F9 := Lib.hid hfo
        clear hb hn hfo t0 t1 r0 r1 f0 f1
        have r0 := rb.c0
        have r1 := rb.c1
        have f0 := rb.fr 0
        have f1 := rb.fr 1
        go_wp2_with fail
        refine bodyPost_ret_by (v := .tuple #[.agg #[.slice A9 Q.1.L.length c9, .int .i64 Q.1.last], .int .i64 Q.2]) ?_ rfl ?_
        · rw [results_cell_tmp rfl]
          go_simp
        · exact out_all HX.out (stored_out HOFF.out N9.out F9.out hz (by omega) B2.out _ _)
      · have tk3 : (k == 3) = false := by simpa using h3
        replace HX := Lib.hid (HX.out.trans (if_neg h3))
        clear h3
        by_cases h4 : k = 4
        · have tk : (k == 4) = true := by simp [h4]
          replace HX : Hid (R = cutAt t p.data.toList false) := HX.out.trans (if_pos h4)
          have HC := refCut9_any t _ w1 HF1.out p false
          have HC := Lib.hid HC
          generalize cutAt t p.data.toList false = Q at *
          clear h4 HF1
          go_enter Tryz.func32, Tryz.ntmps32
          go_wp2_with fail
          clear hw1
          refine HC.out.mono ?_
          rintro e w2 ⟨u, rfl, hn, hb, hfo⟩
          obtain ⟨A9, c9, rfl, -, -⟩ := hn.form
          have B2 := Lib.hid (on B1.out hb)
          have rb := RB.out.below hb
          have N9 := Lib.hid hn
          have F9 := Lib.hid hfo
          clear hb hn hfo t0 t1 r0 r1 f0 f1
          have r0 := rb.c0
          have r1 := rb.c1
          have f0 := rb.fr 0
          have f1 := rb.fr 1
          go_wp2_with fail
          refine bodyPost_ret_by (v := .tuple #[.agg #[.slice A9 Q.1.L.length c9, .int .i64 Q.1.last], .int .i64 Q.2]) ?_ rfl ?_
          · rw [results_cell_tmp rfl]
            go_simp
          · exact out_all HX.out (stored_out HOFF.out N9.out F9.out hz (by omega) B2.out _ _)
        · have tk4 : (k == 4) = false := by simpa using h4
          replace HX := Lib.hid (HX.out.trans (if_neg h4))
          clear h4
          by_cases h5 : k = 5
          · have tk : (k == 5) = true := by simp [h5]
            replace HX : Hid (R = M09.rename t p.data.toList x.data.toList) := HX.out.trans (if_pos h5)
            have HC := refRename9_any t _ w1 HF1.out hR p x
            have HC := Lib.hid HC
            generalize M09.rename t p.data.toList x.data.toList = Q at *
            clear h5 HF1
            go_enter Tryz.func32, Tryz.ntmps32
            go_wp2_with fail
            clear hw1
            refine HC.out.mono ?_
            rintro e w2 ⟨u, rfl, hn, hb, hfo⟩
            obtain ⟨A9, c9, rfl, -, -⟩ := hn.form
            have B2 := Lib.hid (on B1.out hb)
            have rb := RB.out.below hb
            have N9 := Lib.hid hn
            have F9 := Lib.hid hfo
            clear hb hn hfo t0 t1 r0 r1 f0 f1
            have r0 := rb.c0
            have r1 := rb.c1
            have f0 := rb.fr 0
            have f1 := rb.fr 1
            go_wp2_with fail
            refine bodyPost_ret_by (v := .tuple #[.agg #[.slice A9 Q.1.L.length c9, .int .i64 Q.1.last], .int .i64 Q.2]) ?_ rfl ?_
            · rw [results_cell_tmp rfl]
              go_simp
            · exact out_all HX.out (stored_out HOFF.out N9.out F9.out hz (by omega) B2.out _ _)
          · have tk5 : (k == 5) = false := by simpa using h5
            replace HX := Lib.hid (HX.out.trans (if_neg h5))
            clear h5
            by_cases h6 : k = 6
            · have tk : (k == 6) = true := by simp [h6]
              replace HX : Hid (R = M09.write t p.data.toList x.data.toList) := HX.out.trans (if_pos h6)
              have HC := refWrite9_any t _ w1 HF1.out p x hx
              have HC := Lib.hid HC
              generalize M09.write t p.data.toList x.data.toList = Q at *
              clear h6 HF1
              go_enter Tryz.func32, Tryz.ntmps32
              go_wp2_with fail
              clear hw1
              refine HC.out.mono ?_
              rintro e w2 ⟨u, rfl, hn, hb, hfo⟩
              obtain ⟨A9, c9, rfl, -, -⟩ := hn.form
              have B2 := Lib.hid (on B1.out hb)
              have rb := RB.out.below hb
              have N9 := Lib.hid hn
              have F9 := Lib.hid hfo
              clear hb hn hfo t0 t1 r0 r1 f0 f1
              have r0 := rb.c0
              have r1 := rb.c1
              have f0 := rb.fr 0
              have f1 := rb.fr 1
              go_wp2_with fail
              refine bodyPost_ret_by (v := .tuple #[.agg #[.slice A9 Q.1.L.length c9, .int .i64 Q.1.last], .int .i64 Q.2]) ?_ rfl ?_
              · rw [results_cell_tmp rfl]
                go_simp
              · exact out_all HX.out (stored_out HOFF.out N9.out F9.out hz (by omega) B2.out _ _)
            · have tk6 : (k == 6) = false := by simpa using h6
              replace HX := Lib.hid (HX.out.trans (if_neg h6))
              clear h6
              replace HX : Hid (R = (t, 2)) := HX.out
              go_enter Tryz.func32, Tryz.ntmps32
              go_wp2_with fail
              clear hw1
              refine bodyPost_ret_by (v := .tuple #[.agg #[.slice Au t.L.length cu, .int .i64 t.last], .int .i64 2]) ?_ rfl ?_
              · rw [results_cell_tmp rfl]
                go_simp
              · exact out_of HX.out ⟨stored_nodes (k := w.heap.size + 1) (HU.out.below B1.out) (by omega) hz, stored_below (k := w.heap.size + 1) B1.out (by omega), Or.inl rfl⟩
              -- @end
              end Go.Proofs.YtmbpgjncioegdaaGreatDoor.W09
/-
  Layer 7 (tree), a walk of the law's lives over the contracts: it returns true; nothing that was there is changed.
-/
namespace Go.Proofs.YtmbpgjncioegdaaGreatDoor.W07
open Go Go.RowKit Go.Proofs.YtmbpgjncioegdaaGreatDoor.Strs Go.Proofs.YtmbpgjncioegdaaGreatDoor.Recs Go.Proofs.YtmbpgjncioegdaaGreatDoor.M07 Go.Proofs.YtmbpgjncioegdaaGreatDoor.Range
open Go.Proofs.YtmbpgjncioegdaaGreatDoor.Kit (ret_str ret_bool ret_int mk_of mk_bytes ba_ext below_draws on)

end Go.Proofs.YtmbpgjncioegdaaGreatDoor.W07
/-
  Layer 7 (tree), a walk of the law TreeDoes over the contracts: it returns true, at every list of acts; nothing that was there is changed.
-/
namespace Go.Proofs.YtmbpgjncioegdaaGreatDoor.W07
open Go Go.RowKit Go.Proofs.YtmbpgjncioegdaaGreatDoor.Strs Go.Proofs.YtmbpgjncioegdaaGreatDoor.Recs Go.Proofs.YtmbpgjncioegdaaGreatDoor.M07 Go.Proofs.YtmbpgjncioegdaaGreatDoor.Range
open Go.Proofs.YtmbpgjncioegdaaGreatDoor.Kit (ret_str ret_bool ret_int mk_of mk_bytes ba_ext below_draws on)

theorem put_more (t : Tr) (d : Int) (s : Bytes) (k : Int) (x : Bytes) : (put t d s k x).1.L.length ≤ t.L.length + 1 ∧ (put t d s k x).1.last ≤ t.last + 1 := by
  unfold put
  split
  · exact ⟨by show t.L.length ≤ _; omega, by show t.last ≤ _; omega⟩
  · exact ⟨by show (t.L ++ [_]).length ≤ _; simp, by show t.last + 1 ≤ _; omega⟩
/-- what is held between two rounds -/
structure Goes (Rep : (Nat → Prop) → World → Value → Tr → Prop) (w wr : World) (p0 : Nat) (pv : Value) (k : Nat) (t : Tr) (F : Nat → Prop) (u : Value) : Prop where
  rep : Rep F wr pv t
  box : TreeBox wr p0 u t.last
  nodes : Nodes wr.heap.size wr u t.L
  off : Off F u
  offp : ¬ F p0
  new : ∀ i, F i → w.heap.size ≤ i
  len : t.L.length ≤ k + 1
  last : t.last ≤ k + 1
  below : Below w.heap.size w wr
  high : w.heap.size ≤ p0
/-- nodes don't lie in a box of a tree -/
theorem off_box {w : World} {p B n c : Nat} {A : Option Addr} {u' : Value} {last : Int} {L : List Nd} (hb : TreeBox w p (.slice A n c) last) (hn : Nodes B w u' L) (h0 : 0 < L.length) : Off (fun k => k = p) u' := by
  obtain ⟨A', c', rfl, h1, h2⟩ := hn.form
  obtain ⟨b, o, hl, rfl, hlt, hc0, hc1, _⟩ := Nodes.at_ hn h0
  intro b' o' n' c'' e hk
  cases e
  subst hk
  rw [Nat.zero_mul, Nat.add_zero] at hc0 hc1
  have hcell : ∀ j, w.cell? ⟨b, j, none⟩ = (#[Value.slice A n c, Value.int .i64 last] : Array Value)[j]? := fun j => cell_of_row w _ j _ _ (0, 0) hb
  rw [hcell] at hc0 hc1
  match o with
  | 0 => simp at hc0
  | 1 => simp at hc1
  | o + 2 => simp at hc0
theorem box_stored2 {w : World} {p : Nat} {v u : Value} {l last : Int} (h : TreeBox w p v l) : TreeBox ((w.setCell ⟨p, 0, none⟩ u).setCell ⟨p, 1, none⟩ (.int .i64 last)) p u last := set_heap (set_heap h 0 u) 1 (.int .i64 last)
end Go.Proofs.YtmbpgjncioegdaaGreatDoor.W07
