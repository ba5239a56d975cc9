/-
  Layer 7 (tree), walks: the landed code's New and Set; what it is that a pointer leads to a tree. The bounds stand in the statements.
-/
import Derived.Test.YtelphegeeiocnaaW07Check
namespace Go.Proofs.Ytelphegeeiocnaa.W07
open Go Go.RowKit Go.Proofs.Ytelphegeeiocnaa.Strs Go.Proofs.Ytelphegeeiocnaa.Recs Go.Proofs.Ytelphegeeiocnaa.M07 Go.Proofs.Ytelphegeeiocnaa.Maps Go.Proofs.Ytelphegeeiocnaa.Range
open Go.Proofs.Ytelphegeeiocnaa.M06 (Ent)
open Go.Proofs.Ytelphegeeiocnaa.M03 (check)
open Go.Proofs.Ytelphegeeiocnaa.W06 (Ents HandsE)
open Go.Proofs.Ytelphegeeiocnaa.Kit (ret_str ret_bool ret_int mk_of mk_bytes ba_ext below_draws on list_full list_ne list_none list_nil bytes_nil)

/-- in w the pointer v leads to a tree that reads as t and lies in the blocks of F -/
def Rep (F : Nat → Prop) (w : World) (v : Value) (t : Tr) : Prop := Right t ∧ ∃ sb mb lv, v = .pointer (some ⟨sb, 0, none⟩) ∧ Mem F w sb mb (plainN t) lv t.last t.L.length
section
variable {F : Nat → Prop} {w w' w1 w2 : World} {v : Value} {t : Tr}
theorem plain_short (hs : Small t) : Short (plainN t) := fun n => by
  show (listed t n).length ≤ _
  unfold listed
  have h1 := hs.1
  split
  · have := M07.list_len t.L n; omega
  · simp
theorem Rep.keep (h : Rep F w v t) (hk : ∀ k, F k → w'.heap[k]? = w.heap[k]?) (hs : w.heap.size ≤ w'.heap.size) : Rep F w' v t := by
  obtain ⟨hR, sb, mb, lv, e, h⟩ := h
  exact ⟨hR, sb, mb, lv, e, h.keep hk hs⟩
theorem Rep.low (h : Rep F w v t) : ∀ k, F k → k < w.heap.size := by
  obtain ⟨hR, sb, mb, lv, e, h⟩ := h
  exact h.low
/-- nothing but new memory has turned -/
theorem Rep.wrote (h : Rep F w v t) (hb : Below w.heap.size w w') : Wrote Rep F v t w w' :=
  ⟨F, h.keep (fun k hk => hb.block k (h.low k hk)) hb.size, Turns.new hb, fun _ => Or.inl⟩
theorem plain_new (n : Int) : plainN M07.new n = if n = 1 then ⟨1, 1, [], []⟩ else nod0 := by
  by_cases e : n = 1
  · subst e; rfl
  · rw [if_neg e]
    have h : nodeAt M07.new.L n = M07.zero := by
      show (if (1 : Int) = n then _ else _) = _
      rw [if_neg (fun h => e h.symm)]; rfl
    unfold plainN listed
    rw [h]; rfl
theorem mem_new {w w1 : World} {mb : Nat} (hmap : MapIs w1 Try.prog 3 mb (upd (fun _ => none) 1 (some (.agg #[.int .i64 1, .int .i64 1, .string ⟨#[]⟩, .slice none 0 0]))) 1) (hb : w.heap.size ≤ mb) :
    Mem (fun k => w.heap.size ≤ k ∧ k < w1.heap.size + 1) (w1.alloc (.cells #[.map (some mb), .int .i64 1] 54)) w1.heap.size mb (plainN M07.new) (fun _ => .slice none 0 0) 1 1 := by
  have hlt := hmap.lt
  refine ⟨heap_top _ _, ⟨by omega, by omega⟩, ⟨hb, by omega⟩, fun k hk => by rw [World.size_alloc]; exact hk.2, (hmap.alloc _).as (fun i => ?_) rfl, fun n hn => ⟨?_, rfl⟩, fun n => ?_, fun n b o c d _ e => by cases e⟩
  · unfold upd held
    rw [plain_new]
    by_cases e : i = 1
    · subst e; rfl
    · simp [e, nod0]
  · rw [plain_new] at hn ⊢
    by_cases e : n = 1
    · subst e; exact absurd hn (by decide)
    · rw [if_neg e]
  · rw [plain_new]
    by_cases e : n = 1
    · rw [if_pos e]; exact recs_nil _ _ _ _
    · rw [if_neg e]; exact recs_nil _ _ _ _
set_option maxHeartbeats 1000000 in
theorem new_any (w : World) : Calls Try.prog 8 #[] w fun e w' => ∃ v F, e = .returned v ∧ Rep F w' v M07.new ∧ (∀ k, F k → w.heap.size ≤ k) ∧ Below w.heap.size w w' := by
  have hmm := @run_makeMap Try.prog
  have hst := (map_made w Try.prog 3).store (t := 52) (e := 51) key_under map_under (by decide) (n := 1) (by decide) (.agg #[.int .i64 1, .int .i64 1, .string ⟨#[]⟩, .slice none 0 0])
  obtain ⟨w1, hrun, map1, turn1⟩ := hst
  have M1 := Lib.hid (mem_new (w := w) map1 (Nat.le_refl _))
  have B1 : Hid (Below w.heap.size w w1) := ((Below.refl w.heap.size w).alloc (Nat.le_refl _) _).grown turn1.grown (by simp) (fun k hk => by cases hk; exact Nat.le_refl _)
  clear map1 turn1
  go_enter Try.func8, Try.ntmps8
  go_wp2_with fail
  go_ret
  exact ⟨_, _, rfl, ⟨new_right, _, _, _, rfl, M1.out⟩, fun _ hk => hk.1, B1.out.alloc B1.out.size _⟩
theorem open_data {sb mb : Nat} {g : Int → Nod} {lv : Int → Value} {last : Int} {m : Nat} (h : Mem F w sb mb g lv last m) (x : Nod) (u : Value) (s : ByteArray) :
    Mem F ((w.alloc (.cells #[.int .i64 x.kind, .int .i64 x.up, .string ⟨x.data.toArray⟩, u] 51)).setCell ⟨w.heap.size, 2, none⟩ (.string s)) sb mb g lv last m ∧ NodBox ((w.alloc (.cells #[.int .i64 x.kind, .int .i64 x.up, .string ⟨x.data.toArray⟩, u] 51)).setCell ⟨w.heap.size, 2, none⟩ (.string s)) w.heap.size { x with data := s.data.toList } u ∧ Below w.heap.size w ((w.alloc (.cells #[.int .i64 x.kind, .int .i64 x.up, .string ⟨x.data.toArray⟩, u] 51)).setCell ⟨w.heap.size, 2, none⟩ (.string s)) := by
  have hB : Below w.heap.size w ((w.alloc (.cells #[.int .i64 x.kind, .int .i64 x.up, .string ⟨x.data.toArray⟩, u] 51)).setCell ⟨w.heap.size, 2, none⟩ (.string s)) := ((Below.refl _ _).alloc (Nat.le_refl _) _).setCell (Nat.le_refl _) _
  exact ⟨h.below hB, (NodBox.new w x u).set2 s, hB⟩
theorem with_len (t : Tr) (x : Nd) : (withNode t x).L.length = t.L.length := by show (t.L.map _).length = _; rw [List.length_map]
set_option maxHeartbeats 4000000 in
theorem set_any (h : Rep F w v t) (hs : Small t) (n : Int) (x : ByteArray) : Calls Try.prog 19 #[v, .int .i64 n, .string x] w fun e w' => e = .returned (.int .i64 (M07.set t n x.data.toList).2) ∧ Wrote Rep F v (M07.set t n x.data.toList).1 w w' := by
  have hR := Lib.hid h
  obtain ⟨hr, sb, mb, lv, rfl, hM⟩ := h
  have HR := Lib.hid hr
  have H := Lib.hid hM
  obtain ⟨A, c, e, hc⟩ := hM.node_ n
  have HC := Lib.hid hc
  have HS : Hid (M07.set t n x.data.toList = if (nodeAt t.L n).kind = 0 then (t, 5) else if (nodeAt t.L n).kind = 1 then (t, 8) else if mayErr (nodeAt t.L n).kind x.data.toList ≠ 0 then (t, mayErr (nodeAt t.L n).kind x.data.toList) else (withNode t { nodeAt t.L n with data := x.data.toList }, 0)) := rfl
  have HK : Hid ((nodeAt t.L n).kind = (plainN t n).kind) := rfl
  rw [HK.out] at HS
  have HE := Lib.hid e
  have hm := hs.1
  clear hr hM hc hs e
  have HL : Hid ((plainN t n).list.length = (plainN t n).list.length) := rfl
  generalize hln : (plainN t n).list.length = ln at HC HE
  have HLN := Lib.hid hln
  clear hln HL
  by_cases h0 : (plainN t n).kind = 0
  · have HX : Hid (M07.set t n x.data.toList = (t, 5)) := HS.out.trans (if_pos h0)
    rw [h0] at HC
    clear HS HK h0
    generalize (plainN t n).up = un at *
    generalize (plainN t n).data = dn at *
    go_enter Try.func19, Try.ntmps19
    go_wp2_with fail
    refine HC.out.mono ?_
    rintro e w1 ⟨rfl, hb⟩
    have B1 := Lib.hid hb
    clear hb
    go_wp2_with fail
    go_ret
    rw [HX.out]
    exact ⟨rfl, hR.out.wrote (B1.out.alloc B1.out.size _)⟩
  · by_cases h1 : (plainN t n).kind = 1
    · have HX : Hid (M07.set t n x.data.toList = (t, 8)) := HS.out.trans ((if_neg h0).trans (if_pos h1))
      rw [h1] at HC
      clear HS HK h0 h1
      generalize (plainN t n).up = un at *
      generalize (plainN t n).data = dn at *
      go_enter Try.func19, Try.ntmps19
      go_wp2_with fail
      refine HC.out.mono ?_
      rintro e w1 ⟨rfl, hb⟩
      have B1 := Lib.hid hb
      clear hb
      go_wp2_with fail
      go_ret
      rw [HX.out]
      exact ⟨rfl, hR.out.wrote (B1.out.alloc B1.out.size _)⟩
    · have HS : Hid (M07.set t n x.data.toList = if mayErr (plainN t n).kind x.data.toList ≠ 0 then (t, mayErr (plainN t n).kind x.data.toList) else (withNode t { nodeAt t.L n with data := x.data.toList }, 0)) := HS.out.trans ((if_neg h0).trans (if_neg h1))
      have HD := Lib.hid (fun w' : World => checkData_any (plainN t n).kind x w')
      have t0 : ((plainN t n).kind == 0) = false := by simpa using h0
      have t1 : ((plainN t n).kind == 1) = false := by simpa using h1
      by_cases hme : mayErr (plainN t n).kind x.data.toList = 0
      · have HX : Hid (M07.set t n x.data.toList = (withNode t { nodeAt t.L n with data := x.data.toList }, 0)) := HS.out.trans (if_neg (show ¬ mayErr (plainN t n).kind x.data.toList ≠ 0 from fun e => e hme))
        have HP := Lib.hid (set_plain HR.out (x := x.data.toList) h0 h1 hme)
        have HRR : Hid (Right (withNode t { nodeAt t.L n with data := x.data.toList })) := by
          have := set_right HR.out (n := n) (data := x.data.toList)
          rw [HX.out] at this
          exact this
        have H0 := Lib.hid h0
        rw [hme] at HD
        clear HS hme h0 h1
        obtain ⟨g, hg⟩ : ∃ g, plainN t = g := ⟨_, rfl⟩
        rw [hg] at HP HLN H H0 HC HD t0 t1
        clear hg HK
        have wfn := Lib.hid (H.out.wf H0.out)
        go_enter Try.func19, Try.ntmps19
        go_wp2_with fail
        refine HC.out.mono ?_
        rintro e w1 ⟨rfl, hb⟩
        have B1 := Lib.hid hb
        have M1 := Lib.hid (H.out.below hb)
        clear hb
        go_wp2_with fail
        refine (HD.out _).mono ?_
        rintro e w2 ⟨rfl, hw⟩
        have hw := hw.symm
        subst hw
        obtain ⟨q1, q2, q5⟩ := open_data M1.out (g n) (.slice A ln c) x
        obtain ⟨w3, hw3⟩ : ∃ w3, (w1.alloc (.cells #[.int .i64 (g n).kind, .int .i64 (g n).up, .string ⟨(g n).data.toArray⟩, .slice A ln c] 51)).setCell ⟨w1.heap.size, 2, none⟩ (.string x) = w3 := ⟨_, rfl⟩
        rw [hw3] at q1 q2 q5
        have M3 := Lib.hid q1
        have B3 := Lib.hid q5
        have y0 := q2.c0
        have y1 := q2.c1
        have y2 : w3.cell? ⟨w1.heap.size, 2, none⟩ = some (.string x) := by have := q2.c2; rw [show (⟨x.data.toList.toArray⟩ : ByteArray) = x from mk_bytes x] at this; exact this
        have y3 := q2.c3
        have c0 := q1.box.c0
        clear q1 q2 q5
        have hmp : MapIs w3.drew Try.prog 3 mb (held g lv) t.L.length := M3.out.map.keep rfl
        have hst := hmp.store (t := 52) (e := 51) key_under map_under (by unfold maxLen; omega) (n := n) wfn.out (.agg #[.int .i64 (g n).kind, .int .i64 (g n).up, .string x, .slice A ln c])
        obtain ⟨w4, hrun, map4, turn4⟩ := hst
        go_wp2_with fail
        clear hw3
        go_region
        go_wp2_with fail
        go_ret
        have e4 : (held g lv n).isSome = true := by rw [H.out.some_ H0.out]; rfl
        rw [if_pos e4] at map4
        rw [HX.out]
        have E3 := (H.out.list n).below (on B1.out B3.out)
        have A3 := H.out.at_ n
        rw [HE.out] at E3 A3
        have M4 := Mem.stored (M3.out.keep (w' := w3.drew) (fun _ _ => rfl) (Nat.le_refl _)) (n := n) (x := { g n with data := x.data.toList }) (u := .slice A ln c) H0.out (E3.more (on B1.out B3.out).size) A3 (by
          have e5 : nodV { g n with data := x.data.toList } (.slice A ln c) = .agg #[.int .i64 (g n).kind, .int .i64 (g n).up, .string x, .slice A ln c] := by
            unfold nodV
            rw [show (⟨x.data.toList.toArray⟩ : ByteArray) = x from mk_bytes x]
          rw [e5]; exact map4) turn4
        rw [← HP.out] at M4
        rw [← with_len t { nodeAt t.L n with data := x.data.toList }] at M4
        exact ⟨rfl, F, ⟨HRR.out, sb, mb, _, rfl, M4⟩, narrow (((Turns.new (on B1.out B3.out)).trans (drew_turns _ _)).trans (turned_turns turn4 (Or.inl H.out.fm))), fun _ => Or.inl⟩
      · have HX : Hid (M07.set t n x.data.toList = (t, mayErr (plainN t n).kind x.data.toList)) := HS.out.trans (if_pos hme)
        generalize mayErr (plainN t n).kind x.data.toList = rc at *
        have s2 : (rc != 0) = true := by simpa using hme
        have s3 : (rc == 0) = false := by simpa using hme
        clear HS HK h0 h1 H HLN HE hme
        generalize (plainN t n).up = un at *
        generalize (plainN t n).data = dn at *
        generalize (plainN t n).kind = kn at *
        go_enter Try.func19, Try.ntmps19
        go_wp2_with fail
        refine HC.out.mono ?_
        rintro e w1 ⟨rfl, hb⟩
        have B1 := Lib.hid hb
        clear hb
        go_wp2_with fail
        refine (HD.out _).mono ?_
        rintro e w2 ⟨rfl, hw⟩
        have B2 : Hid (Below w.heap.size w w2) := by rw [hw]; exact B1.out.alloc B1.out.size _
        clear hw
        go_wp2_with fail
        go_ret
        rw [HX.out]
        exact ⟨rfl, hR.out.wrote B2.out⟩
end
end Go.Proofs.Ytelphegeeiocnaa.W07
