/-
  Texts joined, in build order, each with its own comment and its own conditions: W12Below, StrCut.
-/
import Derived.Test.YtpihldcchjoinaaGreatDoorJ06
import Derived.Test.YtpihldcchjoinaaGreatDoorJ10
import Derived.Test.YtpihldcchjoinaaGreatDoorJ08
import Derived.Laws.Concat
import Derived.Test.YtpihldcchjoinaaGreatDoorJ01
/-
  Layer 12 (dump), walks of the program's iterator of what stands below a node ('below'), which runs over iterators of its own: it hands out the rows from the node down, in order. The conditions stand in the statements.
-/
namespace Go.Proofs.YtpihldcchjoinaaGreatDoor.W12
set_option maxRecDepth 100000
open Go Go.RowKit Go.Shelf Go.Proofs.YtpihldcchjoinaaGreatDoor.Strs Go.Proofs.YtpihldcchjoinaaGreatDoor.Recs Go.Proofs.YtpihldcchjoinaaGreatDoor.Range
open Go.Proofs.YtpihldcchjoinaaGreatDoor.M12
open Go.Proofs.YtpihldcchjoinaaGreatDoor.M07 (Tr Nd nodeAt Right height listDir)
open Go.Proofs.YtpihldcchjoinaaGreatDoor.M08 (Named)
open Go.Proofs.YtpihldcchjoinaaGreatDoor.W07 (Small Trees listed HandsIn)
open Go.Proofs.YtpihldcchjoinaaGreatDoor.W06 (Ents)
open Go.Proofs.YtpihldcchjoinaaGreatDoor.W08 (listed_is listed_len)
open Go.Proofs.YtpihldcchjoinaaGreatDoor.W11
open Go.Proofs.YtpihldcchjoinaaGreatDoor.Kit (ret_str ret_bool ret_int mk_of mk_bytes ba_ext below_draws on)
attribute [local go_sem] Oper.semAt_some

def markOf (b : Nat) : Deferred := { target := .collected b, args := #[] }
theorem leave_all {F : Fence} {n : Nat} {P : Program} {fn : Func} {tmps : Array Value} {R : Ending → World → Prop} : ∀ (bs : List Nat) (W : World), bs.Nodup → (∀ b ∈ bs, W.heap[b]? = some (.deferred (some []))) →
    (∀ W', Turns (fun k => k ∈ bs) W W' → LeavesInM F n P fn tmps R [] .returning W') → LeavesInM F n P fn tmps R (bs.map markOf) .returning W
  | [], W, _, _, h => h W (Turns.refl _ W)
  | b :: bs, W, hn, hb, h => by
    rw [List.nodup_cons] at hn
    refine ⟨by simp, .inl ⟨b, _, rfl, run_takeDeferred (hb b List.mem_cons_self), ?_⟩⟩
    refine leave_all bs _ hn.2 (fun c hc => (World.putObj_heap_other (fun e => hn.1 (by rw [← e]; exact hc))).trans (hb c (List.mem_cons_of_mem _ hc))) (fun W' ht => h W' ?_)
    exact (Turns.putObj (T := fun k => k ∈ b :: bs) _ List.mem_cons_self).trans (ht.wider fun k hk => List.mem_cons_of_mem _ hk)
/-- the three variables that an iterator has caught -/
def caught3 (b : Nat) : Array Value := #[.pointer (some ⟨b, 0, none⟩), .pointer (some ⟨b + 1, 0, none⟩), .pointer (some ⟨b + 2, 0, none⟩)]
def Three3 (b k : Nat) : Prop := b ≤ k ∧ k < b + 3
def boxes3 (w : World) (v : Value) (n : Int) (p : ByteArray) : World := ((w.alloc (.cells #[v] 25)).alloc (.cells #[.int .i64 n] 3)).alloc (.cells #[.string p] 9)
theorem below_at (v : Value) (n : Int) (p : ByteArray) (w : World) (hv : ∃ a, v = .pointer (some a)) : Calls Tryz.prog 31 #[v, .int .i64 n, .string p] w fun e w' => e = .returned (.func (.func 65) #[] (caught3 w.heap.size)) ∧ w' = boxes3 w v n p := by
  obtain ⟨a, rfl⟩ := hv
  go_enter Tryz.func31, Tryz.ntmps31
  go_wp2_with fail
  go_ret
  exact ⟨rfl, rfl⟩
theorem boxes3_facts (v : Value) (n : Int) (p : ByteArray) (w : World) : (boxes3 w v n p).heap.size = w.heap.size + 3 ∧ Below w.heap.size w (boxes3 w v n p) ∧ (boxes3 w v n p).cell? ⟨w.heap.size, 0, none⟩ = some v ∧ (boxes3 w v n p).cell? ⟨w.heap.size + 1, 0, none⟩ = some (.int .i64 n) ∧ (boxes3 w v n p).cell? ⟨w.heap.size + 2, 0, none⟩ = some (.string p) := by
  unfold boxes3
  have h0 := (((Boxed.new w 25 v).alloc (.cells #[.int .i64 n] 3)).alloc (.cells #[.string p] 9)).cell
  have h1 := ((Boxed.new (w.alloc (.cells #[v] 25)) 3 (.int .i64 n)).alloc (.cells #[.string p] 9)).cell
  have h2 := (Boxed.new ((w.alloc (.cells #[v] 25)).alloc (.cells #[.int .i64 n] 3)) 9 (.string p)).cell
  simp only [World.size_alloc] at h0 h1 h2 ⊢
  exact ⟨trivial, ((below_box _ _).alloc (by rw [World.size_alloc]; omega) _).alloc (by rw [World.size_alloc, World.size_alloc]; omega) _, h0, h1, h2⟩
/-- what an iterator's activation holds of its own memory: its variables, the directory's list, the marks of the statements that are through -/
structure Act3 (F : Nat → Prop) (base : Nat) (W0 : World) (q y : Nat) (yv v : Value) (n : Int) (p : ByteArray) (u : Value) (E : List M06.Ent) (ds : List Nat) (T : Nat → Prop) (wr : World) : Prop where
  turn : Turns (fun k => base ≤ k) W0 wr
  y0 : wr.cell? ⟨y, 0, none⟩ = some yv
  c0 : wr.cell? ⟨q, 0, none⟩ = some v
  c1 : wr.cell? ⟨q + 1, 0, none⟩ = some (.int .i64 n)
  c2 : wr.cell? ⟨q + 2, 0, none⟩ = some (.string p)
  ty : T y
  t0 : T q
  t1 : T (q + 1)
  t2 : T (q + 2)
  ents : Ents wr.heap.size wr u E
  off : 0 < E.length → ∀ b o m c, u = .slice (some ⟨b, o, none⟩) m c → F b ∨ T b
  nodup : ds.Nodup
  marks : ∀ b ∈ ds, wr.heap[b]? = some (.deferred (some [])) ∧ T b
theorem recs_blocks {α : Type} {enc : α → List Value} {sz B : Nat} {w w' : World} {u : Value} {L : List α} (h : Recs enc sz B w u L) (he : ∀ x : α, (enc x).length = sz) (h0 : 0 < sz) (hk : 0 < L.length → ∀ b o m c, u = .slice (some ⟨b, o, none⟩) m c → w'.heap[b]? = w.heap[b]?) : Recs enc sz B w' u L := by
  obtain ⟨A, c, rfl, hc1, hc2⟩ := h.form
  rcases Nat.eq_zero_or_pos L.length with q | q
  · have : L = [] := List.length_eq_zero_iff.1 q
    subst this
    exact recs_none _ _ _ _ _ hc2
  · obtain ⟨b, o, _, rfl, _, _⟩ := h.flat_ he h0 q
    exact h.other (fun p hp => World.cell?_of_block (by rw [hp]; exact hk q b o _ _ rfl))
theorem Act3.on {F : Nat → Prop} {base : Nat} {W0 : World} {q y : Nat} {yv v : Value} {n : Int} {p : ByteArray} {u : Value} {E : List M06.Ent} {ds : List Nat} {T T' : Nat → Prop} {wr w' : World} (h : Act3 F base W0 q y yv v n p u E ds T wr) (hF : ∀ k, F k → k < base) (hb : base ≤ wr.heap.size)
    (hs : ∀ k, T k → w'.heap[k]? = wr.heap[k]?) (ht : Turns (fun k => base ≤ k) wr w') (hT : ∀ k, T k → T' k) : Act3 F base W0 q y yv v n p u E ds T' w' where
  turn := h.turn.trans ht
  y0 := (World.cell?_of_block (hs y h.ty)).trans h.y0
  c0 := (World.cell?_of_block (hs q h.t0)).trans h.c0
  c1 := (World.cell?_of_block (hs (q + 1) h.t1)).trans h.c1
  c2 := (World.cell?_of_block (hs (q + 2) h.t2)).trans h.c2
  ty := hT _ h.ty
  t0 := hT _ h.t0
  t1 := hT _ h.t1
  t2 := hT _ h.t2
  ents := (recs_blocks h.ents W06.entC_len (by decide) (fun hn b o m c e => by
    rcases h.off hn b o m c e with hf | hf
    · have := hF b hf
      exact ht.block b (by omega) (by omega)
    · exact hs b hf)).more ht.size
  off := fun hn b o m c e => (h.off hn b o m c e).imp id (hT b)
  nodup := h.nodup
  marks := fun b hb => ⟨(hs b (h.marks b hb).2).trans (h.marks b hb).1, hT b (h.marks b hb).2⟩
/-- a row of a directory's name, and those below it -/
theorem rows_step {t : Tr} {k : Nat} {p : List UInt8} {E : List M06.Ent} {i : Nat} (hi : i < E.length) : (E.take (i + 1)).flatMap (blockOf t k p) = ((E.take i).flatMap (blockOf t k p) ++ [⟨p ++ 47 :: (E[i]).1, (nodeAt t.L (E[i]).2).kind, (nodeAt t.L (E[i]).2).data⟩]) ++ down t k (E[i]).2 (p ++ 47 :: (E[i]).1) := by
  rw [List.take_succ_eq_append_getElem hi, List.flatMap_append, List.append_assoc]
  simp [blockOf]
theorem rows_pre {t : Tr} {k : Nat} {p : List UInt8} {E : List M06.Ent} (i : Nat) : (E.take i).flatMap (blockOf t k p) <+: E.flatMap (blockOf t k p) := by
  conv => rhs; rw [← List.take_append_drop i E, List.flatMap_append]
  exact List.prefix_append _ _
/-- what a round's region reads -/
def Four (q pE : Nat) (p s : ByteArray) (va : Addr) (en2 : Int) (w' : World) : Prop := w'.cell? ⟨q + 2, 0, none⟩ = some (.string p) ∧ w'.cell? ⟨pE, 0, none⟩ = some (.string s) ∧ w'.cell? ⟨q, 0, none⟩ = some (.pointer (some va)) ∧ w'.cell? ⟨pE, 1, none⟩ = some (.int .i64 en2)
theorem four_on {q pE m : Nat} {p s : ByteArray} {va : Addr} {en2 : Int} {w1 w2 : World} (h : Four q pE p s va en2 w1) (hb : Below m w1 w2) (h1 : q + 3 ≤ m) (h2 : pE < m) : Four q pE p s va en2 w2 :=
  ⟨(hb.cell (p := ⟨q + 2, 0, none⟩) (by show q + 2 < _; omega)).trans h.1, (hb.cell (p := ⟨pE, 0, none⟩) h2).trans h.2.1, (hb.cell (p := ⟨q, 0, none⟩) (by show q < _; omega)).trans h.2.2.1, (hb.cell (p := ⟨pE, 1, none⟩) h2).trans h.2.2.2⟩
/-- a row's box, whole -/
def RBox (w : World) (b : Nat) (s : ByteArray) (k : Int) (x : ByteArray) : Prop := w.heap[b]? = some (.cells #[.string s, .int .i64 k, .string x] 41 (0, 0))
section
variable {w w' : World} {b : Nat} {s : ByteArray} {k : Int} {x : ByteArray}
theorem RBox.lt (h : RBox w b s k x) : b < w.heap.size := (Array.getElem?_eq_some_iff.1 h).1
theorem RBox.below (h : RBox w b s k x) (hb : Below w.heap.size w w') : RBox w' b s k x := (hb.block b h.lt).trans h
theorem RBox.c0 (h : RBox w b s k x) : w.cell? ⟨b, 0, none⟩ = some (.string s) := cell_of_row w b 0 _ _ (0, 0) h
theorem RBox.c1 (h : RBox w b s k x) : w.cell? ⟨b, 1, none⟩ = some (.int .i64 k) := cell_of_row w b 1 _ _ (0, 0) h
theorem RBox.c2 (h : RBox w b s k x) : w.cell? ⟨b, 2, none⟩ = some (.string x) := cell_of_row w b 2 _ _ (0, 0) h
theorem RBox.fr (h : RBox w b s k x) (j : Nat) : w.frozen? ⟨b, j, none⟩ = false := frozen_of_row w b j _ _ h
theorem RBox.stored (h : RBox w b s k x) (s' : ByteArray) (k' : Int) (x' : ByteArray) : RBox (((w.setCell ⟨b, 0, none⟩ (.string s')).setCell ⟨b, 1, none⟩ (.int .i64 k')).setCell ⟨b, 2, none⟩ (.string x')) b s' k' x' :=
  W07.set_heap (W07.set_heap (W07.set_heap h 0 (.string s')) 1 (.int .i64 k')) 2 (.string x')
theorem RBox.new (w : World) : RBox (w.alloc (.cells #[.string ⟨#[]⟩, .int .i64 0, .string ⟨#[]⟩] 41)) w.heap.size ⟨#[]⟩ 0 ⟨#[]⟩ := W07.heap_top _ _
end
theorem stored3 {w w' : World} {m b : Nat} (h : Below m w w') (hb : m ≤ b) (x y z : Value) : Below m w (((w'.setCell ⟨b, 0, none⟩ x).setCell ⟨b, 1, none⟩ y).setCell ⟨b, 2, none⟩ z) := ((h.setCell hb _).setCell hb _).setCell hb _
set_option maxRecDepth 100000 in
set_option maxHeartbeats 16000000 in
theorem below_step {Rep : (Nat → Prop) → World → Value → Tr → Prop} (C : Trees Rep) {F : Nat → Prop} {va : Addr} {t : Tr} (G : W08.Good t) (q : Nat) (n : Int) (p : ByteArray) (base : Nat) (w0 : World) (H : Rep F w0 (.pointer (some va)) t) (hF : ∀ k, F k → k < base) (_hq : base ≤ q) (hq2 : q + 3 ≤ w0.heap.size) (k M : Nat) (hM : M ≤ 1099511627776) (hp : p.size + 100 * (k + 1) ≤ M)
    (c0 : w0.cell? ⟨q, 0, none⟩ = some (.pointer (some va))) (c1 : w0.cell? ⟨q + 1, 0, none⟩ = some (.int .i64 n)) (c2 : w0.cell? ⟨q + 2, 0, none⟩ = some (.string p))
    (IH : ∀ (q' : Nat) (n' : Int) (p' : ByteArray) (w' : World), Rep F w' (.pointer (some va)) t → (∃ e ∈ listDir t.L n, e.2 = n') → base ≤ q' → q' + 3 ≤ w'.heap.size → p'.size + 100 * k ≤ M → w'.cell? ⟨q', 0, none⟩ = some (.pointer (some va)) → w'.cell? ⟨q' + 1, 0, none⟩ = some (.int .i64 n') → w'.cell? ⟨q' + 2, 0, none⟩ = some (.string p') →
      SeqG Tryz.prog 65 (caught3 q') rowV base (Three3 q') (down t k n' p'.data.toList) w') :
    SeqG Tryz.prog 65 (caught3 q) rowV base (Three3 q) (down t (k + 1) n p.data.toList) w0 := by
  intro l J T0 W hW hsz hJ hT0 hO hbase hY h0
  have hsame : ∀ i, q ≤ i → i < q + 3 → W.heap[i]? = w0.heap[i]? := fun i h1 h2 => hW i (Or.inr ⟨h1, h2⟩)
  replace c0 : W.cell? ⟨q, 0, none⟩ = some (.pointer (some va)) := (World.cell?_of_block (hsame q (by omega) (by omega))).trans c0
  replace c1 : W.cell? ⟨q + 1, 0, none⟩ = some (.int .i64 n) := (World.cell?_of_block (hsame (q + 1) (by omega) (by omega))).trans c1
  replace c2 : W.cell? ⟨q + 2, 0, none⟩ = some (.string p) := (World.cell?_of_block (hsame (q + 2) (by omega) (by omega))).trans c2
  have HW : Rep F W (.pointer (some va)) t := C.keep H (fun i hi => hW i (Or.inl (hF i hi))) hsz
  have HREP := Lib.hid (fun w' (h : Turns (fun k => base ≤ k) W w') => (C.keep HW (fun i hi => h.block i (C.low HW i hi) (by have := hF i hi; omega)) h.size : Rep F w' (.pointer (some va)) t))
  have hlist := listed_is (C.right H) n
  have hllen := listed_len G.small n
  refine (callsIn_wide (n := 9)).1 ?_
  refine callsIn_of_wp_marks Tryz.func65 rfl trivial ?_ rfl
  refine wpIn_wide.2 ?_
  simp only [Tryz.ntmps65, caught3, List.size_toArray, List.length_cons, List.length_nil, Nat.reduceAdd, Nat.reduceSub, Array.replicate_succ, Array.replicate_zero, List.push_toArray, List.append_toArray, List.nil_append, List.cons_append]
  obtain ⟨W1, hW1⟩ : ∃ W1, W.alloc (.cells #[.func (.yield l) #[] #[]] 57) = W1 := ⟨_, rfl⟩
  have hb1 : Below W.heap.size W W1 := by rw [← hW1]; exact below_box _ _
  obtain ⟨y, hy⟩ : ∃ y, W.heap.size = y := ⟨_, rfl⟩
  have hy1 : y < W1.heap.size := by rw [← hW1, World.size_alloc]; omega
  have hy0 : W1.cell? ⟨y, 0, none⟩ = some (.func (.yield l) #[] #[]) := by rw [← hW1, ← hy]; exact (Boxed.new W _ _).cell
  have HL := Lib.hid (C.lists (C.below HW hb1) G.small n)
  have hqW : q + 3 ≤ W.heap.size := by omega
  have d0 : W1.cell? ⟨q, 0, none⟩ = some (.pointer (some va)) := (hb1.cell (p := ⟨q, 0, none⟩) (by show q < _; omega)).trans c0
  have d1 : W1.cell? ⟨q + 1, 0, none⟩ = some (.int .i64 n) := (hb1.cell (p := ⟨q + 1, 0, none⟩) (by show q + 1 < _; omega)).trans c1
  have d2 : W1.cell? ⟨q + 2, 0, none⟩ = some (.string p) := (hb1.cell (p := ⟨q + 2, 0, none⟩) (by show q + 2 < _; omega)).trans c2
  clear c0 c1 c2
  go_wp2_with fail
  clear hW1
  refine HL.out.mono ?_
  rintro e w2 ⟨u, rfl, hu, hloc, hb2⟩
  rw [hlist] at hu hllen
  obtain ⟨A, c, rfl, hu1, hu2⟩ := hu.form
  unfold maxLen at hu2
  have hbW := on hb1 hb2
  have A2 : Act3 F base W q y (.func (.yield l) #[] #[]) (.pointer (some va)) n p (.slice A (listDir t.L n).length c) (listDir t.L n) [] (Fresh T0 W w2) w2 := {
    turn := Turns.of_below (hbW.mono hbase) (fun k h1 _ => h1)
    y0 := (hb2.cell (p := ⟨y, 0, none⟩) hy1).trans hy0
    c0 := (hb2.cell (p := ⟨q, 0, none⟩) (by have := hb1.size; show q < _; omega)).trans d0
    c1 := (hb2.cell (p := ⟨q + 1, 0, none⟩) (by have := hb1.size; show q + 1 < _; omega)).trans d1
    c2 := (hb2.cell (p := ⟨q + 2, 0, none⟩) (by have := hb1.size; show q + 2 < _; omega)).trans d2
    ty := Or.inr ⟨by omega, by have := hb2.size; omega⟩
    t0 := Or.inl (hO _ ⟨by omega, by omega⟩)
    t1 := Or.inl (hO _ ⟨by omega, by omega⟩)
    t2 := Or.inl (hO _ ⟨by omega, by omega⟩)
    ents := hu
    off := fun hn b o m c e => by
      rcases hloc b o m c e with hf | hf
      · exact Or.inl hf
      · obtain ⟨b', o', _, e2, hb', _⟩ := hu.flat_ W06.entC_len (by decide) hn
        subst e2
        cases e
        exact Or.inr (Or.inr ⟨Nat.le_trans hb1.size hf, hb'⟩)
    nodup := List.nodup_nil
    marks := fun b hb => by cases hb }
  have J2 : Hid (J (Fresh T0 W w2) [] w2) := hJ _ _ _ _ h0 hT0 hbase (Turns.new hbW)
  have L2 : Hid (Lies base (Fresh T0 W w2) w2) := hT0.fresh hbase hbW.size
  have A2 := Lib.hid A2
  have HY := Lib.hid hY
  have HJ := Lib.hid hJ
  have HT0 : Hid (∀ i, T0 i → Fresh T0 W w2 i) := fun i hi => Or.inl hi
  have HXS : Hid (down t (k + 1) n p.data.toList = (listDir t.L n).flatMap (blockOf t k p.data.toList)) := rfl
  have HIH := Lib.hid IH
  have HKID := Lib.hid (fun e (he : e ∈ listDir t.L n) => kid_of (C.right H) he)
  have HF := Lib.hid hF
  have hbw2 : base ≤ w2.heap.size := Nat.le_trans hbase hbW.size
  clear hY hJ IH hu hloc hb1 hb2 hbW h0 hT0 hO HW hlist HL d0 d1 d2 hy0 hsame hW H hF
  generalize listDir t.L n = E at *
  generalize hm : E.length = m at *
  have HM := Lib.hid hm
  clear hm
  go_wp2_with fail
  refine wp_loop (fun a wr => ∃ (i : Nat) (T : Nat → Prop) (ds : List Nat) (u6 u7 u8 u14 u15 u16 u17 u18 u19 u20 u21 u22 u23 u24 u25 u26 u27 u28 u29 u30 u31 u32 u33 u34 u35 u36 u37 u38 u39 u40 u41 u42 u43 u44 u45 u46 : Value), (i ≤ m ∧ base ≤ wr.heap.size ∧ Hid (J T ((E.take i).flatMap (blockOf t k p.data.toList)) wr) ∧ Hid (Lies base T wr) ∧ Hid (∀ j, T0 j → T j) ∧ Hid (Act3 F base W q y (.func (.yield l) #[] #[]) (.pointer (some va)) n p (.slice A m c) E ds T wr)) ∧ a = { tmps := #[.func (.yield l) #[] #[], .pointer (some ⟨q, 0, none⟩), .pointer (some ⟨q + 1, 0, none⟩), .pointer (some ⟨q + 2, 0, none⟩), .pointer (some ⟨y, 0, none⟩), undef, u6, u7, u8, .pointer (some va), .int .i64 n, .slice A m c, .int .i64 m, .int .i64 i, u14, u15, u16, u17, u18, u19, u20, u21, u22, u23, u24, u25, u26, u27, u28, u29, u30, u31, u32, u33, u34, u35, u36, u37, u38, u39, u40, u41, u42, u43, u44, u45, u46], defers := ds.map markOf }) (fun a _ => m - (intOf (a.tmps.getD 13 undef)).toNat) ?_ ?_
  · exact ⟨0, _, [], _, _, _, _, _, _, _, _, _, _, _, _, _, _, _, _, _, _, _, _, _, _, _, _, _, _, _, _, _, _, _, _, _, _, _, _, ⟨Nat.zero_le _, hbw2, J2, L2, HT0, A2⟩, rfl⟩
  · rintro a wr ⟨i, T, ds, u6, u7, u8, u14, u15, u16, u17, u18, u19, u20, u21, u22, u23, u24, u25, u26, u27, u28, u29, u30, u31, u32, u33, u34, u35, u36, u37, u38, u39, u40, u41, u42, u43, u44, u45, u46, ⟨hi, hbr, hj, hl, ht0, ha⟩, rfl⟩
    clear J2 L2 HT0 A2
    by_cases hlt : i < m
    · have HNX : Hid ((E.take (i + 1)).flatMap (blockOf t k p.data.toList) = _) := rows_step (t := t) (k := k) (p := p.data.toList) (by rw [HM.out]; exact hlt)
      obtain ⟨b, o, hl1, s, rfl, hbl, hs, e0, e1⟩ := W06.Ents.at_ ha.out.ents hlt
      have HEM := Lib.hid (List.getElem_mem hl1)
      generalize E[i] = en at *
      obtain ⟨en1, en2⟩ := en
      simp only at hs e1
      subst hs
      obtain ⟨wA, hwA⟩ : ∃ wA, wr.alloc (.cells #[.string s, .int .i64 en2] 114) = wA := ⟨_, rfl⟩
      have hbA : Below wr.heap.size wr wA := by rw [← hwA]; exact below_box _ _
      obtain ⟨pE, hpE⟩ : ∃ p, wr.heap.size = p := ⟨_, rfl⟩
      have hpA : pE < wA.heap.size := by rw [← hwA, World.size_alloc]; omega
      have xE0 : wA.cell? ⟨pE, 0, none⟩ = some (.string s) := by rw [← hwA, ← hpE]; simp
      have xE1 : wA.cell? ⟨pE, 1, none⟩ = some (.int .i64 en2) := by rw [← hwA, ← hpE]; simp
      have hqr : q + 3 ≤ wr.heap.size := Nat.le_trans hqW ha.out.turn.size
      have x0 : wA.cell? ⟨q, 0, none⟩ = some (.pointer (some va)) := (hbA.cell (p := ⟨q, 0, none⟩) (by show q < _; omega)).trans ha.out.c0
      have x2 : wA.cell? ⟨q + 2, 0, none⟩ = some (.string p) := (hbA.cell (p := ⟨q + 2, 0, none⟩) (by show q + 2 < _; omega)).trans ha.out.c2
      have FA : Four q pE p s va en2 wA := ⟨x2, xE0, x0, xE1⟩
      have hqA : q + 3 ≤ wA.heap.size := Nat.le_trans hqr hbA.size
      have tA : Turns (fun k => base ≤ k) W wA := ha.out.turn.trans (Turns.of_below (hbA.mono hbr) (fun k h1 _ => h1))
      have HKK := Lib.hid (fun w' (h : Below wA.heap.size wA w') => C.kind (HREP.out w' (tA.trans (Turns.of_below (h.mono (Nat.le_trans hbr hbA.size)) (fun k h1 _ => h1)))) G.small en2)
      have HDD := Lib.hid (fun w' (h : Below wA.heap.size wA w') => C.data (HREP.out w' (tA.trans (Turns.of_below (h.mono (Nat.le_trans hbr hbA.size)) (fun k h1 _ => h1)))) G.small en2)
      obtain ⟨sD, hsD⟩ : ∃ d : ByteArray, (⟨(nodeAt t.L en2).data.toArray⟩ : ByteArray) = d := ⟨_, rfl⟩
      rw [hsD] at HDD
      obtain ⟨kd, hkd⟩ : ∃ z, (nodeAt t.L en2).kind = z := ⟨_, rfl⟩
      rw [hkd] at HKK
      obtain ⟨sP, hsP⟩ : ∃ d : ByteArray, p ++ ⟨#[47]⟩ ++ s = d := ⟨_, rfl⟩
      obtain ⟨wX, hwX⟩ : ∃ wX : World, wA.alloc (.cells #[.string ⟨#[]⟩, .int .i64 0, .string ⟨#[]⟩] 41) = wX := ⟨_, rfl⟩
      have bX : Below wA.heap.size wA wX := by rw [← hwX]; exact below_box _ _
      obtain ⟨pX, hpX⟩ : ∃ p, wA.heap.size = p := ⟨_, rfl⟩
      have SX : RBox wX pX ⟨#[]⟩ 0 ⟨#[]⟩ := by rw [← hwX, ← hpX]; exact RBox.new _
      have FX := four_on FA bX hqA hpA
      have HKA := Lib.hid (HKK.out (wA.drewN 1) (below_draws wA 1))
      have HKX := Lib.hid (HKK.out (wX.drewN 1) (on bX (below_draws wX 1)))
      have hps1 : p.size ≤ 1099511627776 := by omega
      have HSZ1 : Hid (s.size ≤ 64) := by
        obtain ⟨a, hka⟩ := HKID.out _ HEM.out
        have h1 := G.named a hka.mem hka.not1
        rw [← hka.name] at h1
        show s.size ≤ 64
        rw [Lib.size_eq]
        unfold M03.check at h1
        simp only at h1
        split at h1
        · cases h1
        · split at h1
          · cases h1
          · omega
      have hsz1 : s.size ≤ 1099511627776 := Nat.le_trans HSZ1.out (by decide)
      go_wp2_with fail
      clear hwA
      rename_i K0 hK0 K hK
      have HR1 : ∀ w : World, (Op.stringOp .add p ⟨#[47]⟩).run Tryz.prog w = .ok (.string (p ++ ⟨#[47]⟩)) w := fun w => run_string_add_sum w _ _ (by show p.size + 1 ≤ _; omega)
      have HR2 : ∀ w : World, (Op.stringOp .add (p ++ ⟨#[47]⟩) s).run Tryz.prog w = .ok (.string sP) w := fun w => by
        rw [run_string_add_sum w _ _ (by rw [_root_.ByteArray.size_append]; show p.size + 1 + s.size ≤ _; omega), hsP]
      have hrest : ∀ (pZ : Nat) (wz : World) (v17 v18 v19 v20 v21 v22 v23 v24 v25 v26 v27 v28 v29 v30 : Value), Hid (RBox wz pZ sP kd sD) → Below wA.heap.size wA wz → wA.heap.size ≤ pZ → K { tmps := #[.func (.yield l) #[] #[], .pointer (some ⟨q, 0, none⟩), .pointer (some ⟨q + 1, 0, none⟩), .pointer (some ⟨q + 2, 0, none⟩), .pointer (some ⟨y, 0, none⟩), undef, .pointer (some ⟨pE, 0, none⟩), .pointer (some ⟨pZ, 0, none⟩), u8, .pointer (some va), .int .i64 n, .slice (some ⟨b, o, none⟩) m c, .int .i64 m, .int .i64 i, .bool true, .pointer (some ⟨b, o + i * 2, none⟩), .agg #[.string s, .int .i64 en2], v17, v18, v19, v20, v21, v22, v23, v24, v25, v26, v27, v28, v29, v30, u31, u32, u33, u34, u35, u36, u37, u38, u39, u40, u41, u42, u43, u44, u45, u46], defers := ds.map markOf } wz := by
        intro pZ wz v17 v18 v19 v20 v21 v22 v23 v24 v25 v26 v27 v28 v29 v30 hbox hBz hpZ
        refine hK _ _ ((wpIn_wide (n := 9)).1 ?_)
        clear hK
        have hBr : Below wr.heap.size wr wz := on hbA hBz
        have hpEz : pE < wz.heap.size := Nat.lt_of_lt_of_le hpA hBz.size
        have FZ := four_on FA hBz hqA hpA
        have J1 : Hid (J (Fresh T wr wz) ((E.take i).flatMap (blockOf t k p.data.toList)) wz) := HJ.out _ _ _ _ hj.out hl.out hbr (Turns.new hBr)
        have L1 : Hid (Lies base (Fresh T wr wz) wz) := hl.out.fresh hbr hBr.size
        have A1 := Lib.hid (ha.out.on HF.out hbr (fun k hk => hBr.block k (hl.out k hk).2) (Turns.of_below (hBr.mono hbr) (fun k h1 _ => h1)) (T' := Fresh T wr wz) (fun k hk => Or.inl hk))
        have tE : Fresh T wr wz pE := Or.inr ⟨by omega, hpEz⟩
        have tZ : Fresh T wr wz pZ := Or.inr ⟨by have := hbA.size; omega, hbox.out.lt⟩
        have ht1 : Hid (∀ j, T0 j → Fresh T wr wz j) := fun j h => Or.inl (ht0.out j h)
        have hbz : base ≤ wz.heap.size := Nat.le_trans hbr hBr.size
        clear hl hj ha ht0 tA HKK HDD HKA HKX FA FX x0 x2 xE0 xE1 bX hwX SX hBr hBz hbA hpA e0 e1 hbl
        generalize Fresh T wr wz = T1 at *
        obtain ⟨dn, hdn⟩ : ∃ L, (E.take i).flatMap (blockOf t k p.data.toList) = L := ⟨_, rfl⟩
        rw [hdn] at J1 HNX
        obtain ⟨r, hr⟩ : ∃ r : Rw, (⟨p.data.toList ++ 47 :: s.data.toList, (nodeAt t.L en2).kind, (nodeAt t.L en2).data⟩ : Rw) = r := ⟨_, rfl⟩
        have hrv : rowV r = .agg #[.string sP, .int .i64 kd, .string sD] := by
          rw [← hr, ← hsP, ← hkd, ← hsD]
          unfold rowV
          simp only
          rw [show (⟨(p.data.toList ++ 47 :: s.data.toList).toArray⟩ : ByteArray) = p ++ ⟨#[47]⟩ ++ s from ba_ext (by simp [_root_.ByteArray.data_append])]
        have HNX2 : Hid ((E.take (i + 1)).flatMap (blockOf t k p.data.toList) = (dn ++ [r]) ++ down t k en2 sP.data.toList) := by
          have h := HNX.out
          try simp only at h
          rw [hr] at h
          have e : sP.data.toList = p.data.toList ++ 47 :: s.data.toList := by rw [← hsP]; simp [_root_.ByteArray.data_append]
          rw [e]; exact h
        have HP2 : Hid ((dn ++ [r]) ++ down t k en2 sP.data.toList <+: down t (k + 1) n p.data.toList) := by
          show _ <+: _
          rw [← HNX2.out, HXS.out]; exact rows_pre _
        have hsP2 : sP.size + 100 * k ≤ M := by
          have h64 := HSZ1.out
          rw [← hsP]
          simp only [_root_.ByteArray.size_append]
          show p.size + 1 + s.size + _ ≤ _
          omega
        clear HNX hdn hr hsP
        obtain ⟨fn1, tm1, as1, bd1, hy1, hR1⟩ := HY.out _ _ r wz J1.out L1.out (List.IsPrefix.trans ⟨_, rfl⟩ HP2.out)
        rw [hrv] at hy1
        have y0 := A1.out.y0
        obtain ⟨z2, zE0, z0, zE1⟩ := FZ
        have zZ0 := hbox.out.c0
        have zZ1 := hbox.out.c1
        have zZ2 := hbox.out.c2
        gi_wp2
        refine (round_wide _ hR1).mono ?_
        rintro e W3 ⟨rfl, hJ3, hk3⟩
        clear hy1 hR1 J1
        have A3 := Lib.hid (A1.out.on HF.out hbz (fun k hk => hk3.block k (L1.out k hk).2 (fun h => h.2 hk)) (hk3.wider (fun k h => h.1)) (T' := T1) (fun k hk => hk))
        have L3 : Hid (Lies base T1 W3) := L1.out.more hk3.size
        have hb3 : base ≤ W3.heap.size := Nat.le_trans hbz hk3.size
        have J3 : Hid (J T1 (dn ++ [r]) W3) := hJ3
        replace y0 := A3.out.y0
        replace z0 := A3.out.c0
        replace zE1 : W3.cell? ⟨pE, 1, none⟩ = some (.int .i64 en2) := hk3.cell zE1 (fun h => h.2 tE)
        replace zZ0 : W3.cell? ⟨pZ, 0, none⟩ = some (.string sP) := hk3.cell zZ0 (fun h => h.2 tZ)
        have HB := Lib.hid (below_at (.pointer (some va)) en2 sP W3 ⟨_, rfl⟩)
        clear hJ3 hk3 L1 A1 hbox z2 zE0 zZ1 zZ2 hbz tE tZ
        gi_wp2
        refine ⟨trivial, ?_⟩
        gi_at_call 31
        refine (callsIn_wide.2 HB.out).mono ?_
        rintro e w4 ⟨rfl, hw4⟩
        obtain ⟨hz4, hb4, b0, b1, b2⟩ := boxes3_facts (.pointer (some va)) en2 sP W3
        rw [← hw4] at hz4 hb4 b0 b1 b2
        clear hw4 HB
        have hs4 := HIH.out W3.heap.size en2 sP w4 (HREP.out w4 (A3.out.turn.trans (Turns.of_below (hb4.mono hb3) (fun k h1 _ => h1)))) ⟨_, HEM.out, rfl⟩ hb3 (by omega) hsP2 b0 b1 b2
        have hOw : ∀ k, Three3 W3.heap.size k → W3.heap.size ≤ k ∧ k < w4.heap.size := fun k hk => ⟨hk.1, by have := hk.2; omega⟩
        gi_wp2
        refine wp_rangeG (gf := 65) (lb := caught3 W3.heap.size) rfl (enters_of Tryz.func65 (by kernel_rfl) rfl) hs4 (fun k hk => ⟨Nat.le_trans hb3 (hOw k hk).1, (hOw k hk).2⟩) (by omega) rfl
          (fun T' pre Wn => ∃ Ta : Nat → Prop, J (fun k => T' k ∨ Ta k) (dn ++ [r] ++ pre) Wn ∧ (∀ k, T' k → ¬ Ta k) ∧ Lies base Ta Wn ∧ (∀ k, T1 k → Ta k) ∧ (∀ k, T1 k → Wn.heap[k]? = w4.heap[k]?) ∧ Turns (fun k => base ≤ k) w4 Wn)
          ?steady ?alloc ?start
          (fun x bb => { tmps := #[.func (.yield l) #[] #[], .pointer (some ⟨q, 0, none⟩), .pointer (some ⟨q + 1, 0, none⟩), .pointer (some ⟨q + 2, 0, none⟩), .pointer (some ⟨y, 0, none⟩), undef, .pointer (some ⟨pE, 0, none⟩), .pointer (some ⟨pZ, 0, none⟩), .pointer (some ⟨bb, 0, none⟩), .pointer (some va), .int .i64 n, .slice (some ⟨b, o, none⟩) m c, .int .i64 m, .int .i64 i, .bool true, .pointer (some ⟨b, o + i * 2, none⟩), .agg #[.string s, .int .i64 en2], v17, v18, v19, v20, v21, v22, v23, v24, v25, v26, v27, v28, v29, v30, .func (.yield l) #[] #[], .agg #[.string sP, .int .i64 kd, .string sD], .bool true, .bool false, .pointer (some va), .pointer (some ⟨pE, 1, none⟩), .int .i64 en2, .pointer (some ⟨pZ, 0, none⟩), .string sP, .func (.func 65) #[] (caught3 W3.heap.size), rowV x, u42, u43, u44, u45, u46], defers := [] }) rowOb ?assign ?body ?done
        case steady =>
          rintro T' s' A B ⟨Ta, i1, i2, i3, i4, i5, i6⟩ hT hA ht
          have hTT : Lies base (fun k => T' k ∨ Ta k) A := fun k hk => hk.elim (hT k) (i3 k)
          refine ⟨Ta, ?_, ?_, i3.more ht.size, i4, fun k hk => (ht.block k (i3 k (i4 k hk)).2 (fun h => i2 k h (i4 k hk))).trans (i5 k hk), i6.trans (ht.wider (fun k hk => (hT k hk).1))⟩
          · have := HJ.out _ _ _ _ i1 hTT hA (ht.wider (fun k hk => Or.inl hk))
            rwa [set_ext (T := Fresh (fun k => T' k ∨ Ta k) A B) (T' := fun k => Fresh T' A B k ∨ Ta k) (fun k => by unfold Fresh; constructor <;> (rintro ((h | h) | h) <;> simp [h]))] at this
          · rintro k (hk | hk) h
            · exact i2 k hk h
            · have := i3 k h; omega
        case alloc =>
          rintro T' s' A ob' ⟨Ta, i1, i2, i3, i4, i5, i6⟩ hT hA
          have hTT : Lies base (fun k => T' k ∨ Ta k) A := fun k hk => hk.elim (hT k) (i3 k)
          refine ⟨fun k => Ta k ∨ k = A.heap.size, ?_, ?_, ?_, fun k hk => Or.inl (i4 k hk), fun k hk => ((Turns.alloc (fun _ => False) A ob').block k (i3 k (i4 k hk)).2 id).trans (i5 k hk), i6.trans (Turns.alloc _ _ _)⟩
          · have := HJ.out _ _ _ _ i1 hTT hA (Turns.alloc _ _ ob')
            rwa [set_ext (T := Fresh (fun k => T' k ∨ Ta k) A (A.alloc ob')) (T' := fun k => T' k ∨ (Ta k ∨ k = A.heap.size)) (fun k => by
              unfold Fresh
              rw [World.size_alloc]
              constructor
              · rintro ((h | h) | h)
                · exact Or.inl h
                · exact Or.inr (Or.inl h)
                · exact Or.inr (Or.inr (by omega))
              · rintro (h | h | h)
                · exact Or.inl (Or.inl h)
                · exact Or.inl (Or.inr h)
                · exact Or.inr (by omega))] at this
          · rintro k hk (h | h)
            · exact i2 k hk h
            · have := hT k hk; omega
          · rintro k (hk | hk)
            · have := i3 k hk
              exact ⟨this.1, by rw [World.size_alloc]; omega⟩
            · rw [World.size_alloc]; omega
        case start =>
          refine ⟨T1, ?_, ?_, L3.out.more hb4.size, fun k h => h, fun k _ => rfl, Turns.refl _ _⟩
          · have := HJ.out _ _ _ _ J3.out L3.out hb3 (Turns.new hb4)
            rw [List.append_nil]
            rwa [set_ext (T := Fresh T1 W3 w4) (T' := fun k => Three3 W3.heap.size k ∨ T1 k) (fun k => by
              unfold Fresh Three3
              constructor
              · rintro (h | h)
                · exact Or.inr h
                · exact Or.inl (by omega)
              · rintro (h | h)
                · exact Or.inr (by omega)
                · exact Or.inl h)] at this
          · intro k hk h
            have := L3.out k h
            have := hk.1
            omega
        case assign =>
          intro l' x Wn K' hK'
          clear hs4
          unfold rowV rowOb at *
          gi_wp2
          exact hK'
        case body =>
          rintro l' T' pre x bb Wn ⟨Ta, i1, i2, i3, i4, i5, i6⟩ hT hb hbx hTb hpre
          have hTT : Lies base (fun k => T' k ∨ Ta k) Wn := fun k hk => hk.elim (hT k) (i3 k)
          obtain ⟨c0, c1, c2⟩ := rowOb_cells hbx
          obtain ⟨fn2, tm2, as2, bd2, hy2, hR2⟩ := HY.out _ _ x Wn i1 hTT (by
            obtain ⟨z, hz⟩ := hpre
            refine List.IsPrefix.trans ⟨z, ?_⟩ HP2.out
            rw [← hz]; simp)
          have y4 : Wn.cell? ⟨y, 0, none⟩ = some (.func (.yield l) #[] #[]) := (World.cell?_of_block (i5 y A3.out.ty)).trans ((hb4.cell (p := ⟨y, 0, none⟩) (L3.out y A3.out.ty).2).trans y0)
          clear hs4
          unfold rowV at *
          gi_wp2
          refine (round_in _ _ hR2).mono ?_
          rintro e W5 ⟨rfl, hJ5, hk5⟩
          gi_wp2
          exact ⟨hk5.wider (fun k h => ⟨h.1, fun h2 => h.2 (Or.inl h2)⟩), Ta, by rw [← List.append_assoc]; exact hJ5, i2, i3.more hk5.size, i4, fun k hk => (hk5.block k (i3 k (i4 k hk)).2 (fun h => h.2 (Or.inr (i4 k hk)))).trans (i5 k hk), i6.trans (hk5.wider fun k h => h.1)⟩
        case done =>
          rintro T' Wn ⟨Ta, i1, i2, i3, i4, i5, i6⟩ hT hOT hTd hmk htn
          have A5 := A3.out.on HF.out hb3 (w' := Wn) (fun k hk => (i5 k hk).trans (hb4.block k (L3.out k hk).2)) ((Turns.of_below (hb4.mono hb3) (fun k h1 _ => h1)).trans i6) (T' := fun k => T' k ∨ Ta k) (fun k hk => Or.inr (i4 k hk))
          have A6 : Hid (Act3 F base W q y (.func (.yield l) #[] #[]) (.pointer (some va)) n p (.slice (some ⟨b, o, none⟩) m c) E (w4.heap.size :: ds) (fun k => T' k ∨ Ta k) Wn) := { A5 with
            nodup := List.nodup_cons.2 ⟨fun h => by have := L3.out _ (A3.out.marks _ h).2; omega, A3.out.nodup⟩
            marks := fun b hb => by
              rcases List.mem_cons.1 hb with rfl | h
              · exact ⟨hmk, Or.inl hTd⟩
              · exact A5.marks b h }
          have L6 : Hid (Lies base (fun k => T' k ∨ Ta k) Wn) := fun k hk => hk.elim (hT k) (i3 k)
          have J6 : Hid (J (fun k => T' k ∨ Ta k) ((E.take (i + 1)).flatMap (blockOf t k p.data.toList)) Wn) := by show J _ _ _; rw [HNX2.out]; exact i1
          have hb6 : base ≤ Wn.heap.size := by have := hb4.size; have := i6.size; omega
          have ht6 : Hid (∀ j, T0 j → T' j ∨ Ta j) := fun j h => Or.inr (i4 j (ht1.out j h))
          have hmc : m ≤ 9223372036854775807 := by omega
          clear i1 i2 i3 i4 i5 i6 hT hOT hTd hmk htn A5 hs4 A3 J3 L3 hz4 hOw y0 z0 zE1 zZ0 b0 b1 b2 HIH HKID HJ HY
          refine hK0 _ _ ?_
          go_wp2_with fail
          exact ⟨⟨i + 1, _, w4.heap.size :: ds, _, _, _, _, _, _, _, _, _, _, _, _, _, _, _, _, _, _, _, _, _, _, _, _, _, _, _, _, _, _, _, _, _, _, _, _, ⟨by omega, hb6, J6, L6, ht6, A6⟩, by rw [show ((i + 1 : Nat) : Int) = (i : Int) + 1 from rfl]; rfl⟩, by simp [intOf]; omega⟩
      clear hK
      go_region_held3 (fun w' => w'.cell? ⟨q + 2, 0, none⟩ = some (.string p) ∧ w'.cell? ⟨pE, 0, none⟩ = some (.string s) ∧ w'.cell? ⟨q, 0, none⟩ = some (.pointer (some va)) ∧ w'.cell? ⟨pE, 1, none⟩ = some (.int .i64 en2))
        (first | exact cz | exact c3N | exact c3 | exact c2A | exact c2 | exact cX | exact FX | exact FA | go_keep)
        (first
          | (go_at_call 42; refine HKX.out.mono ?_; rintro e xA ⟨rfl, hbx⟩; have BX : Below wA.heap.size wA xA := on bX ((below_draws wX 1).trans hbx); have S1 := Lib.hid (SX.below ((below_draws wX 1).trans hbx)); have cX := four_on FA BX hqA hpA; have HDX := Lib.hid (HDD.out xA BX))
          | (go_at_call 42; refine HKA.out.mono ?_; rintro e x2 ⟨rfl, hbx⟩; have BX : Below wA.heap.size wA x2 := (below_draws wA 1).trans hbx; have c2 := four_on FA BX hqA hpA; have HDW := Lib.hid (HDD.out x2 BX); obtain ⟨p2, hp2⟩ : ∃ p, x2.heap.size = p := ⟨_, rfl⟩; obtain ⟨x2A, h2A⟩ : ∃ w', x2.alloc (.cells #[.string ⟨#[]⟩, .int .i64 0, .string ⟨#[]⟩] 41) = w' := ⟨_, rfl⟩; have b2A : Below x2.heap.size x2 x2A := (by rw [← h2A]; exact below_box _ _); have S2A := Lib.hid (show RBox x2A p2 ⟨#[]⟩ 0 ⟨#[]⟩ by rw [← hp2, ← h2A]; exact RBox.new _); have BX2 := on BX b2A; have c2A := four_on FA BX2 hqA hpA; have HDN := Lib.hid (HDD.out x2A BX2))
          | (go_at_call 43; refine HDX.out.mono ?_; rintro e x3 ⟨rfl, hb3⟩; have B3 := on BX hb3; have S3 := Lib.hid (S1.out.below hb3); have c3 := four_on FA B3 hqA hpA; have m0 := S3.out.c0; have m1 := S3.out.c1; have m2 := S3.out.c2; have v0 := S3.out.fr 0; have v1 := S3.out.fr 1; have v2 := S3.out.fr 2; obtain ⟨wz, hwz⟩ : ∃ w', (((x3.setCell ⟨pX, 0, none⟩ (.string sP)).setCell ⟨pX, 1, none⟩ (.int .i64 kd)).setCell ⟨pX, 2, none⟩ (.string sD)) = w' := ⟨_, rfl⟩; have SZB := Lib.hid (show RBox wz pX sP kd sD by rw [← hwz]; exact S3.out.stored _ _ _); have BZ := Lib.hid (show Below wA.heap.size wA wz by rw [← hwz]; exact stored3 B3 (by omega) _ _ _); have cz := four_on FA BZ.out hqA hpA)
          | (go_at_call 43; refine HDW.out.mono ?_; rintro e x3 ⟨rfl, hb3⟩; have B3 := on BX hb3; have c3 := four_on FA B3 hqA hpA; obtain ⟨p3, hp3⟩ : ∃ p, x3.heap.size = p := ⟨_, rfl⟩; obtain ⟨x3N, h3N⟩ : ∃ w', x3.alloc (.cells #[.string ⟨#[]⟩, .int .i64 0, .string ⟨#[]⟩] 41) = w' := ⟨_, rfl⟩; have b3N : Below x3.heap.size x3 x3N := (by rw [← h3N]; exact below_box _ _); have S3N := Lib.hid (show RBox x3N p3 ⟨#[]⟩ 0 ⟨#[]⟩ by rw [← hp3, ← h3N]; exact RBox.new _); have B3N := on B3 b3N; have hz3 := B3.size; have c3N := four_on FA B3N hqA hpA; have m0 := S3N.out.c0; have m1 := S3N.out.c1; have m2 := S3N.out.c2; have v0 := S3N.out.fr 0; have v1 := S3N.out.fr 1; have v2 := S3N.out.fr 2; obtain ⟨wz, hwz⟩ : ∃ w', (((x3N.setCell ⟨p3, 0, none⟩ (.string sP)).setCell ⟨p3, 1, none⟩ (.int .i64 kd)).setCell ⟨p3, 2, none⟩ (.string sD)) = w' := ⟨_, rfl⟩; have SZB := Lib.hid (show RBox wz p3 sP kd sD by rw [← hwz]; exact S3N.out.stored _ _ _); have BZ := Lib.hid (show Below wA.heap.size wA wz by rw [← hwz]; exact stored3 B3N (by omega) _ _ _); have cz := four_on FA BZ.out hqA hpA)
          | (go_at_call 43; refine HDN.out.mono ?_; rintro e x3 ⟨rfl, hb3⟩; have B3 := on BX2 hb3; have S3 := Lib.hid (S2A.out.below hb3); have hz2 := BX.size; have c3 := four_on FA B3 hqA hpA; have m0 := S3.out.c0; have m1 := S3.out.c1; have m2 := S3.out.c2; have v0 := S3.out.fr 0; have v1 := S3.out.fr 1; have v2 := S3.out.fr 2; obtain ⟨wz, hwz⟩ : ∃ w', (((x3.setCell ⟨p2, 0, none⟩ (.string sP)).setCell ⟨p2, 1, none⟩ (.int .i64 kd)).setCell ⟨p2, 2, none⟩ (.string sD)) = w' := ⟨_, rfl⟩; have SZB := Lib.hid (show RBox wz p2 sP kd sD by rw [← hwz]; exact S3.out.stored _ _ _); have BZ := Lib.hid (show Below wA.heap.size wA wz by rw [← hwz]; exact stored3 B3 (by omega) _ _ _); have cz := four_on FA BZ.out hqA hpA))
      all_goals (
        exact hrest _ _ _ _ _ _ _ _ _ _ _ _ _ _ _ _ SZB BZ.out (by omega))
    · have hie : i = m := by omega
      subst hie
      have HJE : Hid (J T (down t (k + 1) n p.data.toList) wr) := by
        have := hj.out
        rw [← HM.out, List.take_length] at this
        show J _ _ _
        rw [HXS.out]; exact this
      go_wp2_with fail
      refine leave_all ds wr ha.out.nodup (fun b hb => (ha.out.marks b hb).1) (fun W' ht => ?_)
      have hT : Turns T wr W' := ht.wider (fun b hb => (ha.out.marks b hb).2)
      exact ⟨_, results_none rfl _ _ _, ⟨_, rfl⟩, ha.out.turn.trans (ht.wider (fun b hb => (hl.out b (ha.out.marks b hb).2).1)), Fresh T wr W', HJ.out _ _ _ _ HJE.out hl.out hbr hT, hl.out.fresh hbr ht.size, fun j hj => Or.inl (ht0.out j hj)⟩
end Go.Proofs.YtpihldcchjoinaaGreatDoor.W12
/-
  Slices of texts: the first ones left out, as the walk spells the cut's value. Plain lemmas on worlds, for every program; no condition but those that each theorem bears.
-/
namespace Go.Proofs.YtpihldcchjoinaaGreatDoor.Strs
open Go Go.RowKit

/-- the first ones left out, as the walk spells the cut's value -/
theorem Texts.drop {B : Nat} {w : World} {A : Option Addr} {n c k : Nat} {L : List (List UInt8)} (h : Texts B w (.slice A n c) L) (hk : k ≤ n) : Texts B w (.slice (A.map fun x => x.add k) (n - k) (c - k)) (L.drop k) := by
  obtain ⟨hn, hc1, hc2⟩ := h.count
  subst hn
  obtain ⟨A0, c0, e, h1, h2, h3⟩ := h
  cases e
  refine ⟨_, c - k, by rw [List.length_drop], by rw [List.length_drop]; omega, by omega, fun h0 => ?_⟩
  rw [List.length_drop] at h0
  obtain ⟨ad, rfl, hb, hc⟩ := h3 (by omega)
  refine ⟨ad.add k, rfl, by rw [block_add]; exact hb, fun j hj => ?_⟩
  rw [List.length_drop] at hj
  have := hc (k + j) (by omega)
  rw [show (ad.add k).add j = ad.add (k + j) by obtain ⟨b, o, s⟩ := ad; rw [show s = none by simpa [Addr.add] using World.cell?_spot (hc 0 (by omega)), Addr.add_lit, Addr.add_lit, Addr.add_lit, Nat.add_assoc]]
  rw [this]
  congr 2
  simp
theorem Texts.drop_all {B : Nat} {w : World} {A : Option Addr} {n k : Nat} {L : List (List UInt8)} (h : Texts B w (.slice A n k) L) (hk : k ≤ n) : Texts B w (.slice A (n - k) 0) (L.drop k) := by
  obtain ⟨hn, hc1, hc2⟩ := h.count
  subst hn
  obtain rfl : k = L.length := by omega
  refine ⟨A, 0, by rw [List.length_drop], by rw [List.length_drop]; omega, Nat.zero_le _, fun h0 => ?_⟩
  rw [List.length_drop] at h0
  omega
end Go.Proofs.YtpihldcchjoinaaGreatDoor.Strs
