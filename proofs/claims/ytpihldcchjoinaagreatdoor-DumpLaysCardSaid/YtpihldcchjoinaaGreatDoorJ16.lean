/-
  Texts joined, in build order, each with its own comment and its own conditions: W08Lives, W09Asks, W09Task, W07Lives, W07Goes, W09Does, W12RefLay, W12Rows, W12Paths, W03Rune.
-/
import Derived.Test.YtpihldcchjoinaaGreatDoorJ15
import Derived.Test.YtpihldcchjoinaaGreatDoorJ14
import Derived.Test.YtpihldcchjoinaaGreatDoorJ04
import Derived.Deep.RegionHeld3
import Derived.Test.YtpihldcchjoinaaGreatDoorJ13
import Derived.Test.YtpihldcchjoinaaGreatDoorJ11
import Derived.Test.YtpihldcchjoinaaGreatDoorJ09
import Derived.Test.YtpihldcchjoinaaGreatDoorJ03
import Derived.Laws.RangeAny
import Derived.LoopTactic
/-
  Layer 8 (seek), a walk of the law's lives over the contracts: it returns true; nothing that was there is changed.
-/
namespace Go.Proofs.YtpihldcchjoinaaGreatDoor.W08
open Go Go.RowKit Go.Proofs.YtpihldcchjoinaaGreatDoor.Strs Go.Proofs.YtpihldcchjoinaaGreatDoor.Recs Go.Proofs.YtpihldcchjoinaaGreatDoor.Range
open Go.Proofs.YtpihldcchjoinaaGreatDoor.M07 (Tr Nd nodeAt inDir Right put put_right)
open Go.Proofs.YtpihldcchjoinaaGreatDoor.M08
open Go.Proofs.YtpihldcchjoinaaGreatDoor.M03 (check)
open Go.Proofs.YtpihldcchjoinaaGreatDoor.W07 (Small Trees Nodes)
open Go.Proofs.YtpihldcchjoinaaGreatDoor.Kit (ret_str ret_bool ret_int mk_of mk_bytes ba_ext below_draws on)

end Go.Proofs.YtpihldcchjoinaaGreatDoor.W08
/-
  Layer 9 (posix), walks over the contracts: the law's lives, and PosixAsks: each returns true; nothing that was there is changed. The conditions stand in the statements.
-/
namespace Go.Proofs.YtpihldcchjoinaaGreatDoor.W09
open Go Go.RowKit Go.Proofs.YtpihldcchjoinaaGreatDoor.Strs Go.Proofs.YtpihldcchjoinaaGreatDoor.Recs Go.Proofs.YtpihldcchjoinaaGreatDoor.Range
open Go.Proofs.YtpihldcchjoinaaGreatDoor.M07 (Tr Nd nodeAt inDir Right listDir)
open Go.Proofs.YtpihldcchjoinaaGreatDoor.M08 Go.Proofs.YtpihldcchjoinaaGreatDoor.M09
open Go.Proofs.YtpihldcchjoinaaGreatDoor.W07 (Small Trees Wrote Nodes nodeV TreeBox heap_top)
open Go.Proofs.YtpihldcchjoinaaGreatDoor.W08 (Sn Snodes snC snC_len isFew few_is made)
open Go.Proofs.YtpihldcchjoinaaGreatDoor.Kit (ret_str ret_bool ret_int mk_of mk_bytes ba_ext below_draws on)

def twoN : List Sn := [⟨-1, [97], 1, []⟩, ⟨-1, [108], 3, [97]⟩]
def twoT : Tr := ⟨[⟨1, 1, [], 1, []⟩, ⟨2, 1, [97], 1, []⟩, ⟨3, 1, [108], 3, [97]⟩], 3⟩
def threeT : Tr := ⟨[⟨1, 1, [], 1, []⟩, ⟨2, 1, [97], 1, []⟩, ⟨3, 1, [108], 3, [97]⟩, ⟨4, 2, [102], 2, [120]⟩], 4⟩
theorem two_made : (made twoN).1 = twoT := by rfl
theorem two_within : Within twoT 61 := by rw [← two_made]; exact made_within (by decide)
theorem two_find : M08.find twoT [108, 47, 102] true = (0, 5) := by
  have e : goTo twoT 1 [[108], [102]] true 0 = (0, 1, 5) := by
    rw [go_link (by rfl) (by decide) (by rfl) (by decide) (by decide) (by decide)]
    show goTo twoT 1 [[97], [102]] true 1 = _
    rw [go_on (by rfl) (by decide) (by rfl) (by decide) (Or.inl (by decide))]
    show goTo twoT 2 [[102]] true 1 = _
    rw [go_none (by rfl) (by decide) (by rfl) (by decide)]
  unfold M08.find
  rw [if_neg (by decide), if_neg (by decide)]
  show ((goTo twoT 1 [[108], [102]] true 0).1, _) = _
  rw [show M04.parts [108, 47, 102] = [[108], [102]] from rfl, e]
theorem two_spot : spot twoT [108, 47, 102] = (2, [102], 0) := by
  have e : goTo twoT 1 [[108]] true 0 = (2, 1, 0) := by
    rw [go_link (by rfl) (by decide) (by rfl) (by decide) (by decide) (by decide)]
    show goTo twoT 1 [[97]] true 1 = _
    rw [go_on (by rfl) (by decide) (by rfl) (by decide) (Or.inl (by decide))]
    show goTo twoT 2 [] true 1 = _
    rw [go_nil]
  unfold spot
  rw [if_neg (by decide), if_neg (by decide), if_neg (by decide)]
  have hp : M04.parts [108, 47, 102] = [[108], [102]] := rfl
  simp only [hp, show ([[108], [102]] : List (List UInt8)).dropLast = [[108]] from rfl, e]
  rfl
theorem two_write : write twoT [108, 47, 102] [120] = (threeT, 0) := by
  unfold write
  rw [two_find, if_neg (by decide), if_neg (by decide), two_spot, if_neg (by decide), if_neg (by decide)]
  unfold putAt
  rw [two_spot, if_neg (by decide)]
  rfl
end Go.Proofs.YtpihldcchjoinaaGreatDoor.W09
/-
  Layer 9 (posix): tasks as records; the law's Short and do: what each returns. The conditions stand in the statements.
-/
namespace Go.Proofs.YtpihldcchjoinaaGreatDoor.W09
open Go Go.RowKit Go.Proofs.YtpihldcchjoinaaGreatDoor.Strs Go.Proofs.YtpihldcchjoinaaGreatDoor.Recs Go.Proofs.YtpihldcchjoinaaGreatDoor.Range
open Go.Proofs.YtpihldcchjoinaaGreatDoor.M07 (Tr Nd nodeAt inDir Right listDir)
open Go.Proofs.YtpihldcchjoinaaGreatDoor.M08 Go.Proofs.YtpihldcchjoinaaGreatDoor.M09
open Go.Proofs.YtpihldcchjoinaaGreatDoor.W07 (Small Trees Wrote Nodes nodeV TreeBox heap_top)
open Go.Proofs.YtpihldcchjoinaaGreatDoor.Kit (ret_str ret_bool ret_int mk_of mk_bytes ba_ext below_draws on)

structure Tk where
  kind : Int
  path : Bytes
  text : Bytes
def tkC (x : Tk) : List Value := [.int .i64 x.kind, strV x.path, strV x.text]
theorem tkC_len (x : Tk) : (tkC x).length = 3 := rfl
abbrev Tasks (B : Nat) (w : World) (v : Value) (L : List Tk) : Prop := Recs tkC 3 B w v L
theorem Tasks.at_ {B : Nat} {w : World} {L : List Tk} {A : Option Addr} {n c : Nat} (h : Tasks B w (.slice A n c) L) {k : Nat} (hk : k < n) : ∃ (b o : Nat) (hl : k < L.length), A = some ⟨b, o, none⟩ ∧ b < B ∧ w.cell? ⟨b, o + k * 3, none⟩ = some (.int .i64 (L[k]).kind) ∧ w.cell? ⟨b, o + k * 3 + 1, none⟩ = some (.string ⟨(L[k]).path.toArray⟩) ∧ w.cell? ⟨b, o + k * 3 + 2, none⟩ = some (.string ⟨(L[k]).text.toArray⟩) := by
  obtain ⟨b, o, hl, rfl, hb, hc⟩ := Recs.flat_ h tkC_len (by omega) hk
  exact ⟨b, o, hl, rfl, hb, hc 0 (by omega), hc 1 (by omega), hc 2 (by omega)⟩
theorem wrote_after {Rep : (Nat → Prop) → World → Value → Tr → Prop} {F : Nat → Prop} {w w1 w' : World} {v : Value} {t' : Tr} (hb : Below w.heap.size w w1) (h : Wrote Rep F v t' w1 w') : Wrote Rep F v t' w w' := by
  obtain ⟨F', h1, h2, h3⟩ := h
  exact ⟨F', h1, (Turns.new hb).trans h2, fun k hk => (h3 k hk).imp id (fun h => Nat.le_trans hb.size h)⟩
end Go.Proofs.YtpihldcchjoinaaGreatDoor.W09
/-
  Layer 7 (tree), a walk of the law's lives over the contracts: it returns true; nothing that was there is changed.
-/
namespace Go.Proofs.YtpihldcchjoinaaGreatDoor.W07
open Go Go.RowKit Go.Proofs.YtpihldcchjoinaaGreatDoor.Strs Go.Proofs.YtpihldcchjoinaaGreatDoor.Recs Go.Proofs.YtpihldcchjoinaaGreatDoor.M07 Go.Proofs.YtpihldcchjoinaaGreatDoor.Range
open Go.Proofs.YtpihldcchjoinaaGreatDoor.Kit (ret_str ret_bool ret_int mk_of mk_bytes ba_ext below_draws on)

theorem one_put : put M07.new 1 [97] 1 [] = (⟨[⟨1, 1, [], 1, []⟩, ⟨2, 1, [97], 1, []⟩], 2⟩, 2, 0) :=
  put_works (t := M07.new) (by decide +kernel)
end Go.Proofs.YtpihldcchjoinaaGreatDoor.W07
/-
  Layer 7 (tree), a walk of the law TreeDoes over the contracts: it returns true, at every list of acts; nothing that was there is changed.
-/
namespace Go.Proofs.YtpihldcchjoinaaGreatDoor.W07
open Go Go.RowKit Go.Proofs.YtpihldcchjoinaaGreatDoor.Strs Go.Proofs.YtpihldcchjoinaaGreatDoor.Recs Go.Proofs.YtpihldcchjoinaaGreatDoor.M07 Go.Proofs.YtpihldcchjoinaaGreatDoor.Range
open Go.Proofs.YtpihldcchjoinaaGreatDoor.Kit (ret_str ret_bool ret_int mk_of mk_bytes ba_ext below_draws on)

theorem put_more (t : Tr) (d : Int) (s : Bytes) (k : Int) (x : Bytes) : (put t d s k x).1.L.length ≤ t.L.length + 1 ∧ (put t d s k x).1.last ≤ t.last + 1 := by
  unfold put
  split
  · exact ⟨by show t.L.length ≤ _; omega, by show t.last ≤ _; omega⟩
  · exact ⟨by show (t.L ++ [_]).length ≤ _; simp, by show t.last + 1 ≤ _; omega⟩
/-- what is held between two rounds -/
structure Goes (Rep : (Nat → Prop) → World → Value → Tr → Prop) (w wr : World) (p0 : Nat) (pv : Value) (k : Nat) (t : Tr) (F : Nat → Prop) (u : Value) : Prop where
  rep : Rep F wr pv t
  box : TreeBox wr p0 u t.last
  nodes : Nodes wr.heap.size wr u t.L
  off : Off F u
  offp : ¬ F p0
  new : ∀ i, F i → w.heap.size ≤ i
  len : t.L.length ≤ k + 1
  last : t.last ≤ k + 1
  below : Below w.heap.size w wr
  high : w.heap.size ≤ p0
/-- nodes don't lie in a box of a tree -/
theorem off_box {w : World} {p B n c : Nat} {A : Option Addr} {u' : Value} {last : Int} {L : List Nd} (hb : TreeBox w p (.slice A n c) last) (hn : Nodes B w u' L) (h0 : 0 < L.length) : Off (fun k => k = p) u' := by
  obtain ⟨A', c', rfl, h1, h2⟩ := hn.form
  obtain ⟨b, o, hl, rfl, hlt, hc0, hc1, _⟩ := Nodes.at_ hn h0
  intro b' o' n' c'' e hk
  cases e
  subst hk
  rw [Nat.zero_mul, Nat.add_zero] at hc0 hc1
  have hcell : ∀ j, w.cell? ⟨b, j, none⟩ = (#[Value.slice A n c, Value.int .i64 last] : Array Value)[j]? := fun j => cell_of_row w _ j _ _ (0, 0) hb
  rw [hcell] at hc0 hc1
  match o with
  | 0 => simp at hc0
  | 1 => simp at hc1
  | o + 2 => simp at hc0
theorem box_stored2 {w : World} {p : Nat} {v u : Value} {l last : Int} (h : TreeBox w p v l) : TreeBox ((w.setCell ⟨p, 0, none⟩ u).setCell ⟨p, 1, none⟩ (.int .i64 last)) p u last := set_heap (set_heap h 0 u) 1 (.int .i64 last)
end Go.Proofs.YtpihldcchjoinaaGreatDoor.W07
/-
  Layer 9 (posix), a walk of the law PosixDoes over the contracts: it returns true, at every list of tasks; nothing that was there is changed. The conditions stand in the statement.
-/
namespace Go.Proofs.YtpihldcchjoinaaGreatDoor.W09
open Go Go.RowKit Go.Proofs.YtpihldcchjoinaaGreatDoor.Strs Go.Proofs.YtpihldcchjoinaaGreatDoor.Recs Go.Proofs.YtpihldcchjoinaaGreatDoor.Range
open Go.Proofs.YtpihldcchjoinaaGreatDoor.M07 (Tr Nd nodeAt inDir Right listDir)
open Go.Proofs.YtpihldcchjoinaaGreatDoor.M08 Go.Proofs.YtpihldcchjoinaaGreatDoor.M09
open Go.Proofs.YtpihldcchjoinaaGreatDoor.W07 (Small Trees Wrote Nodes nodeV TreeBox heap_top TreeErr FromOr Off turns_box nodes_turns off_from off_same right_full same_tree)
open Go.Proofs.YtpihldcchjoinaaGreatDoor.W08 (Sn Snodes snC snC_len isFew few_is made)
open Go.Proofs.YtpihldcchjoinaaGreatDoor.Kit (ret_str ret_bool ret_int mk_of mk_bytes ba_ext below_draws on)

/-- where the loop stands: the tree, the plain tree and its box -/
structure Goes9 (Rep : (Nat → Prop) → World → Value → Tr → Prop) (w0 wr : World) (p0 : Nat) (pv : Value) (n : Nat) (t : Tr) (F : Nat → Prop) (u : Value) : Prop where
  rep : Rep F wr pv t
  box : TreeBox wr p0 u t.last
  nodes : Nodes wr.heap.size wr u t.L
  off : Off F u
  offp : ¬ F p0
  apart : Off (fun k => k = p0) u
  within : Within t n
  new : ∀ k, F k → w0.heap.size ≤ k
  pnew : w0.heap.size ≤ p0
  below : Below w0.heap.size w0 wr
theorem root_last {t : Tr} (h : Right t) : 1 ≤ t.last := by
  obtain ⟨r, hr⟩ := h.root
  exact (h.ends ⟨1, 1, [], 1, []⟩ (by rw [hr]; exact List.mem_cons_self)).2
theorem two_fits {t : Tr} {n : Nat} {w : World} {u : Value} (h : Within t n) (hn : n ≤ 1048576) (N : Nodes w.heap.size w u t.L) : Fits t w u :=
  ⟨h.fit, Nat.le_trans h.len hn, right_full h.right, by have := root_last h.right; omega, by have := h.last; omega, N⟩
/-- the cells that a round's first call reads -/
theorem five_turns {T : Nat → Prop} {w' w'' : World} {p b q : Nat} {y0 y1 y2 y3 y4 : Value} (h : w'.cell? ⟨p, 0, none⟩ = some y0 ∧ w'.cell? ⟨p, 1, none⟩ = some y1 ∧ w'.cell? ⟨b, q, none⟩ = some y2 ∧ w'.cell? ⟨b, q + 1, none⟩ = some y3 ∧ w'.cell? ⟨b, q + 2, none⟩ = some y4) (t : Turns T w' w'') (hp : ¬ T p) (hb : ¬ T b) :
    w''.cell? ⟨p, 0, none⟩ = some y0 ∧ w''.cell? ⟨p, 1, none⟩ = some y1 ∧ w''.cell? ⟨b, q, none⟩ = some y2 ∧ w''.cell? ⟨b, q + 1, none⟩ = some y3 ∧ w''.cell? ⟨b, q + 2, none⟩ = some y4 :=
  ⟨t.cell h.1 hp, t.cell h.2.1 hp, t.cell h.2.2.1 hb, t.cell h.2.2.2.1 hb, t.cell h.2.2.2.2 hb⟩
theorem five_on {w' w'' : World} {p b q : Nat} {y0 y1 y2 y3 y4 : Value} (h : w'.cell? ⟨p, 0, none⟩ = some y0 ∧ w'.cell? ⟨p, 1, none⟩ = some y1 ∧ w'.cell? ⟨b, q, none⟩ = some y2 ∧ w'.cell? ⟨b, q + 1, none⟩ = some y3 ∧ w'.cell? ⟨b, q + 2, none⟩ = some y4) (hB : Below w'.heap.size w' w'') :
    w''.cell? ⟨p, 0, none⟩ = some y0 ∧ w''.cell? ⟨p, 1, none⟩ = some y1 ∧ w''.cell? ⟨b, q, none⟩ = some y2 ∧ w''.cell? ⟨b, q + 1, none⟩ = some y3 ∧ w''.cell? ⟨b, q + 2, none⟩ = some y4 :=
  five_turns h (Turns.new (T := fun _ => False) hB) id id
/-- what stands behind a round's first call and its store -/
structure Mid (w wa w9 : World) (pQ : Nat) (u8 : Value) (T' : Tr) (u : Value) : Prop where
  below : Below wa.heap.size wa w9
  box : TreeBox w9 pQ u8 T'.last
  nodes : Nodes w9.heap.size w9 u8 T'.L
  from_ : FromOr u wa.heap.size u8
theorem Goes9.boxed {Rep : (Nat → Prop) → World → Value → Tr → Prop} (C : Trees Rep) {w0 wr wa : World} {p0 n : Nat} {pv u : Value} {t : Tr} {F : Nat → Prop} (h : Goes9 Rep w0 wr p0 pv n t F u) (hb : Below wr.heap.size wr wa) : Goes9 Rep w0 wa p0 pv n t F u :=
  ⟨C.below h.rep hb, h.box.below hb, (h.nodes.below hb).more hb.size, h.off, h.offp, h.apart, h.within, h.new, h.pnew, h.below.trans (hb.mono h.below.size)⟩
/-- behind the round's second store: the plain tree is the next one; the tree itself is still the old one -/
structure Next (Rep : (Nat → Prop) → World → Value → Tr → Prop) (w0 wr w10 : World) (p0 p8 : Nat) (pv : Value) (n : Nat) (t T' : Tr) (F : Nat → Prop) (u u8 : Value) : Prop where
  rep : Rep F w10 pv t
  box : TreeBox w10 p0 u8 T'.last
  old : TreeBox w10 p8 u t.last
  nodes : Nodes w10.heap.size w10 u8 T'.L
  olds : Nodes w10.heap.size w10 u t.L
  off : Off F u8
  below : Below w0.heap.size w0 w10
  lt : p0 < w10.heap.size
  off8 : ¬ F p8
  apart : Off (fun k => k = p0) u8
theorem Goes9.next {Rep : (Nat → Prop) → World → Value → Tr → Prop} (C : Trees Rep) {w0 wr wa w9 : World} {p0 pQ n : Nat} {pv u u8 : Value} {t T' : Tr} {F : Nat → Prop} (g : Goes9 Rep w0 wr p0 pv n t F u) (ha : wr.alloc (.cells #[u, .int .i64 t.last] 28) = wa) (m : Mid w0 wa w9 pQ u8 T' u) :
    Next Rep w0 wr ((w9.setCell ⟨p0, 0, none⟩ u8).setCell ⟨p0, 1, none⟩ (.int .i64 T'.last)) p0 wr.heap.size pv n t T' F u u8 := by
  have hba : Below wr.heap.size wr wa := by rw [← ha]; exact (Below.refl _ _).alloc (Nat.le_refl _) _
  have T8 : TreeBox wa wr.heap.size u t.last := by rw [← ha]; exact heap_top _ _
  have hsa : wa.heap.size = wr.heap.size + 1 := by rw [← ha]; exact World.size_alloc _ _
  have ga := g.boxed C hba
  have g9 := ga.boxed C m.below
  have hp0 := g.box.lt
  have hlow := C.low g.rep
  have tp := turns_box w9 p0 u8 (.int .i64 T'.last)
  have hap : Off (fun k => k = p0) u8 := off_from g.apart (fun k hk => by have : k = p0 := hk; omega) m.from_
  have h9 := m.below.size
  exact {
    rep := C.keep g9.rep (fun k hk => tp.block k (by have := hlow k hk; omega) (fun e => g.offp (by have : k = p0 := e; rw [← this]; exact hk))) tp.size
    box := W07.box_stored2 g9.box
    old := (T8.below m.below).turns tp (by omega)
    nodes := (nodes_turns m.nodes tp hap).more tp.size
    olds := (nodes_turns g9.nodes tp g.apart).more tp.size
    off := off_from g.off (fun k hk => by have := hlow k hk; omega) m.from_
    below := (g9.below.setCell g.pnew _).setCell g.pnew _
    lt := by have := tp.size; omega
    off8 := fun hk => by have := hlow _ hk; omega
    apart := hap }
/-- the round's end -/
theorem Next.goes {Rep : (Nat → Prop) → World → Value → Tr → Prop} (C : Trees Rep) {w0 wr w10 w11 w12 : World} {p0 p8 n : Nat} {pv u u8 : Value} {t T' : Tr} {F F' : Nat → Prop} (g : Goes9 Rep w0 wr p0 pv n t F u) (x : Next Rep w0 wr w10 p0 p8 pv n t T' F u u8) (k : Kept t T')
    (h1 : Rep F' w11 pv T') (h2 : Turns F w10 w11) (h3 : ∀ k, F' k → F k ∨ w10.heap.size ≤ k) (hb : Below w11.heap.size w11 w12) : Goes9 Rep w0 w12 p0 pv (n + 1) T' F' u8 :=
  have hF' : ∀ k, F' k → w0.heap.size ≤ k := fun k hk => (h3 k hk).elim (g.new k) (fun h => Nat.le_trans x.below.size h)
  { rep := C.below h1 hb
    box := (x.box.turns h2 g.offp).below hb
    nodes := ((nodes_turns x.nodes h2 x.off).more h2.size |>.below hb).more hb.size
    off := off_same x.nodes (right_full (k.right g.within.right)) x.off h3
    offp := fun hk => (h3 _ hk).elim g.offp (fun h => by have := x.lt; omega)
    apart := x.apart
    within := g.within.next k
    new := hF'
    pnew := g.pnew
    below := (x.below.trans (h2.below g.new x.below.size)).trans (hb.mono (Nat.le_trans x.below.size h2.size)) }
theorem mid_in {w wa wN : World} {pQ n c : Nat} {A : Option Addr} {l : Int} {u8 u : Value} {T' : Tr} (hb : Below wa.heap.size wa wN) (h : TreeBox wN pQ (.slice A n c) l) (hn : Nodes wN.heap.size wN u8 T'.L) (h0 : 0 < T'.L.length) (hq : wa.heap.size ≤ pQ) (hf : FromOr u wa.heap.size u8) :
    Mid w wa ((wN.setCell ⟨pQ, 0, none⟩ u8).setCell ⟨pQ, 1, none⟩ (.int .i64 T'.last)) pQ u8 T' u :=
  have ht := turns_box wN pQ u8 (.int .i64 T'.last)
  ⟨(hb.setCell hq _).setCell hq _, W07.box_stored2 h, (nodes_turns hn ht (W07.off_box h hn h0)).more ht.size, hf⟩
end Go.Proofs.YtpihldcchjoinaaGreatDoor.W09
/-
  Layer 12 (dump), walks of the plain answers All and Lay: new memory may be laid, nothing that was there is changed. The conditions stand in the statements.
-/
namespace Go.Proofs.YtpihldcchjoinaaGreatDoor.W12
set_option maxRecDepth 100000
open Go Go.RowKit Go.Proofs.YtpihldcchjoinaaGreatDoor.Strs Go.Proofs.YtpihldcchjoinaaGreatDoor.Recs Go.Proofs.YtpihldcchjoinaaGreatDoor.Range
open Go.Proofs.YtpihldcchjoinaaGreatDoor.M12
open Go.Proofs.YtpihldcchjoinaaGreatDoor.M07 (Tr Nd nodeAt Right height upOf at_some)
open Go.Proofs.YtpihldcchjoinaaGreatDoor.M08 (Named Fit)
open Go.Proofs.YtpihldcchjoinaaGreatDoor.M09 (Kept putAt write)
open Go.Proofs.YtpihldcchjoinaaGreatDoor.W07 (Off heap_top Nodes TreeBox TreeErr FromOr nodes_turns off_from right_full turns_box)
open Go.Proofs.YtpihldcchjoinaaGreatDoor.W09 (Within Fits off_nodes FromOr.low Mid mid_in two_fits)
open Go.Proofs.YtpihldcchjoinaaGreatDoor.W11
open Go.Proofs.YtpihldcchjoinaaGreatDoor.Kit (ret_str ret_bool ret_int mk_of mk_bytes ba_ext below_draws on)

theorem refAll_any (t : Tr) (hR : Right t) (hN : Named t) (hF : Fit t) (htl : t.L.length ≤ 1048576) (u : Value) (w : World) (hu : Nodes w.heap.size w u t.L) :
    Calls Tryz.prog 16 #[.agg #[u, .int .i64 t.last]] w (HandsR w (allOf t)) := by
  have HRW : Hid (allOf t = (rowsAt t [47]).1) := rfl
  have hq : (⟨#[47]⟩ : ByteArray).data.toList = [47] := rfl
  obtain ⟨Au, cu, rfl, -, -⟩ := hu.form
  obtain ⟨w1, hw1⟩ : ∃ w1 : World, w.alloc (.cells #[.slice Au t.L.length cu, .int .i64 t.last] 28) = w1 := ⟨_, rfl⟩
  have B1 : Hid (Below w.heap.size w w1) := by rw [← hw1]; exact below_box _ _
  have R1 : Hid (W08.RefBox w1 w.heap.size (.slice Au t.L.length cu) t.last) := by rw [← hw1]; exact W08.RefBox.new _ _ _
  have x0 := R1.out.c0
  have x1 := R1.out.c1
  have HRR := refRows_any t hR hN hF htl (.slice Au t.L.length cu) ⟨#[47]⟩ w1 ((hu.below B1.out).more B1.out.size)
  rw [hq] at HRR
  have HRR := Lib.hid HRR
  generalize allOf t = R at *
  generalize rowsAt t [47] = Q at *
  go_enter Tryz.func16, Tryz.ntmps16
  go_wp2_with fail
  refine HRR.out.mono ?_
  rintro e w2 ⟨v, rfl, hv, hb⟩
  go_wp2_with fail
  go_ret
  exact ⟨v, rfl, by rw [HRW.out]; exact hv, on B1.out hb⟩

/-! Lay -/
theorem results_cell_two {fn : Func} {p t s : Tmp} {ty : TypeId} (h : fn.results = #[.cell p ty, .tmp t, .tmp s]) (tmps : Array Value) (P : Program) (w : World) :
    (results fn tmps).run P w = ((asAddr (tmps.getD p undef)).run P w).andThen fun a w₁ => ((loadVar ty a).run P w₁).andThen fun v w₂ => .ok (.tuple #[v, tmps.getD t undef, tmps.getD s undef]) w₂ := by
  simp only [results, h]
  simp [Sem.run_bind, Result.andThen]
theorem low_top (w : World) (o o' : Obj) : ((w.alloc o).alloc o').heap[w.heap.size]? = some o := by
  rw [Below.heap_alloc _ _ _ (by rw [World.alloc_size]; omega)]
  exact heap_top _ _
theorem high_top (w : World) (o o' : Obj) : ((w.alloc o).alloc o').heap[w.heap.size + 1]? = some o' := by
  have := heap_top (w.alloc o) o'
  rw [World.alloc_size] at this
  exact this
/-- where the loop stands -/
structure Lp (w wr : World) (p0 pR : Nat) (n : Nat) (t : Tr) (u : Value) : Prop where
  box : TreeBox wr p0 u t.last
  res : TreeBox wr pR (.slice none 0 0) 0
  nodes : Nodes wr.heap.size wr u t.L
  apart : Off (fun k => k = p0 ∨ k = pR) u
  within : Within t n
  below : Below w.heap.size w wr
  pnew : w.heap.size ≤ p0
  rnew : w.heap.size ≤ pR
  ne : p0 ≠ pR
theorem Lp.call {w wr w9 : World} {p0 pR n : Nat} {t : Tr} {u : Value} (g : Lp w wr p0 pR n t u) (h : Below wr.heap.size wr w9) : Lp w w9 p0 pR n t u :=
  ⟨g.box.below h, g.res.below h, (g.nodes.below h).more h.size, g.apart, g.within, on g.below h, g.pnew, g.rnew, g.ne⟩
theorem Lp.next {w wr w9 : World} {p0 pR pQ n : Nat} {t T' : Tr} {u u8 : Value} (g : Lp w wr p0 pR n t u) (m : Mid w wr w9 pQ u8 T' u) (k : Kept t T') : Lp w ((w9.setCell ⟨p0, 0, none⟩ u8).setCell ⟨p0, 1, none⟩ (.int .i64 T'.last)) p0 pR (n + 1) T' u8 := by
  have g9 := g.call m.below
  have h0 := g.box.lt
  have h1 := g.res.lt
  have tp := turns_box w9 p0 u8 (.int .i64 T'.last)
  have hap : Off (fun k => k = p0 ∨ k = pR) u8 := off_from g.apart (fun k hk => by rcases hk with e | e <;> omega) m.from_
  have hne := g.ne
  exact {
    box := W07.box_stored2 g9.box
    res := g9.res.turns tp (fun e => hne (Eq.symm e))
    nodes := (nodes_turns m.nodes tp (fun b o n c e hk => hap b o n c e (Or.inl hk))).more tp.size
    apart := hap
    within := g.within.next k
    below := (g9.below.setCell g.pnew _).setCell g.pnew _
    pnew := g.pnew
    rnew := g.rnew
    ne := g.ne }
/-- what is returned -/
theorem Lp.ends {w wr : World} {p0 pR n : Nat} {t : Tr} {u : Value} (g : Lp w wr p0 pR n t u) (a b : Value) : Nodes ((wr.setCell ⟨pR, 0, none⟩ a).setCell ⟨pR, 1, none⟩ b).heap.size ((wr.setCell ⟨pR, 0, none⟩ a).setCell ⟨pR, 1, none⟩ b) u t.L ∧ Below w.heap.size w ((wr.setCell ⟨pR, 0, none⟩ a).setCell ⟨pR, 1, none⟩ b) :=
  have tp := turns_box wr pR a b
  ⟨(nodes_turns g.nodes tp (fun b o n c e hk => g.apart b o n c e (Or.inr hk))).more tp.size, (g.below.setCell g.rnew _).setCell g.rnew _⟩
/-- what Lay returns -/
def TreeTwo (w : World) (R : Tr × Nat × Int) (e : Ending) (w' : World) : Prop := ∃ u, e = .returned (.tuple #[.agg #[u, .int .i64 R.1.last], .int .i64 (R.2.1 : Int), .int .i64 R.2.2]) ∧ Nodes w'.heap.size w' u R.1.L ∧ Below w.heap.size w w'
theorem two_is {w W : World} {R : Tr × Nat × Int} {t : Tr} {n : Nat} {e : Int} {u : Value} (hR : R = (t, n, e)) (h : Nodes W.heap.size W u t.L ∧ Below w.heap.size w W) : TreeTwo w R (.returned (.tuple #[.agg #[u, .int .i64 t.last], .int .i64 (n : Int), .int .i64 e])) W := by
  subst hR
  exact ⟨u, rfl, h.1, h.2⟩
/-- what stands behind a call whose tree is laid in a new box -/
theorem mid_new {w wr w4 : World} {u4 u : Value} {T' : Tr} (hb : Below wr.heap.size wr w4) (hn : Nodes w4.heap.size w4 u4 T'.L) (hf : FromOr u wr.heap.size u4) : Mid w wr (w4.alloc (.cells #[u4, .int .i64 T'.last] 28)) w4.heap.size u4 T' u :=
  have h1 := below_box w4 (.cells #[u4, .int .i64 T'.last] 28)
  ⟨on hb h1, heap_top _ _, (hn.below h1).more h1.size, hf⟩
theorem make_no {t : Tr} {p d : List UInt8} {k : Int} (h : rightR ⟨p, k, d⟩ = false) : makeOn t ⟨p, k, d⟩ = (t, 2) := by unfold makeOn; rw [if_pos h]
theorem make_there {t : Tr} {p d : List UInt8} {k : Int} (h : rightR ⟨p, k, d⟩ = true) (h2 : (M08.find t p false).2 = 0) : makeOn t ⟨p, k, d⟩ = (t, 6) := by unfold makeOn; rw [if_neg (by rw [h]; simp), if_pos h2]
theorem make_file {t : Tr} {p d : List UInt8} (h : rightR ⟨p, 2, d⟩ = true) (h2 : ¬ (M08.find t p false).2 = 0) : makeOn t ⟨p, 2, d⟩ = write t p d := by unfold makeOn; rw [if_neg (by rw [h]; simp), if_neg h2, if_pos rfl]
theorem make_other {t : Tr} {p d : List UInt8} {k : Int} (h : rightR ⟨p, k, d⟩ = true) (h2 : ¬ (M08.find t p false).2 = 0) (hk : ¬ k = 2) : makeOn t ⟨p, k, d⟩ = putAt t p k d := by unfold makeOn; rw [if_neg (by rw [h]; simp), if_neg h2, if_neg hk]
set_option maxHeartbeats 16000000 in
theorem refLay_any (T0 : Tr) (u : Value) (n : Nat) (hw : Within T0 n) (w : World) (hn : Nodes w.heap.size w u T0.L) (y : Value) (L : List Rw) (hL : RowList w.heap.size w y L) (hm : n + L.length ≤ 1048576) (hs : ∀ x ∈ L, x.path.length ≤ 1048576 ∧ x.data.length ≤ 1048576) :
    Calls Tryz.prog 18 #[.agg #[u, .int .i64 T0.last], y] w (TreeTwo w (lay T0 0 L)) := by
  have A0 : Hid (Lp w ((w.alloc (.cells #[u, .int .i64 T0.last] 28)).alloc (.cells #[.slice none 0 0, .int .i64 0] 28)) w.heap.size (w.heap.size + 1) n T0 u) := by
    have hb : Below w.heap.size w ((w.alloc (.cells #[u, .int .i64 T0.last] 28)).alloc (.cells #[.slice none 0 0, .int .i64 0] 28)) := ((Below.refl _ w).alloc (Nat.le_refl _) _).alloc (by rw [World.alloc_size]; omega) _
    refine ⟨?_, ?_, (hn.below hb).more hb.size, off_nodes hn (right_full hw.right) (fun k hk => by rcases hk with e | e <;> omega), hw, hb, Nat.le_refl _, Nat.le_succ _, by omega⟩
    · exact low_top _ _ _
    · exact high_top _ _ _
  obtain ⟨Au, cu, rfl, -, -⟩ := hn.form
  obtain ⟨A2, c2, rfl, hk1, hk2⟩ := hL.form
  unfold maxLen at hk2
  have HK := Lib.hid hL
  have HS := Lib.hid hs
  have HD0 : Hid (lay T0 0 L = lay T0 0 (L.drop 0)) := rfl
  clear hn hL hs hw
  generalize hR : lay T0 0 L = R at *
  generalize hq : L.length = q at *
  have HQ := Lib.hid hq
  clear hq hR
  go_enter Tryz.func18, Tryz.ntmps18
  go_wp2_with fail
  go_loopw [7] (fun i wr => ∃ (k : Nat) (t : Tr) (u : Value), k ≤ q ∧ i = .int .i64 k ∧ Hid (Lp w wr w.heap.size (w.heap.size + 1) (n + k) t u) ∧ Hid (R = lay t k (L.drop k))) (fun i _ => q - (intOf i).toNat)
  case atStart => exact ⟨0, _, _, Nat.zero_le _, rfl, A0, HD0⟩
  case round =>
    clear A0
    obtain ⟨k, t, u, hk, rfl, hg, hd⟩ := hrel
    obtain ⟨Au, cu, rfl, hu1, hu2⟩ := hg.out.nodes.form
    by_cases hlt : k < q
    · obtain ⟨b, o, hl1, sp, st, rfl, hbl, hps, hpx, a0, a1, a2⟩ := RowList.at_ (HK.out.below hg.out.below) hlt
      have hxd := HS.out _ (List.getElem_mem hl1)
      have HStop := Lib.hid (fun h => hd.out.trans (lay_stop (t := t) (i := k) hl1 h))
      have HNext := Lib.hid (fun h => hd.out.trans (lay_step (t := t) (i := k) hl1 h))
      have hxe : L[k] = ⟨sp.data.toList, (L[k]).kind, st.data.toList⟩ := row_ext hps.symm rfl hpx.symm
      rw [← hps, ← hpx, ← Lib.size_eq, ← Lib.size_eq] at hxd
      obtain ⟨hxd1, hxd2⟩ := hxd
      generalize (L[k]).kind = xk at *
      rw [hxe] at HStop HNext
      clear hxe hps hpx
      have hnn : n + k ≤ 1048576 := by omega
      obtain ⟨wX, hwX⟩ : ∃ wX : World, wr.alloc (.cells #[.string sp, .int .i64 xk, .string st] 41) = wX := ⟨_, rfl⟩
      have hbX : Below wr.heap.size wr wX := by rw [← hwX]; exact below_box _ _
      have hlX : wr.heap.size < wX.heap.size := by rw [← hwX, World.size_alloc]; omega
      obtain ⟨pX, hpX⟩ : ∃ p, wr.heap.size = p := ⟨_, rfl⟩
      have XB : RowBox wX pX sp xk st := by rw [← hwX, ← hpX]; exact RowBox.new _ _ _ _ _
      obtain ⟨x0, x1, x2⟩ := XB
      have GX := Lib.hid (hg.out.call hbX)
      have HRT := Lib.hid (refRight_any sp st xk (by omega) (by omega) wX)
      have hpl : pX < wX.heap.size := by omega
      cases hrt : rightR ⟨sp.data.toList, xk, st.data.toList⟩ with
      | false =>
        rw [hrt] at HRT
        have HME := Lib.hid (make_no (t := t) hrt)
        have HF := Lib.hid (HStop.out (by rw [HME.out]; show (2 : Int) ≠ 0; decide))
        rw [HME.out] at HF
        clear hrt HStop HNext HME
        go_wp2_with fail
        refine HRT.out.mono ?_
        rintro e w2 ⟨rfl, hb2⟩
        have G2 := Lib.hid (GX.out.call hb2)
        have r0 := G2.out.box.c0
        have r1 := G2.out.box.c1
        have s0 := G2.out.res.c0
        have s1 := G2.out.res.c1
        have q0 := G2.out.res.fr 0
        have q1 := G2.out.res.fr 1
        have HE := Lib.hid (fun a b => G2.out.ends a b)
        clear hb2 hbX
        go_wp2_with fail
        refine bodyPost_ret_by (v := .tuple #[.agg #[.slice Au t.L.length cu, .int .i64 t.last], .int .i64 k, .int .i64 2]) ?_ rfl ?_
        · rw [results_cell_two rfl]
          go_simp
        · exact two_is HF.out (HE.out _ _)
      | true =>
        rw [hrt] at HRT
        have HRTE := Lib.hid hrt
        clear hrt
        go_wp2_with fail
        refine HRT.out.mono ?_
        rintro e w2 ⟨rfl, hb2⟩
        have G2 := Lib.hid (GX.out.call hb2)
        have y0 : w2.cell? ⟨pX, 0, none⟩ = _ := (hb2.cell (p := ⟨pX, 0, none⟩) hpl).trans x0
        have y1 : w2.cell? ⟨pX, 1, none⟩ = _ := (hb2.cell (p := ⟨pX, 1, none⟩) hpl).trans x1
        have y2 : w2.cell? ⟨pX, 2, none⟩ = _ := (hb2.cell (p := ⟨pX, 2, none⟩) hpl).trans x2
        have r0 := G2.out.box.c0
        have r1 := G2.out.box.c1
        have hb2' := Lib.hid (on hbX hb2)
        have hpl2 : pX < w2.heap.size := Nat.lt_of_lt_of_le hpl hb2.size
        have HFD := Lib.hid (W08.refFind_any t G2.out.within.fit (Nat.le_trans G2.out.within.len hnn) (.slice Au t.L.length cu) sp false w2 G2.out.nodes)
        clear x0 x1 x2 hb2 hbX hpl HRT hwX GX
        go_wp2_with fail
        refine HFD.out.mono ?_
        rintro e w3 ⟨rfl, hb3⟩
        have G3 := Lib.hid (G2.out.call hb3)
        have HB3 := Lib.hid (on hb2'.out hb3)
        have z0 : w3.cell? ⟨pX, 0, none⟩ = _ := (hb3.cell (p := ⟨pX, 0, none⟩) hpl2).trans y0
        have z1 : w3.cell? ⟨pX, 1, none⟩ = _ := (hb3.cell (p := ⟨pX, 1, none⟩) hpl2).trans y1
        have z2 : w3.cell? ⟨pX, 2, none⟩ = _ := (hb3.cell (p := ⟨pX, 2, none⟩) hpl2).trans y2
        have hpl3 : pX < w3.heap.size := Nat.lt_of_lt_of_le hpl2 hb3.size
        clear y0 y1 y2 r0 r1 hb3 HFD G2 hb2' hpl2
        by_cases hth : (M08.find t sp.data.toList false).2 = 0
        · have tt : ((M08.find t sp.data.toList false).2 == 0) = true := by simpa using hth
          have HME := Lib.hid (make_there (t := t) HRTE.out hth)
          have HF := Lib.hid (HStop.out (by rw [HME.out]; show (6 : Int) ≠ 0; decide))
          rw [HME.out] at HF
          generalize M08.find t sp.data.toList false = fd at *
          clear hth HStop HNext HME
          have r0 := G3.out.box.c0
          have r1 := G3.out.box.c1
          have s0 := G3.out.res.c0
          have s1 := G3.out.res.c1
          have q0 := G3.out.res.fr 0
          have q1 := G3.out.res.fr 1
          have HE := Lib.hid (fun a b => G3.out.ends a b)
          go_wp2_with fail
          refine bodyPost_ret_by (v := .tuple #[.agg #[.slice Au t.L.length cu, .int .i64 t.last], .int .i64 k, .int .i64 6]) ?_ rfl ?_
          · rw [results_cell_two rfl]
            go_simp
          · exact two_is HF.out (HE.out _ _)
        · have tt : ((M08.find t sp.data.toList false).2 == 0) = false := by simpa using hth
          have HMF := Lib.hid (fun (e : xk = 2) => (by subst e; exact make_file (t := t) HRTE.out hth : makeOn t ⟨sp.data.toList, xk, st.data.toList⟩ = write t sp.data.toList st.data.toList))
          have HMO := Lib.hid (fun e => make_other (t := t) HRTE.out hth e)
          generalize M08.find t sp.data.toList false = fd at *
          clear hth
          have r0 := G3.out.box.c0
          have r1 := G3.out.box.c1
          have HFI : Fits t w3 (.slice Au t.L.length cu) := two_fits G3.out.within hnn G3.out.nodes
          have HPT := Lib.hid (W09.refPut9_any t _ w3 HFI sp xk st (by unfold maxLen; omega))
          have HFULL := Lib.hid (fun T' (h : makeOn t ⟨sp.data.toList, xk, st.data.toList⟩ = T') => (by rw [← h]; exact right_full ((kept_makeOn t _).right hg.out.within.right) : 0 < T'.1.L.length))
          by_cases e2 : xk = 2
          · have t2 : (xk == 2) = true := by simpa using e2
            have HMK := Lib.hid (HMF.out e2)
            have HFL := HFULL.out _ HMK.out
            generalize hQ0 : putAt t sp.data.toList xk st.data.toList = Q0 at *
            clear hQ0
            obtain ⟨T0', fe0⟩ := Q0
            generalize hQ : write t sp.data.toList st.data.toList = Q at *
            obtain ⟨T', fe⟩ := Q
            have HQ9 := Lib.hid hQ
            clear hQ HMO HMF HFULL e2
            go_wp2_with fail
            refine HPT.out.mono ?_
            rintro e w4 ⟨u4, rfl, hn4, hb4, hf4⟩
            obtain ⟨A4, c4, hu4, -, -⟩ := hn4.form
            subst hu4
            obtain ⟨pQ, hpQ⟩ : ∃ p, w4.heap.size = p := ⟨_, rfl⟩
            obtain ⟨w5, hw5⟩ : ∃ w5, w4.alloc (.cells #[.slice A4 T0'.L.length c4, .int .i64 T0'.last] 28) = w5 := ⟨_, rfl⟩
            have hb5 : Below w4.heap.size w4 w5 := by rw [← hw5]; exact below_box _ _
            have TB5 : TreeBox w5 pQ (.slice A4 T0'.L.length c4) T0'.last := by rw [← hw5, ← hpQ]; exact heap_top _ _
            have HB5 := Lib.hid (on (on HB3.out hb4) hb5)
            have G5 := Lib.hid (hg.out.call HB5.out)
            have hb35 := on hb4 hb5
            have v0 : w5.cell? ⟨pX, 0, none⟩ = _ := (hb35.cell (p := ⟨pX, 0, none⟩) hpl3).trans z0
            have v1 : w5.cell? ⟨pX, 1, none⟩ = _ := (hb35.cell (p := ⟨pX, 1, none⟩) hpl3).trans z1
            have v2 : w5.cell? ⟨pX, 2, none⟩ = _ := (hb35.cell (p := ⟨pX, 2, none⟩) hpl3).trans z2
            have c0 := G5.out.box.c0
            have c1 := G5.out.box.c1
            have HW := W09.refWrite9_any t _ w5 (two_fits G5.out.within hnn G5.out.nodes) sp st (by unfold maxLen; omega)
            rw [HQ9.out] at HW
            have HW := Lib.hid HW
            have hpq5 : pQ < w5.heap.size := TB5.lt
            have hpq0 : wr.heap.size ≤ pQ := by rw [← hpQ]; exact Nat.le_trans HB3.out.size hb4.size
            have HFR := Lib.hid (Nat.le_trans hpq0 (Nat.le_of_lt hpq5))
            have TBH := Lib.hid TB5
            clear z0 z1 z2 r0 r1 hb4 hb5 hb35 hf4 hn4 TB5 G3 HB3 hpl3
            go_wp2_with fail
            clear hw5 hpQ
            refine HW.out.mono ?_
            rintro e w6 ⟨u6, rfl, hn6, hb6, hf6⟩
            obtain ⟨A8, c8, hu6, -, -⟩ := hn6.form
            subst hu6
            have TB6 := Lib.hid (TBH.out.below hb6)
            have m0 := TB6.out.c0
            have m1 := TB6.out.c1
            have fr0 := TB6.out.fr 0
            have fr1 := TB6.out.fr 1
            have v1' : w6.cell? ⟨pX, 1, none⟩ = _ := (hb6.cell (p := ⟨pX, 1, none⟩) (by have := World.block_lt_of_cell? _ _ v1; exact this)).trans v1
            obtain ⟨w9, hw9⟩ : ∃ w9, (w6.setCell ⟨pQ, 0, none⟩ (.slice A8 T'.L.length c8)).setCell ⟨pQ, 1, none⟩ (.int .i64 T'.last) = w9 := ⟨_, rfl⟩
            have MID := Lib.hid (show Mid w wr w9 pQ (.slice A8 T'.L.length c8) T' (.slice Au t.L.length cu) by rw [← hw9]; exact mid_in (on HB5.out hb6) TB6.out hn6 HFL hpq0 (FromOr.low hf6 HFR.out))
            clear v0 v1 v2 c0 c1 hb6 hn6 hf6 TBH HW HPT
            have n0 := MID.out.box.c0
            have n1 := MID.out.box.c1
            have G9 := Lib.hid (hg.out.call MID.out.below)
            have HKP := Lib.hid (kept_makeOn t ⟨sp.data.toList, xk, st.data.toList⟩)
            rw [HMK.out] at HKP HStop HNext
            have NX := Lib.hid (hg.out.next MID.out HKP.out)
            by_cases hfe : fe = 0
            · subst hfe
              have HD2 := Lib.hid (HNext.out rfl)
              have r0 := G9.out.box.c0
              have r1 := G9.out.box.c1
              have z0 := G9.out.box.fr 0
              have z1 := G9.out.box.fr 1
              clear HNext HStop G9 HKP HMK
              go_wp2_with fail
              go_roundw
              case rel => exact ⟨k + 1, T', _, by omega, by go_num, NX, HD2⟩
              case measure => simp [intOf]; omega
            · have tn : (fe != 0) = true := by simp [hfe]
              have HF := Lib.hid (HStop.out hfe)
              clear HNext HStop hfe NX HKP HMK
              have r0 := G9.out.box.c0
              have r1 := G9.out.box.c1
              have s0 := G9.out.res.c0
              have s1 := G9.out.res.c1
              have q0 := G9.out.res.fr 0
              have q1 := G9.out.res.fr 1
              have HE := Lib.hid (fun a b => G9.out.ends a b)
              go_wp2_with fail
              refine bodyPost_ret_by (v := .tuple #[.agg #[.slice Au t.L.length cu, .int .i64 t.last], .int .i64 k, .int .i64 fe]) ?_ rfl ?_
              · rw [results_cell_two rfl]
                go_simp
              · exact two_is HF.out (HE.out _ _)
          · have t2 : (xk == 2) = false := by simpa using e2
            have HMK := Lib.hid (HMO.out e2)
            generalize hQ : putAt t sp.data.toList xk st.data.toList = Q at *
            obtain ⟨T', fe⟩ := Q
            clear hQ HMO HMF HFULL e2
            go_wp2_with fail
            refine HPT.out.mono ?_
            rintro e w4 ⟨u4, rfl, hn4, hb4, hf4⟩
            obtain ⟨A8, c8, hu4, -, -⟩ := hn4.form
            subst hu4
            obtain ⟨pQ, hpQ⟩ : ∃ p, w4.heap.size = p := ⟨_, rfl⟩
            obtain ⟨w9, hw9⟩ : ∃ w9, w4.alloc (.cells #[.slice A8 T'.L.length c8, .int .i64 T'.last] 28) = w9 := ⟨_, rfl⟩
            have hb9 : Below w4.heap.size w4 w9 := by rw [← hw9]; exact below_box _ _
            have MID := Lib.hid (show Mid w wr w9 pQ (.slice A8 T'.L.length c8) T' (.slice Au t.L.length cu) by rw [← hw9, ← hpQ]; exact mid_new (on HB3.out hb4) hn4 (FromOr.low hf4 HB3.out.size))
            have hb39 := on hb4 hb9
            have v1 : w9.cell? ⟨pX, 1, none⟩ = _ := (hb39.cell (p := ⟨pX, 1, none⟩) hpl3).trans z1
            clear z0 z1 z2 r0 r1 hb4 hb9 hb39 hf4 hn4 G3 HB3 hpl3 HPT
            have n0 := MID.out.box.c0
            have n1 := MID.out.box.c1
            have G9 := Lib.hid (hg.out.call MID.out.below)
            have HKP := Lib.hid (kept_makeOn t ⟨sp.data.toList, xk, st.data.toList⟩)
            rw [HMK.out] at HKP HStop HNext
            have NX := Lib.hid (hg.out.next MID.out HKP.out)
            by_cases hfe : fe = 0
            · subst hfe
              have HD2 := Lib.hid (HNext.out rfl)
              have r0 := G9.out.box.c0
              have r1 := G9.out.box.c1
              have z0 := G9.out.box.fr 0
              have z1 := G9.out.box.fr 1
              clear HNext HStop G9 HKP HMK
              go_wp2_with fail
              go_roundw
              case rel => exact ⟨k + 1, T', _, by omega, by go_num, NX, HD2⟩
              case measure => simp [intOf]; omega
            · have tn : (fe != 0) = true := by simp [hfe]
              have HF := Lib.hid (HStop.out hfe)
              clear HNext HStop hfe NX HKP HMK
              have r0 := G9.out.box.c0
              have r1 := G9.out.box.c1
              have s0 := G9.out.res.c0
              have s1 := G9.out.res.c1
              have q0 := G9.out.res.fr 0
              have q1 := G9.out.res.fr 1
              have HE := Lib.hid (fun a b => G9.out.ends a b)
              go_wp2_with fail
              refine bodyPost_ret_by (v := .tuple #[.agg #[.slice Au t.L.length cu, .int .i64 t.last], .int .i64 k, .int .i64 fe]) ?_ rfl ?_
              · rw [results_cell_two rfl]
                go_simp
              · exact two_is HF.out (HE.out _ _)
    · have hkq : k = q := by omega
      subst hkq
      have HR := Lib.hid (hd.out.trans (lay_end (t := t) (i := k) (by rw [HQ.out]; omega)))
      have r0 := hg.out.box.c0
      have r1 := hg.out.box.c1
      have s0 := hg.out.res.c0
      have s1 := hg.out.res.c1
      have q0 := hg.out.res.fr 0
      have q1 := hg.out.res.fr 1
      have HE := Lib.hid (fun a b => hg.out.ends a b)
      go_wp2_with fail
      refine bodyPost_ret_by (v := .tuple #[.agg #[.slice Au t.L.length cu, .int .i64 t.last], .int .i64 k, .int .i64 0]) ?_ rfl ?_
      · rw [results_cell_two rfl]
        go_simp
      · exact two_is HR.out (HE.out _ _)
end Go.Proofs.YtpihldcchjoinaaGreatDoor.W12
/-
  Layer 12 (dump), walks of the program's 'below' at every depth, Rows, All: what they answer of a tree, and of nil. The conditions stand in the statements.
-/
namespace Go.Proofs.YtpihldcchjoinaaGreatDoor.W12
set_option maxRecDepth 100000
open Go Go.RowKit Go.Shelf Go.Proofs.YtpihldcchjoinaaGreatDoor.Strs Go.Proofs.YtpihldcchjoinaaGreatDoor.Recs Go.Proofs.YtpihldcchjoinaaGreatDoor.Range
open Go.Proofs.YtpihldcchjoinaaGreatDoor.M12
open Go.Proofs.YtpihldcchjoinaaGreatDoor.M03 (check)
open Go.Proofs.YtpihldcchjoinaaGreatDoor.M04 (parts text)
open Go.Proofs.YtpihldcchjoinaaGreatDoor.M07 (Tr Nd nodeAt Right height listDir inDir at_some)
open Go.Proofs.YtpihldcchjoinaaGreatDoor.M08 (Named find goTo real names flatN names_bound text_flatN text_flat0 names_root height_le)
open Go.Proofs.YtpihldcchjoinaaGreatDoor.W07 (Small Trees)
open Go.Proofs.YtpihldcchjoinaaGreatDoor.W11
open Go.Proofs.YtpihldcchjoinaaGreatDoor.Kit (ret_str ret_bool ret_int mk_of mk_bytes ba_ext below_draws on)

abbrev Bytes := List UInt8
/-! where a path leads, there is a node -/
theorem go_kind {t : Tr} (h : Right t) (last : Bool) : ∀ (k : Nat) (l : List Bytes) (at_ : Int) (hops : Nat), 40 - hops = k → (nodeAt t.L at_).kind ≠ 0 → (goTo t at_ l last hops).2.2 = 0 → (nodeAt t.L (goTo t at_ l last hops).1).kind ≠ 0 := by
  intro k
  induction k using Nat.strongRecOn with
  | ind k ih =>
    intro l
    induction l with
    | nil =>
      intro at_ hops _ hk _
      rw [M08.go_nil]; exact hk
    | cons q r ihr =>
      intro at_ hops hk h0
      by_cases h1 : (nodeAt t.L at_).kind = 1
      · by_cases h2 : q = [46, 46]
        · rw [M08.go_up h1 h2]
          exact ihr _ hops hk (by rw [h.up _ (at_some h0).1]; decide)
        · by_cases h3 : check q = 0
          · by_cases h4 : inDir t.L at_ q = 0
            · rw [M08.go_none h1 h2 h3 h4]; intro e; simp at e
            · obtain ⟨a, ha, hn, -, -, -⟩ := M07.in_found h4
              have hki : (nodeAt t.L (inDir t.L at_ q)).kind ≠ 0 := by rw [← hn, h.at_ ha]; exact h.kind a ha
              by_cases h5 : (nodeAt t.L (inDir t.L at_ q)).kind ≠ 3 ∨ (r = [] ∧ last = false)
              · rw [M08.go_on h1 h2 h3 h4 h5]
                exact ihr _ hops hk hki
              · by_cases h6 : 40 ≤ hops
                · rw [M08.go_loop h1 h2 h3 h4 h5 h6]; intro e; simp at e
                · rw [M08.go_link h1 h2 h3 h4 h5 h6]
                  refine ih (40 - (hops + 1)) (by omega) _ _ (hops + 1) rfl ?_
                  unfold M08.base
                  split
                  · rw [h.at_root]; decide
                  · exact h0
          · rw [M08.go_bad h1 h2 h3]; intro e; exact absurd e h3
      · rw [M08.go_no h1]; intro e; simp at e
theorem find_kind {t : Tr} (h : Right t) {p : Bytes} {last : Bool} (he : (find t p last).2 = 0) : (nodeAt t.L (find t p last).1).kind ≠ 0 := by
  unfold M08.find at he ⊢
  split at he
  · exact absurd he (by decide)
  · split at he
    · exact absurd he (by decide)
    · rename_i h1 h2
      rw [if_neg h1, if_neg h2]
      exact go_kind h last _ _ _ _ rfl (by rw [h.at_root]; decide) he
/-- the slash at root's end is gone -/
theorem trim_names {t : Tr} (h : Right t) (hN : Named t) {n : Int} (hk : (nodeAt t.L n).kind ≠ 0) : Lib.trimSuffix (text (names t n)) [47] = flatN (names t n) := by
  by_cases h1 : n = 1
  · subst h1
    rw [names_root]; rfl
  · obtain ⟨l, c, e, hc⟩ := names_flat_end h hN hk h1
    have hne : flatN (names t n) ≠ [] := by rw [e]; simp
    rw [text_flatN hne, e]
    unfold Lib.trimSuffix
    rw [if_neg]
    unfold Lib.hasSuffix
    simp
    exact fun e => hc e.symm
section
variable {Rep : (Nat → Prop) → World → Value → Tr → Prop} {F : Nat → Prop} {va : Addr} {t : Tr}
/-- below, at every depth -/
theorem below_any (C : Trees Rep) (G : W08.Good t) (base : Nat) (hF : ∀ k, F k → k < base) : ∀ (k : Nat) (q : Nat) (n : Int) (p : ByteArray) (w0 : World), Rep F w0 (.pointer (some va)) t → ((nodeAt t.L n).kind ≠ 0) → t.L.length ≤ height t.L n + k → base ≤ q → q + 3 ≤ w0.heap.size → p.size + 100 * (k + 1) ≤ 1099511627776 →
    w0.cell? ⟨q, 0, none⟩ = some (.pointer (some va)) → w0.cell? ⟨q + 1, 0, none⟩ = some (.int .i64 n) → w0.cell? ⟨q + 2, 0, none⟩ = some (.string p) →
    SeqG Tryz.prog 65 (caught3 q) rowV base (Three3 q) (down t k n p.data.toList) w0
  | 0, q, n, p, w0, H, hk, hl, hq, hq2, hp, c0, c1, c2 => by
    have hnl := no_list (C.right H) (n := n) (by omega)
    have h1 := below_step C G q n p base w0 H hF hq hq2 0 1099511627776 (Nat.le_refl _) hp c0 c1 c2 (fun _ _ _ _ _ he => by
      obtain ⟨e, he, -⟩ := he
      rw [hnl] at he
      cases he)
    rwa [down_nil hnl] at h1
  | k + 1, q, n, p, w0, H, hk, hl, hq, hq2, hp, c0, c1, c2 => by
    refine below_step C G q n p base w0 H hF hq hq2 k (1099511627776 - 100) (by omega) (by omega) c0 c1 c2 (fun q' n' p' w' H' he hq' hq2' hp' d0 d1 d2 => ?_)
    obtain ⟨e, he, rfl⟩ := he
    obtain ⟨a, ka⟩ := kid_of (C.right H) he
    have hh := ka.height_ (C.right H)
    have hkd := ka.kind
    rw [← ka.num] at hh hkd
    exact below_any C G base hF k q' e.2 p' w' H' hkd (by omega) hq' hq2' (by omega) d0 d1 d2
set_option maxHeartbeats 4000000 in
theorem rows_any (C : Trees Rep) (S : W08.Seeks Rep) (G : W08.Good t) (p : ByteArray) (hp : p.size ≤ 1048576) (w : World) (H : Rep F w (.pointer (some va)) t) :
    Calls Tryz.prog 10 #[.pointer (some va), .string p] w (HandsRE w (rowsAt t p.data.toList)) := by
  have HR := C.right H
  have HFD := Lib.hid (S.find H G p true hp)
  have HRW : Hid (rowsAt t p.data.toList = if (find t p.data.toList true).2 ≠ 0 then ([], (find t p.data.toList true).2) else (rowsBelow t (find t p.data.toList true).1, 0)) := rfl
  have HK := Lib.hid (fun he => find_kind HR (p := p.data.toList) (last := true) he)
  generalize rowsAt t p.data.toList = R at *
  generalize find t p.data.toList true = f at *
  obtain ⟨n, fe⟩ := f
  simp only at HFD HRW HK
  by_cases he : fe = 0
  · subst he
    rw [if_neg (by simp)] at HRW
    have hk := HK.out rfl
    have HRE : Hid (real t n = (text (names t n), true)) := by show _ = _; unfold real; rw [if_neg hk]
    have hnb := names_bound HR G.named hk
    have hlen := G.small.1
    have hts : (text (names t n)).length ≤ 68157441 := by
      by_cases h : flatN (names t n) = []
      · rw [text_flat0 h]; decide
      · rw [text_flatN h]; omega
    have HTS := Lib.hid (fun w' : World => Tryz.strings_TrimSuffix ⟨(text (names t n)).toArray⟩ ⟨#[47]⟩ w' (by show (text (names t n)).length ≤ _; omega))
    have htr := trim_names HR G.named hk
    have HTR : Hid (Lib.trimSuffix (text (names t n)) [47] = flatN (names t n)) := htr
    obtain ⟨sQ, hsQ⟩ : ∃ s : ByteArray, (⟨(flatN (names t n)).toArray⟩ : ByteArray) = s := ⟨_, rfl⟩
    have hsz : sQ.size ≤ 68157440 := by rw [← hsQ]; show (flatN (names t n)).length ≤ _; omega
    have HRL := Lib.hid (fun (w' : World) (h : Below w.heap.size w w') => S.real (C.below H h) G n)
    have HB := Lib.hid (fun w' : World => below_at (.pointer (some va)) n sQ w' ⟨_, rfl⟩)
    have HCO := Lib.hid (fun (w2 : World) (h2 : Below w.heap.size w w2) => by
      obtain ⟨hz4, hb4, b0, b1, b2⟩ := boxes3_facts (.pointer (some va)) n sQ w2
      have hz2 := h2.size
      have hs := below_any C G w.heap.size (C.low H) t.L.length w2.heap.size n sQ (boxes3 w2 (.pointer (some va)) n sQ) (C.below H (on h2 hb4)) hk (by omega) h2.size (by omega) (by omega) b0 b1 b2
      have e : down t t.L.length n sQ.data.toList = rowsBelow t n := by
        rw [← hsQ]
        exact down_rows HR G.named n t.L.length (by omega)
      rw [e] at hs
      have hbl := below_len t n
      exact collect_any (enters_of Tryz.func65 (by kernel_rfl) rfl) _ hs (fun k hk => ⟨by have := hk.1; omega, by have := hk.2; omega⟩) (by omega) (by omega))
    rw [HRE.out] at HRL
    have HTS2 : Hid (∀ w' : World, Calls Tryz.prog 32 #[.string ⟨(text (names t n)).toArray⟩, .string ⟨#[47]⟩] w' fun e w'' => e = .returned (.string sQ) ∧ w'' = w') := fun w' => (HTS.out w').mono (fun e w'' ⟨h1, h2⟩ => ⟨by rw [h1, ← hsQ, ← HTR.out], h2⟩)
    clear HTS htr HTR hts hnb hsQ HRE HK hk hlen hsz
    rw [HRW.out]
    generalize text (names t n) = tx at *
    generalize rowsBelow t n = RB at *
    clear HRW
    go_enter Tryz.func10, Tryz.ntmps10
    go_wp2_with fail
    refine HFD.out.mono ?_
    rintro e w1 ⟨rfl, hb1⟩
    go_wp2_with fail
    refine (HRL.out w1 hb1).mono ?_
    rintro e w2 ⟨rfl, hb2⟩
    have hb12 := on hb1 hb2
    go_wp2_with fail
    refine (HTS2.out w2).mono ?_
    rintro e w3 ⟨rfl, rfl⟩
    go_wp2_with fail
    refine (HB.out w3).mono ?_
    rintro e w4 ⟨rfl, rfl⟩
    go_wp2_with fail
    refine (HCO.out w3 hb12).mono ?_
    rintro e w5 ⟨v, rfl, hv, hb5⟩
    have hb4 := (boxes3_facts (.pointer (some va)) n sQ w3).2.1
    go_wp2_with fail
    go_ret2
    exact ⟨v, rfl, hv, (on hb12 hb4).trans hb5⟩
  · rw [if_pos he] at HRW
    rw [HRW.out]
    clear HRW HK
    go_enter Tryz.func10, Tryz.ntmps10
    go_wp2_with fail
    refine HFD.out.mono ?_
    rintro e w1 ⟨rfl, hb1⟩
    go_wp2_with fail
    go_ret2
    exact ⟨.slice none 0 0, rfl, recs_none _ _ _ _ _ (by unfold maxLen; omega), hb1⟩
end
end Go.Proofs.YtpihldcchjoinaaGreatDoor.W12
/-
  Layer 12 (dump), walks of the program's All and Paths over what Rows answers; Rows of nil. The conditions stand in the statements.
-/
namespace Go.Proofs.YtpihldcchjoinaaGreatDoor.W12
set_option maxRecDepth 100000
open Go Go.RowKit Go.Shelf Go.Proofs.YtpihldcchjoinaaGreatDoor.Strs Go.Proofs.YtpihldcchjoinaaGreatDoor.Recs Go.Proofs.YtpihldcchjoinaaGreatDoor.Range
open Go.Proofs.YtpihldcchjoinaaGreatDoor.M12
open Go.Proofs.YtpihldcchjoinaaGreatDoor.W09 (HandsT)
open Go.Proofs.YtpihldcchjoinaaGreatDoor.W11
open Go.Proofs.YtpihldcchjoinaaGreatDoor.Kit (ret_str ret_bool ret_int mk_of mk_bytes ba_ext below_draws on)

theorem pathsOf_at {L : List Rw} {k : Nat} (hk : k < L.length) : (L.take (k + 1)).map Rw.path = (L.take k).map Rw.path ++ [(L[k]).path] := by
  rw [List.take_succ_eq_append_getElem hk, List.map_append]; rfl
theorem all_any {v : Value} {R : List Rw × Int} {w : World} (h : Calls Tryz.prog 10 #[v, .string ⟨#[47]⟩] w (HandsRE w R)) : Calls Tryz.prog 15 #[v] w (HandsR w R.1) := by
  have H := Lib.hid h
  clear h
  obtain ⟨L, fe⟩ := R
  go_enter Tryz.func15, Tryz.ntmps15
  go_wp2_with fail
  refine H.out.mono ?_
  rintro e w1 ⟨u, rfl, hu, hb⟩
  go_wp2_with fail
  go_ret
  exact ⟨u, rfl, hu, hb⟩
theorem rows_nil (S : W08.NoSeek) (p : ByteArray) (w : World) : Calls Tryz.prog 10 #[.pointer none, .string p] w (HandsRE w ([], 1)) := by
  have HFD := Lib.hid (S.find w p true)
  go_enter Tryz.func10, Tryz.ntmps10
  go_wp2_with fail
  refine HFD.out.mono ?_
  rintro e w1 ⟨rfl, hb1⟩
  go_wp2_with fail
  go_ret2
  exact ⟨.slice none 0 0, rfl, recs_none _ _ _ _ _ (by unfold maxLen; omega), hb1⟩
set_option maxHeartbeats 1000000 in
theorem paths_any {v : Value} {p : ByteArray} {R : List Rw × Int} {w : World} (h : Calls Tryz.prog 10 #[v, .string p] w (HandsRE w R)) (hl : R.1.length ≤ 1048576) : Calls Tryz.prog 12 #[v, .string p] w (HandsT w (R.1.map Rw.path, R.2)) := by
  obtain ⟨i0, hi, hz0, hz1, hz2⟩ := info_parts text_info
  have HR := Lib.hid h
  clear h
  obtain ⟨M, fe⟩ := R
  simp only at hl HR ⊢
  go_enter Tryz.func12, Tryz.ntmps12
  go_wp2_with fail
  refine HR.out.mono ?_
  rintro e w1 ⟨u, rfl, hu, hb1⟩
  have H := Lib.hid hu
  obtain ⟨A, c, rfl, hA1, hA2⟩ := hu.form
  clear hu
  unfold maxLen at hA2
  generalize hm : M.length = n at *
  have HM := Lib.hid hm
  clear hm
  go_wp2_with fail
  go_loopw [8, 19] (fun u i wr => ∃ (k : Nat) (out : List (List UInt8)), k ≤ n ∧ i = .int .i64 k ∧ out.length = k ∧ Hid (out = (M.take k).map Rw.path) ∧ Hid (wr.ownsRow w1.heap.size 9 1 u out.length (out.map strV)) ∧ Below w1.heap.size w1 wr) (fun _ i _ => n - (intOf i).toNat)
  case atStart => exact ⟨0, [], Nat.zero_le _, rfl, rfl, rfl, World.ownsRow_nil _ _ _ _, Below.refl _ _⟩
  case round =>
    obtain ⟨k, out, hk, rfl, hout, hr, hown, hb⟩ := hrel
    by_cases hlt : k < n
    · obtain ⟨b, o, hl1, s, x, rfl, hbl, hs, hx, hc0, hc1, hc2⟩ := RowList.at_ (H.out.below hb) hlt
      have HX : Hid ((M.take (k + 1)).map Rw.path = out ++ [s.data.toList]) := by
        show _ = _
        rw [pathsOf_at hl1, ← hr.out, hs]
      have hbs := hb.size
      have a1 : out.length + 1 ≤ maxLen := by unfold maxLen; omega
      have a2 : (out.length + 1) * 16 ≤ 140737488355328 := by omega
      clear hs hx
      generalize (M[k]).kind = kd at *
      have HX1 := Lib.hid (hb.alloc hbs (.cells #[.string s, .int .i64 kd, .string x] 41))
      have HX2 := Lib.hid (HX1.out.alloc HX1.out.size (.cells #[.string s] 9))
      have hc1' := cell_one_new (wr.alloc (.cells #[.string s, .int .i64 kd, .string x] 41)) (.string s) 9
      rw [World.size_alloc] at hc1'
      have HC1 := Lib.hid hc1'
      clear hc1'
      go_wp2_with (at_builtin; refine wpList_append_own _ rfl (.tmp 23) (.tmp 26) 37 rfl w1.heap.size 9 i0 (.string ⟨#[]⟩) 1 16 Tryz.underlying37 hi hz0 hz1 hz2 rfl (by decide) _ _ _ rfl ((hown.out.alloc _).alloc _) ⟨_, 0, none⟩ 1 1 [.string s] rfl rfl HC1.out (by intro u hu; simp at hu; subst hu; rfl) a1 a2 HX2.out.size ?_; intro v1 w2 hown1 hgrow1 _)
      have B2 := Lib.hid (HX2.out.grown hgrow1 HX2.out.size (fun k hk => (hown.out.lt k hk).1))
      have O1 := Lib.hid (own_more hown1)
      clear hown1 hgrow1 a1 a2
      go_wp2
      go_roundw
      case rel => exact ⟨k + 1, _, by omega, by go_num, by rw [List.length_append, hout]; rfl, HX.symm, O1, B2.out⟩
      case measure => simp [intOf]; omega
    · have HX : Hid (out = M.map Rw.path) := hr.out.trans (by rw [List.take_of_length_le (by rw [HM.out]; omega)])
      go_wp2_with fail
      go_ret2
      exact ⟨_, rfl, by rw [← HX.out]; exact Texts.of_own hown.out, on hb1 hb⟩
end Go.Proofs.YtpihldcchjoinaaGreatDoor.W12
/-
  Layer 3 (name), walks over a text's runes: hasOnly asks of each rune what its function says; a byte below 128 is a rune by itself, and what isn't is told by bytes of 128 and above alone. So what hasOnly answers is told by the text's bytes. No condition but those that each theorem bears.
-/
namespace Go.Proofs.YtpihldcchjoinaaGreatDoor.W03
open Go Go.RowKit Go.Proofs.YtpihldcchjoinaaGreatDoor.Strs Go.Proofs.YtpihldcchjoinaaGreatDoor.M03
open Go.Proofs.YtpihldcchjoinaaGreatDoor.Kit (ret_str ret_bool ret_int mk_of below_draws on take_next take_end byte_eq byte_ne)

theorem get_bang (s : ByteArray) (k : Nat) (h : k < s.size) : s.get! k = s[k] := by
  simp [ByteArray.get!, getElem!_pos, h]; rfl
/-- a rune of 128 and above lies over bytes of 128 and above -/
theorem decode_cover (s : ByteArray) (pos : Nat) (h : pos < s.size) (ha : 128 ≤ (s[pos]).toNat) :
    pos + (Utf8.decode s pos).2 ≤ s.size ∧ ∀ j, j < (Utf8.decode s pos).2 → 128 ≤ (s.get! (pos + j)).toNat := by
  have hn : ¬ (s[pos]).toNat < 128 := by omega
  have h0 : 128 ≤ (s.get! (pos + 0)).toNat := by rw [get_at s pos h]; exact ha
  simp only [Utf8.decode, get_at s pos h, hn, if_false, Bool.and_eq_true, decide_eq_true_eq, beq_iff_eq]
  repeat' split
  all_goals first
    | (refine ⟨by simp only []; omega, fun j hj => ?_⟩
       simp only [] at hj
       have hj4 : j = 0 ∨ j = 1 ∨ j = 2 ∨ j = 3 := by omega
       rcases hj4 with rfl | rfl | rfl | rfl <;> omega)
/-- what is asked of a rune is asked of the bytes: p of a byte below 128 is q of it as a rune, and all above are hi -/
structure Alike (q : Nat → Bool) (p : UInt8 → Bool) (hi : Bool) : Prop where
  low : ∀ c : UInt8, c.toNat < 128 → p c = q c.toNat
  high : ∀ c : UInt8, 128 ≤ c.toNat → p c = hi
  rune : ∀ r, 128 ≤ r → q r = hi
theorem alike_no {q : Nat → Bool} {p : UInt8 → Bool} {hi : Bool} (A : Alike q p hi) {s : ByteArray} {pos : Nat} (h : pos < s.size) (hq : q (Utf8.decode s pos).1 = false) : s.data.toList.all p = false := by
  have hk2 : pos < s.data.toList.length := by rw [← Lib.size_eq]; exact h
  have hp : p s[pos] = false := by
    by_cases ha : (s[pos]).toNat < 128
    · rw [decode_ascii s pos h ha] at hq; rw [A.low _ ha]; exact hq
    · have hd := decode_high s pos h (by omega)
      rw [A.rune _ hd.1] at hq
      rw [A.high _ (by omega)]; exact hq
  rw [List.all_eq_false]
  exact ⟨s.data.toList[pos], List.getElem_mem hk2, by show ¬ p s[pos] = true; rw [hp]; decide⟩
theorem all_span {p : UInt8 → Bool} {s : ByteArray} : ∀ (n pos : Nat), pos + n ≤ s.size → (s.data.toList.take pos).all p = true → (∀ j, j < n → p (s.get! (pos + j)) = true) → (s.data.toList.take (pos + n)).all p = true
  | 0, pos, _, h, _ => h
  | n + 1, pos, hn, h, hj => by
    have h1 := all_span n pos (by omega) h (fun j hj2 => hj j (by omega))
    have hlt : pos + n < s.size := by omega
    rw [show pos + (n + 1) = (pos + n) + 1 by omega, take_next s _ hlt, List.all_append, h1]
    have := hj n (by omega)
    rw [get_bang s _ hlt] at this
    simp [this]
theorem alike_yes {q : Nat → Bool} {p : UInt8 → Bool} {hi : Bool} (A : Alike q p hi) {s : ByteArray} {pos : Nat} (h : pos < s.size) (hq : q (Utf8.decode s pos).1 = true) (ht : (s.data.toList.take pos).all p = true) :
    pos + (Utf8.decode s pos).2 ≤ s.size ∧ (s.data.toList.take (pos + (Utf8.decode s pos).2)).all p = true := by
  by_cases ha : (s[pos]).toNat < 128
  · rw [decode_ascii s pos h ha] at hq ⊢
    refine ⟨h, ?_⟩
    show (s.data.toList.take (pos + 1)).all p = true
    rw [take_next s pos h, List.all_append, ht]
    have : p s[pos] = true := by rw [A.low _ ha]; exact hq
    simp [this]
  · have hd := decode_high s pos h (by omega)
    have hc := decode_cover s pos h (by omega)
    rw [A.rune _ hd.1] at hq
    exact ⟨hc.1, all_span _ pos hc.1 ht (fun j hj => by rw [A.high _ (hc.2 j hj)]; exact hq)⟩
theorem width_pos (s : ByteArray) (pos : Nat) (h : pos < s.size) : 1 ≤ (Utf8.decode s pos).2 := by
  by_cases ha : (s[pos]'h).toNat < 128
  · rw [decode_ascii s pos h ha]
    exact Nat.le_refl _
  · exact (decode_high s pos h (by omega)).2
end Go.Proofs.YtpihldcchjoinaaGreatDoor.W03
