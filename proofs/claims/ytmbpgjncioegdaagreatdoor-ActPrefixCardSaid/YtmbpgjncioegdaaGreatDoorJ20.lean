/-
  Texts joined, in build order, each with its own comment and its own conditions: W08Walk.
-/
import Derived.Test.YtmbpgjncioegdaaGreatDoorJ19
import Derived.Test.YtmbpgjncioegdaaGreatDoorJ09
import Derived.Test.YtmbpgjncioegdaaGreatDoorJ12
import Derived.Deep.RegionHeld3
/-
  Layer 8 (seek): the walk that goes a path's parts, links followed: where the parts lead; nothing that was there is changed. The conditions stand in the statement.
-/
namespace Go.Proofs.YtmbpgjncioegdaaGreatDoor.W08
set_option maxRecDepth 100000
open Go Go.RowKit Go.Proofs.YtmbpgjncioegdaaGreatDoor.Strs Go.Proofs.YtmbpgjncioegdaaGreatDoor.Recs Go.Proofs.YtmbpgjncioegdaaGreatDoor.Range Go.Proofs.YtmbpgjncioegdaaGreatDoor.Maps
open Go.Proofs.YtmbpgjncioegdaaGreatDoor.M07 (Tr Nd nodeAt inDir Right)
open Go.Proofs.YtmbpgjncioegdaaGreatDoor.M08 Go.Proofs.YtmbpgjncioegdaaGreatDoor.M04
open Go.Proofs.YtmbpgjncioegdaaGreatDoor.M03 (check)
open Go.Proofs.YtmbpgjncioegdaaGreatDoor.W07 (Small Trees listed)
open Go.Proofs.YtmbpgjncioegdaaGreatDoor.Kit (ret_str ret_bool ret_int mk_of mk_bytes ba_ext below_draws on)

/-- where the rest leads is where all leads -/
def Leads (t : Tr) (at_ : Int) (l : List Bytes) (last : Bool) (hops : Nat) (a e : Int) : Prop := (goTo t at_ l last hops).1 = a ∧ (goTo t at_ l last hops).2.2 = e
theorem prefix_slash (l : Bytes) : Lib.hasPrefix l [47] = decide (l.head? = some 47) := by
  cases l with
  | nil => rfl
  | cons c r => 
    show ((47 : UInt8) == c && true) = decide (some c = some 47)
    by_cases h : c = 47
    · subst h; rfl
    · rw [decide_eq_false (fun e => h (Option.some.inj e)), Bool.and_true, beq_eq_false_iff_ne]
      exact fun e => h e.symm
theorem pgo_each : ∀ (l now : Bytes), ∀ p ∈ pgo l now, p.length ≤ l.length + now.length
  | [], now, p, hp => by
    unfold pgo flush at hp
    split at hp
    · cases hp
    · rw [List.mem_singleton.1 hp]; omega
  | c :: l, now, p, hp => by
    unfold pgo at hp
    split at hp
    · rcases List.mem_append.1 hp with h | h
      · unfold flush at h
        split at h
        · cases h
        · rw [List.mem_singleton.1 h, List.length_cons]; omega
      · have := pgo_each l [] p h
        rw [List.length_cons]; simp at this; omega
    · have := pgo_each l (now ++ [c]) p hp
      rw [List.length_append, List.length_singleton] at this
      rw [List.length_cons]; omega
theorem parts_each (l : Bytes) : ∀ p ∈ parts l, p.length ≤ l.length := fun p hp => by have := pgo_each l [] p hp; simpa using this
theorem drop_here {l : List Bytes} {i : Nat} (h : i < l.length) : l.drop i = l.getD i [] :: l.drop (i + 1) := by
  rw [List.drop_eq_getElem_cons h, List.getD_eq_getElem?_getD, List.getElem?_eq_getElem h, Option.getD_some]
theorem getD_mem {l : List Bytes} {i : Nat} (h : i < l.length) : l.getD i [] ∈ l := by
  rw [List.getD_eq_getElem?_getD, List.getElem?_eq_getElem h, Option.getD_some]; exact List.getElem_mem h
/-- the texts behind the i-th one, as the walk spells the cut -/
theorem behind_texts {B : Nat} {w : World} {b o n c i : Nat} {l : List Bytes} (h : Texts B w (.slice (some ⟨b, o, none⟩) n c) l) (hi : i < n) : Texts B w (.slice (some ⟨b, o + (i + 1), none⟩) (n - (i + 1)) (c - (i + 1))) (l.drop (i + 1)) := by
  have h1 := h.drop (k := i + 1) (by omega)
  have e : (some (⟨b, o, none⟩ : Addr)).map (fun x => x.add (i + 1)) = some ⟨b, o + (i + 1), none⟩ := by show some ((⟨b, o, none⟩ : Addr).add (i + 1)) = _; rw [Addr.add_lit]
  rw [e] at h1
  exact h1
theorem behind_none {B : Nat} {w : World} {b o n c i : Nat} {l : List Bytes} (h : Texts B w (.slice (some ⟨b, o, none⟩) n c) l) (hi : i < n) (hc : c = i + 1) : Texts B w (.slice (some ⟨b, o, none⟩) 0 0) (l.drop (i + 1)) := by
  subst hc
  have h1 := h.count.2.1
  have h2 := h.drop_all (k := i + 1) (by omega)
  rw [show n - (i + 1) = 0 by omega] at h2
  exact h2
theorem build_place (d : Int) (s : ByteArray) (w : World) : (Instr.build 174 #[(0, .int .i64 d), (1, .string s)]).run Tryz.prog w = .ok (.agg #[.int .i64 d, .string s]) w := by kernel_rfl
set_option maxHeartbeats 16000000 in
theorem walk_any {Rep : (Nat → Prop) → World → Value → Tr → Prop} (C : Trees Rep) {F : Nat → Prop} {w : World} {v : Value} {t : Tr} (P : Rep F w v t) (G : Good t) (u : Value) (L : List Bytes) (hL : L.length ≤ 70000) (hLp : ∀ p ∈ L, Part p) (hLs : ∀ p ∈ L, p.length ≤ 1048576) (hu : Texts w.heap.size w u L) (last : Bool) :
    Calls Tryz.prog 128 #[v, u, .bool last] w fun e w' => e = .returned (.tuple #[.int .i64 (goTo t 1 L last 0).1, .int .i64 (goTo t 1 L last 0).2.2]) ∧ Below w.heap.size w w' := by
  have HG := Lib.hid G
  have HR := Lib.hid (C.right P)
  have HP := Lib.hid P
  have HF : Hid (∀ k, F k → k ≠ w.heap.size) := fun k hk => Nat.ne_of_lt (C.low P k hk)
  obtain ⟨A0, c0, rfl, h01, h02⟩ := hu.form
  have HU := Lib.hid hu
  have HL := Lib.hid hL
  have HLP := Lib.hid hLp
  have HLS := Lib.hid hLs
  obtain ⟨ra, hra⟩ : ∃ a, (goTo t 1 L last 0).1 = a := ⟨_, rfl⟩
  obtain ⟨re, hre⟩ : ∃ a, (goTo t 1 L last 0).2.2 = a := ⟨_, rfl⟩
  have HRES : Hid (Leads t 1 L last 0 ra re) := ⟨hra, hre⟩
  rw [hra, hre]
  clear hu P G hra hre hL hLp hLs
  obtain ⟨w1, hw1⟩ : ∃ w1, w.alloc (.map #[] 0) = w1 := ⟨_, rfl⟩
  have S1 : Hid (Seen t w1 w.heap.size 0) := by show MapAll _ _ _ _ _ _; rw [← hw1]; exact mapAll_made _ _ _ _
  have B1 : Hid (Below w.heap.size w w1) := by show Below _ _ _; rw [← hw1]; exact (Below.refl w.heap.size w).alloc (Nat.le_refl _) _
  have hmm := @run_makeMap Tryz.prog
  have hbp := build_place
  go_enter Tryz.func128, Tryz.ntmps128
  go_wp2_with fail
  go_step3
  go_wp2_with fail
  go_step3
  go_wp2_with fail
  clear hw1 hmm
  go_loopg [8, 9, 10] 41 (fun g u8 u9 u10 wr => ∃ (A : Option Addr) (c : Nat) (l : List Bytes) (at_ : Int) (hops M : Nat), u8 = .int .i64 at_ ∧ u9 = .slice A l.length c ∧ u10 = .int .i64 hops ∧ Hid (hops + g = 41) ∧ Hid (hops ≤ 40) ∧ Hid (l.length ≤ 70000 * (hops + 1)) ∧ Hid (∀ p ∈ l, Part p) ∧ Hid (∀ p ∈ l, p.length ≤ 1048576) ∧ Hid (Leads t at_ l last hops ra re) ∧ Hid (Texts wr.heap.size wr (.slice A l.length c) l) ∧ Hid (M ≤ 3000000 * hops) ∧ Hid (Seen t wr w.heap.size M) ∧ Hid (Below w.heap.size w wr))
  case atStart => exact ⟨A0, c0, L, 1, 0, 0, rfl, rfl, rfl, rfl, Nat.zero_le _, Nat.le_trans HL.out (by omega), HLP.out, HLS.out, HRES.out, (HU.out.below B1.out).more B1.out.size, Nat.zero_le _, S1.out, B1.out⟩
  case round =>
    clear S1 B1 HU HL HLP HLS HRES
    obtain ⟨A, c, l, at0, hops, M0, rfl, rfl, rfl, hg, hh, hl, hlp, hls, hlead, hT, hM0, hS, hB⟩ := hrel
    have hf := hT.out.form
    obtain ⟨-, hc1, hc2⟩ := hT.out.count
    unfold maxLen at hc2
    obtain ⟨n, hn⟩ : ∃ n, l.length = n := ⟨_, rfl⟩
    rw [hn] at hT hc1 hf
    rw [hn]
    have HN := Lib.hid hn
    have h40 := hh.out
    clear hn hf
    go_wp2_with fail
    go_loopg [8, 9, 10, 22] n (fun q u8 u9 u10 u22 wx => ∃ (at_ : Int) (i M : Nat), u8 = .int .i64 at_ ∧ u9 = .slice A n c ∧ u10 = .int .i64 hops ∧ u22 = .int .i64 i ∧ i + q = n ∧ Hid (Leads t at_ (l.drop i) last hops ra re) ∧ Hid (M ≤ 3000000 * hops + i) ∧ Hid (Seen t wx w.heap.size M) ∧ Hid (Texts wx.heap.size wx (.slice A n c) l) ∧ Hid (Below w.heap.size w wx))
    case atStart => exact ⟨at0, 0, M0, rfl, rfl, rfl, rfl, by omega, hlead.out, hM0.out, hS.out, hT.out, hB.out⟩
    case round =>
      clear hlead hM0 hS hT hB
      obtain ⟨at_, i, M, rfl, rfl, rfl, rfl, hiq, hlead, hM, hS, hT, hB⟩ := hrel
      cases gk with
      | zero =>
        obtain rfl : i = n := by omega
        obtain ⟨g1, g2⟩ := hlead.out
        rw [List.drop_of_length_le (by rw [HN.out]; exact Nat.le_refl _), go_nil] at g1 g2
        replace g1 := Lib.hid g1
        replace g2 := Lib.hid g2
        clear hlead
        go_wp2_with fail
        try rw [Exit.noGoto_ret]
        go_ret2
        exact ⟨by rw [← g1.out, ← g2.out]; rfl, hB.out⟩
      | succ gk =>
        have hlt : i < n := by omega
        have hlt2 : i < l.length := by rw [HN.out]; exact hlt
        obtain ⟨bk, o, s, rfl, hbl, hcell, hs⟩ := texts_flat hT.out hlt
        have HPART : Hid (Part s.data.toList) := by rw [hs]; exact hlp.out _ (getD_mem hlt2)
        have HSZ : s.size ≤ 1048576 := by rw [Lib.size_eq, hs]; exact hls.out _ (getD_mem hlt2)
        have hmm : M < maxLen := by have h1 := hM.out; have h2 := hl.out; rw [HN.out] at h2; unfold maxLen; omega
        have HST := Lib.hid (step_any C (C.below HP.out hB.out) HG.out at_ s (by omega) HPART.out w.heap.size M hmm hS.out HF.out)
        have hlead := hlead.out
        rw [drop_here hlt2, ← hs] at hlead
        have hlen : (l.drop (i + 1)).length = n - (i + 1) := by rw [List.length_drop, HN.out]
        have hwr : IntKind.i64.wrap ((i : Int) + 1) = (i : Int) + 1 := by rw [IntKind.wrap_i64]; omega
        have hNC : Hid (∀ a : Addr, a.block = w.heap.size → wr.cell? a = none) := fun a ha => MapAll.nocell hS.out a ha
        have HRP : Hid (∀ p ∈ l.drop (i + 1), Part p) := fun p hp => hlp.out p (List.mem_of_mem_drop hp)
        have HRS : Hid (∀ p ∈ l.drop (i + 1), p.length ≤ 1048576) := fun p hp => hls.out p (List.mem_of_mem_drop hp)
        clear hs HPART HSZ hmm
        by_cases he : (stepN t at_ s.data.toList).2 = 0
        · skip
          have hst : stepN t at_ s.data.toList = ((stepN t at_ s.data.toList).1, 0) := Prod.ext rfl he
          have HK := Lib.hid (fun (w' : World) (hb : Below w.heap.size w w') => C.kind (C.below HP.out hb) HG.out.small (stepN t at_ s.data.toList).1)
          have HDT := Lib.hid (fun (w' : World) (hb : Below w.heap.size w w') => C.data (C.below HP.out hb) HG.out.small (stepN t at_ s.data.toList).1)
          by_cases hk : (nodeAt t.L (stepN t at_ s.data.toList).1).kind ≠ 3 ∨ (l.drop (i + 1) = [] ∧ last = false)
          · have hlead2 : Hid (Leads t (stepN t at_ s.data.toList).1 (l.drop (i + 1)) last hops ra re) := by unfold Leads at hlead; rw [goTo_on he hk] at hlead; exact hlead
            rw [hst] at HST
            clear hlead hst he HRP HRS HDT
            generalize (stepN t at_ s.data.toList).1 = m at *
            by_cases hA : (nodeAt t.L m).kind = 3
            · have tA : ((nodeAt t.L m).kind != 3) = false := by simp [hA]
              obtain ⟨hr, rfl⟩ : l.drop (i + 1) = [] ∧ last = false := hk.elim (fun h => absurd hA h) id
              have t00 : (((n - (i + 1) : Nat) : Int) == 0) = true := by rw [hr] at hlen; have h0 : n - (i + 1) = 0 := (by simpa using hlen.symm); rw [h0]; rfl
              generalize nodeAt t.L m = x at *
              clear hk hA hr hlen
              by_cases hc : c = i + 1
              · have HBH := Lib.hid (fun (B : Nat) (w' : World) (h : Texts B w' (.slice (some ⟨bk, o, none⟩) n c) l) => behind_none h hlt hc)
                subst hc
                go_wp2_with fail
                refine HST.out.mono ?_
                rintro e w1 ⟨rfl, s1, b1⟩
                have S1 := Lib.hid s1
                have B1 : Hid (Below w.heap.size w w1) := hB.out.trans (b1.below (Nat.le_refl _) hB.out.size)
                have T1 := Lib.hid ((b1.texts hNC.out hT.out).more b1.size)
                clear s1 b1 HST hNC hS hT hB hcell
                go_wp2_with fail
                refine (HK.out w1 B1.out).mono ?_
                rintro e w2 ⟨rfl, hb2⟩
                have S2 := Lib.hid (MapAll.below S1.out hb2)
                have B2 := Lib.hid (on B1.out hb2)
                have T2 := Lib.hid ((T1.out.below hb2).more hb2.size)
                clear hb2 S1 B1 T1 HK
                go_wp2_with fail
                go_roundg gk
                case measure => omega
                case rel => exact ⟨m, i + 1, M + 1, rfl, rfl, rfl, by go_num, by omega, hlead2.out, (by have := hM.out; show M + 1 ≤ _; omega), S2.out, T2.out, B2.out⟩
              · have HBH := Lib.hid (fun (B : Nat) (w' : World) (h : Texts B w' (.slice (some ⟨bk, o, none⟩) n c) l) => behind_texts h hlt)
                have hc' : ¬ i + 1 = c := fun e => hc e.symm
                go_wp2_with fail
                refine HST.out.mono ?_
                rintro e w1 ⟨rfl, s1, b1⟩
                have S1 := Lib.hid s1
                have B1 : Hid (Below w.heap.size w w1) := hB.out.trans (b1.below (Nat.le_refl _) hB.out.size)
                have T1 := Lib.hid ((b1.texts hNC.out hT.out).more b1.size)
                clear s1 b1 HST hNC hS hT hB hcell
                go_wp2_with fail
                refine (HK.out w1 B1.out).mono ?_
                rintro e w2 ⟨rfl, hb2⟩
                have S2 := Lib.hid (MapAll.below S1.out hb2)
                have B2 := Lib.hid (on B1.out hb2)
                have T2 := Lib.hid ((T1.out.below hb2).more hb2.size)
                clear hb2 S1 B1 T1 HK
                go_wp2_with fail
                go_roundg gk
                case measure => omega
                case rel => exact ⟨m, i + 1, M + 1, rfl, rfl, rfl, by go_num, by omega, hlead2.out, (by have := hM.out; show M + 1 ≤ _; omega), S2.out, T2.out, B2.out⟩
            · have tA : ((nodeAt t.L m).kind != 3) = true := by simpa using hA
              generalize nodeAt t.L m = x at *
              clear hk hA hlen
              by_cases hc : c = i + 1
              · have HBH := Lib.hid (fun (B : Nat) (w' : World) (h : Texts B w' (.slice (some ⟨bk, o, none⟩) n c) l) => behind_none h hlt hc)
                subst hc
                go_wp2_with fail
                refine HST.out.mono ?_
                rintro e w1 ⟨rfl, s1, b1⟩
                have S1 := Lib.hid s1
                have B1 : Hid (Below w.heap.size w w1) := hB.out.trans (b1.below (Nat.le_refl _) hB.out.size)
                have T1 := Lib.hid ((b1.texts hNC.out hT.out).more b1.size)
                clear s1 b1 HST hNC hS hT hB hcell
                go_wp2_with fail
                refine (HK.out w1 B1.out).mono ?_
                rintro e w2 ⟨rfl, hb2⟩
                have S2 := Lib.hid (MapAll.below S1.out hb2)
                have B2 := Lib.hid (on B1.out hb2)
                have T2 := Lib.hid ((T1.out.below hb2).more hb2.size)
                clear hb2 S1 B1 T1 HK
                go_wp2_with fail
                go_roundg gk
                case measure => omega
                case rel => exact ⟨m, i + 1, M + 1, rfl, rfl, rfl, by go_num, by omega, hlead2.out, (by have := hM.out; show M + 1 ≤ _; omega), S2.out, T2.out, B2.out⟩
              · have HBH := Lib.hid (fun (B : Nat) (w' : World) (h : Texts B w' (.slice (some ⟨bk, o, none⟩) n c) l) => behind_texts h hlt)
                have hc' : ¬ i + 1 = c := fun e => hc e.symm
                go_wp2_with fail
                refine HST.out.mono ?_
                rintro e w1 ⟨rfl, s1, b1⟩
                have S1 := Lib.hid s1
                have B1 : Hid (Below w.heap.size w w1) := hB.out.trans (b1.below (Nat.le_refl _) hB.out.size)
                have T1 := Lib.hid ((b1.texts hNC.out hT.out).more b1.size)
                clear s1 b1 HST hNC hS hT hB hcell
                go_wp2_with fail
                refine (HK.out w1 B1.out).mono ?_
                rintro e w2 ⟨rfl, hb2⟩
                have S2 := Lib.hid (MapAll.below S1.out hb2)
                have B2 := Lib.hid (on B1.out hb2)
                have T2 := Lib.hid ((T1.out.below hb2).more hb2.size)
                clear hb2 S1 B1 T1 HK
                go_wp2_with fail
                go_roundg gk
                case measure => omega
                case rel => exact ⟨m, i + 1, M + 1, rfl, rfl, rfl, by go_num, by omega, hlead2.out, (by have := hM.out; show M + 1 ≤ _; omega), S2.out, T2.out, B2.out⟩
          · have hlink := goTo_link HR.out (hops := hops) he hk
            rw [hst] at HST
            have hlead : Leads t at_ (s.data.toList :: l.drop (i + 1)) last hops ra re := hlead
            unfold Leads at hlead
            rw [hlink] at hlead
            clear hst he hlink
            generalize (stepN t at_ s.data.toList).1 = m at *
            have hA : (nodeAt t.L m).kind = 3 := by
              rcases Decidable.em ((nodeAt t.L m).kind = 3) with h | h
              · exact h
              · exact absurd (Or.inl h) hk
            have tA : ((nodeAt t.L m).kind != 3) = false := by simp [hA]
            have hrl : ¬ (l.drop (i + 1) = [] ∧ last = false) := fun h => hk (Or.inr h)
            have tL : (((n - (i + 1) : Nat) : Int) == 0 && !last) = false := by
              cases last with
              | true => simp
              | false =>
                have : l.drop (i + 1) ≠ [] := fun e => hrl ⟨e, rfl⟩
                have := List.length_pos_iff.2 this
                simp
                omega
            clear hk hrl
            by_cases h4 : 40 ≤ hops
            · have t40 : ((hops : Int) == 40) = true := by simp; omega
              rw [if_pos h4] at hlead
              obtain ⟨g1, g2⟩ := hlead
              replace g1 := Lib.hid g1
              replace g2 := Lib.hid g2
              generalize nodeAt t.L m = x at *
              clear hA h4 hlen
              cases last with
              | true =>
                clear tL
                by_cases h00 : n = i + 1
                · have t00 : (((n - (i + 1) : Nat) : Int) == 0) = true := by rw [show n - (i + 1) = 0 by omega]; rfl
                  clear h00
                  by_cases hc : c = i + 1
                  · have HBH := Lib.hid (fun (B : Nat) (w' : World) (h : Texts B w' (.slice (some ⟨bk, o, none⟩) n c) l) => behind_none h hlt hc)
                    subst hc
                    go_wp2_with fail
                    refine HST.out.mono ?_
                    rintro e w1 ⟨rfl, s1, b1⟩
                    have S1 := Lib.hid s1
                    have B1 : Hid (Below w.heap.size w w1) := hB.out.trans (b1.below (Nat.le_refl _) hB.out.size)
                    have T1 := Lib.hid ((b1.texts hNC.out hT.out).more b1.size)
                    clear s1 b1 HST hNC hS hT hB hcell
                    go_wp2_with fail
                    refine (HK.out w1 B1.out).mono ?_
                    rintro e w2 ⟨rfl, hb2⟩
                    have S2 := Lib.hid (MapAll.below S1.out hb2)
                    have B2 := Lib.hid (on B1.out hb2)
                    have T2 := Lib.hid ((T1.out.below hb2).more hb2.size)
                    clear hb2 S1 B1 T1 HK
                    go_wp2_with fail
                    try rw [Exit.noGoto_ret]
                    go_ret2
                    exact ⟨by rw [← g1.out, ← g2.out]; rfl, B2.out⟩
                  · have HBH := Lib.hid (fun (B : Nat) (w' : World) (h : Texts B w' (.slice (some ⟨bk, o, none⟩) n c) l) => behind_texts h hlt)
                    have hc' : ¬ i + 1 = c := fun e => hc e.symm
                    go_wp2_with fail
                    refine HST.out.mono ?_
                    rintro e w1 ⟨rfl, s1, b1⟩
                    have S1 := Lib.hid s1
                    have B1 : Hid (Below w.heap.size w w1) := hB.out.trans (b1.below (Nat.le_refl _) hB.out.size)
                    have T1 := Lib.hid ((b1.texts hNC.out hT.out).more b1.size)
                    clear s1 b1 HST hNC hS hT hB hcell
                    go_wp2_with fail
                    refine (HK.out w1 B1.out).mono ?_
                    rintro e w2 ⟨rfl, hb2⟩
                    have S2 := Lib.hid (MapAll.below S1.out hb2)
                    have B2 := Lib.hid (on B1.out hb2)
                    have T2 := Lib.hid ((T1.out.below hb2).more hb2.size)
                    clear hb2 S1 B1 T1 HK
                    go_wp2_with fail
                    try rw [Exit.noGoto_ret]
                    go_ret2
                    exact ⟨by rw [← g1.out, ← g2.out]; rfl, B2.out⟩
                · have t00 : (((n - (i + 1) : Nat) : Int) == 0) = false := by rw [beq_eq_false_iff_ne]; omega
                  have hc : ¬ c = i + 1 := by omega
                  have HBH := Lib.hid (fun (B : Nat) (w' : World) (h : Texts B w' (.slice (some ⟨bk, o, none⟩) n c) l) => behind_texts h hlt)
                  have hc' : ¬ i + 1 = c := fun e => hc e.symm
                  go_wp2_with fail
                  refine HST.out.mono ?_
                  rintro e w1 ⟨rfl, s1, b1⟩
                  have S1 := Lib.hid s1
                  have B1 : Hid (Below w.heap.size w w1) := hB.out.trans (b1.below (Nat.le_refl _) hB.out.size)
                  have T1 := Lib.hid ((b1.texts hNC.out hT.out).more b1.size)
                  clear s1 b1 HST hNC hS hT hB hcell
                  go_wp2_with fail
                  refine (HK.out w1 B1.out).mono ?_
                  rintro e w2 ⟨rfl, hb2⟩
                  have S2 := Lib.hid (MapAll.below S1.out hb2)
                  have B2 := Lib.hid (on B1.out hb2)
                  have T2 := Lib.hid ((T1.out.below hb2).more hb2.size)
                  clear hb2 S1 B1 T1 HK
                  go_wp2_with fail
                  try rw [Exit.noGoto_ret]
                  go_ret2
                  exact ⟨by rw [← g1.out, ← g2.out]; rfl, B2.out⟩
              | false =>
                have h00 : ¬ n = i + 1 := by intro e; rw [show n - (i + 1) = 0 by omega] at tL; exact absurd tL (by decide)
                have t00 : (((n - (i + 1) : Nat) : Int) == 0) = false := by rw [beq_eq_false_iff_ne]; omega
                clear tL
                have hc : ¬ c = i + 1 := by omega
                have HBH := Lib.hid (fun (B : Nat) (w' : World) (h : Texts B w' (.slice (some ⟨bk, o, none⟩) n c) l) => behind_texts h hlt)
                have hc' : ¬ i + 1 = c := fun e => hc e.symm
                go_wp2_with fail
                refine HST.out.mono ?_
                rintro e w1 ⟨rfl, s1, b1⟩
                have S1 := Lib.hid s1
                have B1 : Hid (Below w.heap.size w w1) := hB.out.trans (b1.below (Nat.le_refl _) hB.out.size)
                have T1 := Lib.hid ((b1.texts hNC.out hT.out).more b1.size)
                clear s1 b1 HST hNC hS hT hB hcell
                go_wp2_with fail
                refine (HK.out w1 B1.out).mono ?_
                rintro e w2 ⟨rfl, hb2⟩
                have S2 := Lib.hid (MapAll.below S1.out hb2)
                have B2 := Lib.hid (on B1.out hb2)
                have T2 := Lib.hid ((T1.out.below hb2).more hb2.size)
                clear hb2 S1 B1 T1 HK
                go_wp2_with fail
                try rw [Exit.noGoto_ret]
                go_ret2
                exact ⟨by rw [← g1.out, ← g2.out]; rfl, B2.out⟩
            · have t40 : ((hops : Int) == 40) = false := by simp; omega
              rw [if_neg h4] at hlead
              have H39 : Hid (hops + 1 ≤ 40) := by show hops + 1 ≤ 40; omega
              have hw2 : IntKind.i64.wrap ((hops : Int) + 1) = (hops : Int) + 1 := by rw [IntKind.wrap_i64]; omega
              have hmem : nodeAt t.L m ∈ t.L := (M07.at_some (by rw [hA]; decide)).1
              obtain ⟨hfl, -⟩ := HG.out.fit _ hmem
              obtain ⟨ds, hds⟩ : ∃ ds : ByteArray, ds.data.toList = (nodeAt t.L m).data := ⟨⟨(nodeAt t.L m).data.toArray⟩, rfl⟩
              rw [mk_of hds] at HDT
              rw [← hds] at hlead hfl
              have hdl : ds.size ≤ 65536 := by rw [Lib.size_eq]; exact hfl
              have HPT := Lib.hid (fun w' => W04.parts_any ds (by omega) w')
              have HHP := Lib.hid (fun w' => Tryz.strings_HasPrefix ds ⟨#[47]⟩ w')
              rw [show ((⟨#[47]⟩ : ByteArray).data.toList) = [47] from rfl, prefix_slash] at HHP
              have hpl := parts_len ds.data.toList
              rw [← Lib.size_eq] at hpl
              have HPP := Lib.hid (parts_are ds.data.toList)
              have HPS : Hid (∀ p ∈ parts ds.data.toList, p.length ≤ 1048576) := fun p hp => by have := parts_each ds.data.toList p hp; omega
              have hll : Hid ((parts ds.data.toList ++ l.drop (i + 1)).length ≤ 70000 * (hops + 1 + 1)) := by have := hl.out; rw [HN.out] at this; show _ ≤ _; rw [List.length_append, hlen]; omega
              have hl2 : Hid ((parts ds.data.toList).length + (l.drop (i + 1)).length ≤ 4398046511104) := by have := hl.out; rw [HN.out] at this; show _ ≤ _; rw [hlen]; omega
              have HPA : Hid (∀ p ∈ parts ds.data.toList ++ l.drop (i + 1), Part p) := fun p hp => (List.mem_append.1 hp).elim (HPP.out p) (HRP.out p)
              have HPA2 : Hid (∀ p ∈ parts ds.data.toList ++ l.drop (i + 1), p.length ≤ 1048576) := fun p hp => (List.mem_append.1 hp).elim (HPS.out p) (HRS.out p)
              have hlead2 : Hid (Leads t (M08.base at_ ds.data.toList) (parts ds.data.toList ++ l.drop (i + 1)) last (hops + 1) ra re) := hlead
              generalize parts ds.data.toList = PL at *
              generalize nodeAt t.L m = x at *
              clear hA h4 hmem hds hfl hdl hpl hlead hlen HPP HRP HPS HRS
              cases last with
              | true =>
                clear tL
                by_cases h00 : n = i + 1
                · have t00 : (((n - (i + 1) : Nat) : Int) == 0) = true := by rw [show n - (i + 1) = 0 by omega]; rfl
                  clear h00
                  by_cases hc : c = i + 1
                  · have HBH := Lib.hid (fun (B : Nat) (w' : World) (h : Texts B w' (.slice (some ⟨bk, o, none⟩) n c) l) => behind_none h hlt hc)
                    subst hc
                    by_cases h47 : ds.data.toList.head? = some 47
                    · skip
                      rw [decide_eq_true h47] at HHP
                      have hlead2 := hlead2.out
                      unfold M08.base at hlead2
                      rw [if_pos h47] at hlead2
                      replace hlead2 := Lib.hid hlead2
                      clear h47
                      go_wp2_with fail
                      refine HST.out.mono ?_
                      rintro e w1 ⟨rfl, s1, b1⟩
                      have S1 := Lib.hid s1
                      have B1 : Hid (Below w.heap.size w w1) := hB.out.trans (b1.below (Nat.le_refl _) hB.out.size)
                      have T1 := Lib.hid ((b1.texts hNC.out hT.out).more b1.size)
                      clear s1 b1 HST hNC hS hT hB hcell
                      go_wp2_with fail
                      refine (HK.out w1 B1.out).mono ?_
                      rintro e w2 ⟨rfl, hb2⟩
                      have S2 := Lib.hid (MapAll.below S1.out hb2)
                      have B2 := Lib.hid (on B1.out hb2)
                      have T2 := Lib.hid ((T1.out.below hb2).more hb2.size)
                      clear hb2 S1 B1 T1 HK
                      go_wp2_with fail
                      refine (HDT.out _ B2.out).mono ?_
                      rintro e w3 ⟨rfl, hb3⟩
                      have S3 := Lib.hid (MapAll.below S2.out hb3)
                      have B3 := Lib.hid (on B2.out hb3)
                      have T3 := Lib.hid ((T2.out.below hb3).more hb3.size)
                      clear hb3 S2 B2 T2
                      go_wp2_with fail
                      refine (HHP.out _).mono ?_
                      rintro e w3' ⟨rfl, hw3⟩
                      replace hw3 := hw3.symm
                      subst hw3
                      go_wp2_with fail
                      refine (HPT.out _).mono ?_
                      rintro e w4 ⟨v4, rfl, ht4, hb4⟩
                      have S4 := Lib.hid (MapAll.below S3.out hb4)
                      have B4 := Lib.hid (on B3.out hb4)
                      have T4 := Lib.hid (HBH.out _ _ ((T3.out.below hb4).more hb4.size))
                      have P4 := Lib.hid ht4
                      clear hb4 S3 B3 T3 ht4
                      obtain ⟨A4, c4, rfl, -, -⟩ := P4.out.form
                      have HCC := Lib.hid (concat_two w4 _ _ _ _ _ _ _ _ 135 P4.out T4.out hl2.out 2)
                      go_wp2_with fail
                      refine HCC.out.mono ?_
                      rintro e w5 ⟨v5, rfl, ho5, hb5⟩
                      have hb45 : Below w4.heap.size w4 w5 := ((Below.refl w4.heap.size w4).alloc (Nat.le_refl _) _).trans (hb5.mono (by simp))
                      have S5 := Lib.hid (MapAll.below S4.out hb45)
                      have B5 := Lib.hid (Kit.on B4.out hb45)
                      have T5 := Lib.hid (Texts.of_own ho5)
                      clear hb5 hb45 ho5 HCC
                      obtain ⟨A5, c5, rfl, -, -⟩ := T5.out.form
                      go_wp2_with fail
                      go_roundg (40 - hops)
                      case measure => have := hg.out; omega
                      case rel => exact ⟨A5, c5, PL ++ l.drop (i + 1), 1, hops + 1, M + 1, rfl, (by rw [List.length_append, List.length_drop]), (by push_cast; rfl), (by have := hg.out; show hops + 1 + (40 - hops) = 41; omega), H39.out, hll.out, HPA.out, HPA2.out, hlead2.out, T5.out, (by have h1 := hM.out; have h2 := hl.out; rw [HN.out] at h2; show M + 1 ≤ 3000000 * (hops + 1); omega), S5.out, B5.out⟩
                    · skip
                      rw [decide_eq_false h47] at HHP
                      have hlead2 := hlead2.out
                      unfold M08.base at hlead2
                      rw [if_neg h47] at hlead2
                      replace hlead2 := Lib.hid hlead2
                      clear h47
                      go_wp2_with fail
                      refine HST.out.mono ?_
                      rintro e w1 ⟨rfl, s1, b1⟩
                      have S1 := Lib.hid s1
                      have B1 : Hid (Below w.heap.size w w1) := hB.out.trans (b1.below (Nat.le_refl _) hB.out.size)
                      have T1 := Lib.hid ((b1.texts hNC.out hT.out).more b1.size)
                      clear s1 b1 HST hNC hS hT hB hcell
                      go_wp2_with fail
                      refine (HK.out w1 B1.out).mono ?_
                      rintro e w2 ⟨rfl, hb2⟩
                      have S2 := Lib.hid (MapAll.below S1.out hb2)
                      have B2 := Lib.hid (on B1.out hb2)
                      have T2 := Lib.hid ((T1.out.below hb2).more hb2.size)
                      clear hb2 S1 B1 T1 HK
                      go_wp2_with fail
                      refine (HDT.out _ B2.out).mono ?_
                      rintro e w3 ⟨rfl, hb3⟩
                      have S3 := Lib.hid (MapAll.below S2.out hb3)
                      have B3 := Lib.hid (on B2.out hb3)
                      have T3 := Lib.hid ((T2.out.below hb3).more hb3.size)
                      clear hb3 S2 B2 T2
                      go_wp2_with fail
                      refine (HHP.out _).mono ?_
                      rintro e w3' ⟨rfl, hw3⟩
                      replace hw3 := hw3.symm
                      subst hw3
                      go_wp2_with fail
                      refine (HPT.out _).mono ?_
                      rintro e w4 ⟨v4, rfl, ht4, hb4⟩
                      have S4 := Lib.hid (MapAll.below S3.out hb4)
                      have B4 := Lib.hid (on B3.out hb4)
                      have T4 := Lib.hid (HBH.out _ _ ((T3.out.below hb4).more hb4.size))
                      have P4 := Lib.hid ht4
                      clear hb4 S3 B3 T3 ht4
                      obtain ⟨A4, c4, rfl, -, -⟩ := P4.out.form
                      have HCC := Lib.hid (concat_two w4 _ _ _ _ _ _ _ _ 135 P4.out T4.out hl2.out 2)
                      go_wp2_with fail
                      refine HCC.out.mono ?_
                      rintro e w5 ⟨v5, rfl, ho5, hb5⟩
                      have hb45 : Below w4.heap.size w4 w5 := ((Below.refl w4.heap.size w4).alloc (Nat.le_refl _) _).trans (hb5.mono (by simp))
                      have S5 := Lib.hid (MapAll.below S4.out hb45)
                      have B5 := Lib.hid (Kit.on B4.out hb45)
                      have T5 := Lib.hid (Texts.of_own ho5)
                      clear hb5 hb45 ho5 HCC
                      obtain ⟨A5, c5, rfl, -, -⟩ := T5.out.form
                      go_wp2_with fail
                      go_roundg (40 - hops)
                      case measure => have := hg.out; omega
                      case rel => exact ⟨A5, c5, PL ++ l.drop (i + 1), at_, hops + 1, M + 1, rfl, (by rw [List.length_append, List.length_drop]), (by push_cast; rfl), (by have := hg.out; show hops + 1 + (40 - hops) = 41; omega), H39.out, hll.out, HPA.out, HPA2.out, hlead2.out, T5.out, (by have h1 := hM.out; have h2 := hl.out; rw [HN.out] at h2; show M + 1 ≤ 3000000 * (hops + 1); omega), S5.out, B5.out⟩
                  · have HBH := Lib.hid (fun (B : Nat) (w' : World) (h : Texts B w' (.slice (some ⟨bk, o, none⟩) n c) l) => behind_texts h hlt)
                    have hc' : ¬ i + 1 = c := fun e => hc e.symm
                    by_cases h47 : ds.data.toList.head? = some 47
                    · skip
                      rw [decide_eq_true h47] at HHP
                      have hlead2 := hlead2.out
                      unfold M08.base at hlead2
                      rw [if_pos h47] at hlead2
                      replace hlead2 := Lib.hid hlead2
                      clear h47
                      go_wp2_with fail
                      refine HST.out.mono ?_
                      rintro e w1 ⟨rfl, s1, b1⟩
                      have S1 := Lib.hid s1
                      have B1 : Hid (Below w.heap.size w w1) := hB.out.trans (b1.below (Nat.le_refl _) hB.out.size)
                      have T1 := Lib.hid ((b1.texts hNC.out hT.out).more b1.size)
                      clear s1 b1 HST hNC hS hT hB hcell
                      go_wp2_with fail
                      refine (HK.out w1 B1.out).mono ?_
                      rintro e w2 ⟨rfl, hb2⟩
                      have S2 := Lib.hid (MapAll.below S1.out hb2)
                      have B2 := Lib.hid (on B1.out hb2)
                      have T2 := Lib.hid ((T1.out.below hb2).more hb2.size)
                      clear hb2 S1 B1 T1 HK
                      go_wp2_with fail
                      refine (HDT.out _ B2.out).mono ?_
                      rintro e w3 ⟨rfl, hb3⟩
                      have S3 := Lib.hid (MapAll.below S2.out hb3)
                      have B3 := Lib.hid (on B2.out hb3)
                      have T3 := Lib.hid ((T2.out.below hb3).more hb3.size)
                      clear hb3 S2 B2 T2
                      go_wp2_with fail
                      refine (HHP.out _).mono ?_
                      rintro e w3' ⟨rfl, hw3⟩
                      replace hw3 := hw3.symm
                      subst hw3
                      go_wp2_with fail
                      refine (HPT.out _).mono ?_
                      rintro e w4 ⟨v4, rfl, ht4, hb4⟩
                      have S4 := Lib.hid (MapAll.below S3.out hb4)
                      have B4 := Lib.hid (on B3.out hb4)
                      have T4 := Lib.hid (HBH.out _ _ ((T3.out.below hb4).more hb4.size))
                      have P4 := Lib.hid ht4
                      clear hb4 S3 B3 T3 ht4
                      obtain ⟨A4, c4, rfl, -, -⟩ := P4.out.form
                      have HCC := Lib.hid (concat_two w4 _ _ _ _ _ _ _ _ 135 P4.out T4.out hl2.out 2)
                      go_wp2_with fail
                      refine HCC.out.mono ?_
                      rintro e w5 ⟨v5, rfl, ho5, hb5⟩
                      have hb45 : Below w4.heap.size w4 w5 := ((Below.refl w4.heap.size w4).alloc (Nat.le_refl _) _).trans (hb5.mono (by simp))
                      have S5 := Lib.hid (MapAll.below S4.out hb45)
                      have B5 := Lib.hid (Kit.on B4.out hb45)
                      have T5 := Lib.hid (Texts.of_own ho5)
                      clear hb5 hb45 ho5 HCC
                      obtain ⟨A5, c5, rfl, -, -⟩ := T5.out.form
                      go_wp2_with fail
                      go_roundg (40 - hops)
                      case measure => have := hg.out; omega
                      case rel => exact ⟨A5, c5, PL ++ l.drop (i + 1), 1, hops + 1, M + 1, rfl, (by rw [List.length_append, List.length_drop]), (by push_cast; rfl), (by have := hg.out; show hops + 1 + (40 - hops) = 41; omega), H39.out, hll.out, HPA.out, HPA2.out, hlead2.out, T5.out, (by have h1 := hM.out; have h2 := hl.out; rw [HN.out] at h2; show M + 1 ≤ 3000000 * (hops + 1); omega), S5.out, B5.out⟩
                    · skip
                      rw [decide_eq_false h47] at HHP
                      have hlead2 := hlead2.out
                      unfold M08.base at hlead2
                      rw [if_neg h47] at hlead2
                      replace hlead2 := Lib.hid hlead2
                      clear h47
                      go_wp2_with fail
                      refine HST.out.mono ?_
                      rintro e w1 ⟨rfl, s1, b1⟩
                      have S1 := Lib.hid s1
                      have B1 : Hid (Below w.heap.size w w1) := hB.out.trans (b1.below (Nat.le_refl _) hB.out.size)
                      have T1 := Lib.hid ((b1.texts hNC.out hT.out).more b1.size)
                      clear s1 b1 HST hNC hS hT hB hcell
                      go_wp2_with fail
                      refine (HK.out w1 B1.out).mono ?_
                      rintro e w2 ⟨rfl, hb2⟩
                      have S2 := Lib.hid (MapAll.below S1.out hb2)
                      have B2 := Lib.hid (on B1.out hb2)
                      have T2 := Lib.hid ((T1.out.below hb2).more hb2.size)
                      clear hb2 S1 B1 T1 HK
                      go_wp2_with fail
                      refine (HDT.out _ B2.out).mono ?_
                      rintro e w3 ⟨rfl, hb3⟩
                      have S3 := Lib.hid (MapAll.below S2.out hb3)
                      have B3 := Lib.hid (on B2.out hb3)
                      have T3 := Lib.hid ((T2.out.below hb3).more hb3.size)
                      clear hb3 S2 B2 T2
                      go_wp2_with fail
                      refine (HHP.out _).mono ?_
                      rintro e w3' ⟨rfl, hw3⟩
                      replace hw3 := hw3.symm
                      subst hw3
                      go_wp2_with fail
                      refine (HPT.out _).mono ?_
                      rintro e w4 ⟨v4, rfl, ht4, hb4⟩
                      have S4 := Lib.hid (MapAll.below S3.out hb4)
                      have B4 := Lib.hid (on B3.out hb4)
                      have T4 := Lib.hid (HBH.out _ _ ((T3.out.below hb4).more hb4.size))
                      have P4 := Lib.hid ht4
                      clear hb4 S3 B3 T3 ht4
                      obtain ⟨A4, c4, rfl, -, -⟩ := P4.out.form
                      have HCC := Lib.hid (concat_two w4 _ _ _ _ _ _ _ _ 135 P4.out T4.out hl2.out 2)
                      go_wp2_with fail
                      refine HCC.out.mono ?_
                      rintro e w5 ⟨v5, rfl, ho5, hb5⟩
                      have hb45 : Below w4.heap.size w4 w5 := ((Below.refl w4.heap.size w4).alloc (Nat.le_refl _) _).trans (hb5.mono (by simp))
                      have S5 := Lib.hid (MapAll.below S4.out hb45)
                      have B5 := Lib.hid (Kit.on B4.out hb45)
                      have T5 := Lib.hid (Texts.of_own ho5)
                      clear hb5 hb45 ho5 HCC
                      obtain ⟨A5, c5, rfl, -, -⟩ := T5.out.form
                      go_wp2_with fail
                      go_roundg (40 - hops)
                      case measure => have := hg.out; omega
                      case rel => exact ⟨A5, c5, PL ++ l.drop (i + 1), at_, hops + 1, M + 1, rfl, (by rw [List.length_append, List.length_drop]), (by push_cast; rfl), (by have := hg.out; show hops + 1 + (40 - hops) = 41; omega), H39.out, hll.out, HPA.out, HPA2.out, hlead2.out, T5.out, (by have h1 := hM.out; have h2 := hl.out; rw [HN.out] at h2; show M + 1 ≤ 3000000 * (hops + 1); omega), S5.out, B5.out⟩
                · have t00 : (((n - (i + 1) : Nat) : Int) == 0) = false := by rw [beq_eq_false_iff_ne]; omega
                  have hc : ¬ c = i + 1 := by omega
                  have HBH := Lib.hid (fun (B : Nat) (w' : World) (h : Texts B w' (.slice (some ⟨bk, o, none⟩) n c) l) => behind_texts h hlt)
                  have hc' : ¬ i + 1 = c := fun e => hc e.symm
                  by_cases h47 : ds.data.toList.head? = some 47
                  · skip
                    rw [decide_eq_true h47] at HHP
                    have hlead2 := hlead2.out
                    unfold M08.base at hlead2
                    rw [if_pos h47] at hlead2
                    replace hlead2 := Lib.hid hlead2
                    clear h47
                    go_wp2_with fail
                    refine HST.out.mono ?_
                    rintro e w1 ⟨rfl, s1, b1⟩
                    have S1 := Lib.hid s1
                    have B1 : Hid (Below w.heap.size w w1) := hB.out.trans (b1.below (Nat.le_refl _) hB.out.size)
                    have T1 := Lib.hid ((b1.texts hNC.out hT.out).more b1.size)
                    clear s1 b1 HST hNC hS hT hB hcell
                    go_wp2_with fail
                    refine (HK.out w1 B1.out).mono ?_
                    rintro e w2 ⟨rfl, hb2⟩
                    have S2 := Lib.hid (MapAll.below S1.out hb2)
                    have B2 := Lib.hid (on B1.out hb2)
                    have T2 := Lib.hid ((T1.out.below hb2).more hb2.size)
                    clear hb2 S1 B1 T1 HK
                    go_wp2_with fail
                    refine (HDT.out _ B2.out).mono ?_
                    rintro e w3 ⟨rfl, hb3⟩
                    have S3 := Lib.hid (MapAll.below S2.out hb3)
                    have B3 := Lib.hid (on B2.out hb3)
                    have T3 := Lib.hid ((T2.out.below hb3).more hb3.size)
                    clear hb3 S2 B2 T2
                    go_wp2_with fail
                    refine (HHP.out _).mono ?_
                    rintro e w3' ⟨rfl, hw3⟩
                    replace hw3 := hw3.symm
                    subst hw3
                    go_wp2_with fail
                    refine (HPT.out _).mono ?_
                    rintro e w4 ⟨v4, rfl, ht4, hb4⟩
                    have S4 := Lib.hid (MapAll.below S3.out hb4)
                    have B4 := Lib.hid (on B3.out hb4)
                    have T4 := Lib.hid (HBH.out _ _ ((T3.out.below hb4).more hb4.size))
                    have P4 := Lib.hid ht4
                    clear hb4 S3 B3 T3 ht4
                    obtain ⟨A4, c4, rfl, -, -⟩ := P4.out.form
                    have HCC := Lib.hid (concat_two w4 _ _ _ _ _ _ _ _ 135 P4.out T4.out hl2.out 2)
                    go_wp2_with fail
                    refine HCC.out.mono ?_
                    rintro e w5 ⟨v5, rfl, ho5, hb5⟩
                    have hb45 : Below w4.heap.size w4 w5 := ((Below.refl w4.heap.size w4).alloc (Nat.le_refl _) _).trans (hb5.mono (by simp))
                    have S5 := Lib.hid (MapAll.below S4.out hb45)
                    have B5 := Lib.hid (Kit.on B4.out hb45)
                    have T5 := Lib.hid (Texts.of_own ho5)
                    clear hb5 hb45 ho5 HCC
                    obtain ⟨A5, c5, rfl, -, -⟩ := T5.out.form
                    go_wp2_with fail
                    go_roundg (40 - hops)
                    case measure => have := hg.out; omega
                    case rel => exact ⟨A5, c5, PL ++ l.drop (i + 1), 1, hops + 1, M + 1, rfl, (by rw [List.length_append, List.length_drop]), (by push_cast; rfl), (by have := hg.out; show hops + 1 + (40 - hops) = 41; omega), H39.out, hll.out, HPA.out, HPA2.out, hlead2.out, T5.out, (by have h1 := hM.out; have h2 := hl.out; rw [HN.out] at h2; show M + 1 ≤ 3000000 * (hops + 1); omega), S5.out, B5.out⟩
                  · skip
                    rw [decide_eq_false h47] at HHP
                    have hlead2 := hlead2.out
                    unfold M08.base at hlead2
                    rw [if_neg h47] at hlead2
                    replace hlead2 := Lib.hid hlead2
                    clear h47
                    go_wp2_with fail
                    refine HST.out.mono ?_
                    rintro e w1 ⟨rfl, s1, b1⟩
                    have S1 := Lib.hid s1
                    have B1 : Hid (Below w.heap.size w w1) := hB.out.trans (b1.below (Nat.le_refl _) hB.out.size)
                    have T1 := Lib.hid ((b1.texts hNC.out hT.out).more b1.size)
                    clear s1 b1 HST hNC hS hT hB hcell
                    go_wp2_with fail
                    refine (HK.out w1 B1.out).mono ?_
                    rintro e w2 ⟨rfl, hb2⟩
                    have S2 := Lib.hid (MapAll.below S1.out hb2)
                    have B2 := Lib.hid (on B1.out hb2)
                    have T2 := Lib.hid ((T1.out.below hb2).more hb2.size)
                    clear hb2 S1 B1 T1 HK
                    go_wp2_with fail
                    refine (HDT.out _ B2.out).mono ?_
                    rintro e w3 ⟨rfl, hb3⟩
                    have S3 := Lib.hid (MapAll.below S2.out hb3)
                    have B3 := Lib.hid (on B2.out hb3)
                    have T3 := Lib.hid ((T2.out.below hb3).more hb3.size)
                    clear hb3 S2 B2 T2
                    go_wp2_with fail
                    refine (HHP.out _).mono ?_
                    rintro e w3' ⟨rfl, hw3⟩
                    replace hw3 := hw3.symm
                    subst hw3
                    go_wp2_with fail
                    refine (HPT.out _).mono ?_
                    rintro e w4 ⟨v4, rfl, ht4, hb4⟩
                    have S4 := Lib.hid (MapAll.below S3.out hb4)
                    have B4 := Lib.hid (on B3.out hb4)
                    have T4 := Lib.hid (HBH.out _ _ ((T3.out.below hb4).more hb4.size))
                    have P4 := Lib.hid ht4
                    clear hb4 S3 B3 T3 ht4
                    obtain ⟨A4, c4, rfl, -, -⟩ := P4.out.form
                    have HCC := Lib.hid (concat_two w4 _ _ _ _ _ _ _ _ 135 P4.out T4.out hl2.out 2)
                    go_wp2_with fail
                    refine HCC.out.mono ?_
                    rintro e w5 ⟨v5, rfl, ho5, hb5⟩
                    have hb45 : Below w4.heap.size w4 w5 := ((Below.refl w4.heap.size w4).alloc (Nat.le_refl _) _).trans (hb5.mono (by simp))
                    have S5 := Lib.hid (MapAll.below S4.out hb45)
                    have B5 := Lib.hid (Kit.on B4.out hb45)
                    have T5 := Lib.hid (Texts.of_own ho5)
                    clear hb5 hb45 ho5 HCC
                    obtain ⟨A5, c5, rfl, -, -⟩ := T5.out.form
                    go_wp2_with fail
                    go_roundg (40 - hops)
                    case measure => have := hg.out; omega
                    case rel => exact ⟨A5, c5, PL ++ l.drop (i + 1), at_, hops + 1, M + 1, rfl, (by rw [List.length_append, List.length_drop]), (by push_cast; rfl), (by have := hg.out; show hops + 1 + (40 - hops) = 41; omega), H39.out, hll.out, HPA.out, HPA2.out, hlead2.out, T5.out, (by have h1 := hM.out; have h2 := hl.out; rw [HN.out] at h2; show M + 1 ≤ 3000000 * (hops + 1); omega), S5.out, B5.out⟩
              | false =>
                have h00 : ¬ n = i + 1 := by intro e; rw [show n - (i + 1) = 0 by omega] at tL; exact absurd tL (by decide)
                have t00 : (((n - (i + 1) : Nat) : Int) == 0) = false := by rw [beq_eq_false_iff_ne]; omega
                clear tL
                have hc : ¬ c = i + 1 := by omega
                have HBH := Lib.hid (fun (B : Nat) (w' : World) (h : Texts B w' (.slice (some ⟨bk, o, none⟩) n c) l) => behind_texts h hlt)
                have hc' : ¬ i + 1 = c := fun e => hc e.symm
                by_cases h47 : ds.data.toList.head? = some 47
                · skip
                  rw [decide_eq_true h47] at HHP
                  have hlead2 := hlead2.out
                  unfold M08.base at hlead2
                  rw [if_pos h47] at hlead2
                  replace hlead2 := Lib.hid hlead2
                  clear h47
                  go_wp2_with fail
                  refine HST.out.mono ?_
                  rintro e w1 ⟨rfl, s1, b1⟩
                  have S1 := Lib.hid s1
                  have B1 : Hid (Below w.heap.size w w1) := hB.out.trans (b1.below (Nat.le_refl _) hB.out.size)
                  have T1 := Lib.hid ((b1.texts hNC.out hT.out).more b1.size)
                  clear s1 b1 HST hNC hS hT hB hcell
                  go_wp2_with fail
                  refine (HK.out w1 B1.out).mono ?_
                  rintro e w2 ⟨rfl, hb2⟩
                  have S2 := Lib.hid (MapAll.below S1.out hb2)
                  have B2 := Lib.hid (on B1.out hb2)
                  have T2 := Lib.hid ((T1.out.below hb2).more hb2.size)
                  clear hb2 S1 B1 T1 HK
                  go_wp2_with fail
                  refine (HDT.out _ B2.out).mono ?_
                  rintro e w3 ⟨rfl, hb3⟩
                  have S3 := Lib.hid (MapAll.below S2.out hb3)
                  have B3 := Lib.hid (on B2.out hb3)
                  have T3 := Lib.hid ((T2.out.below hb3).more hb3.size)
                  clear hb3 S2 B2 T2
                  go_wp2_with fail
                  refine (HHP.out _).mono ?_
                  rintro e w3' ⟨rfl, hw3⟩
                  replace hw3 := hw3.symm
                  subst hw3
                  go_wp2_with fail
                  refine (HPT.out _).mono ?_
                  rintro e w4 ⟨v4, rfl, ht4, hb4⟩
                  have S4 := Lib.hid (MapAll.below S3.out hb4)
                  have B4 := Lib.hid (on B3.out hb4)
                  have T4 := Lib.hid (HBH.out _ _ ((T3.out.below hb4).more hb4.size))
                  have P4 := Lib.hid ht4
                  clear hb4 S3 B3 T3 ht4
                  obtain ⟨A4, c4, rfl, -, -⟩ := P4.out.form
                  have HCC := Lib.hid (concat_two w4 _ _ _ _ _ _ _ _ 135 P4.out T4.out hl2.out 2)
                  go_wp2_with fail
                  refine HCC.out.mono ?_
                  rintro e w5 ⟨v5, rfl, ho5, hb5⟩
                  have hb45 : Below w4.heap.size w4 w5 := ((Below.refl w4.heap.size w4).alloc (Nat.le_refl _) _).trans (hb5.mono (by simp))
                  have S5 := Lib.hid (MapAll.below S4.out hb45)
                  have B5 := Lib.hid (Kit.on B4.out hb45)
                  have T5 := Lib.hid (Texts.of_own ho5)
                  clear hb5 hb45 ho5 HCC
                  obtain ⟨A5, c5, rfl, -, -⟩ := T5.out.form
                  go_wp2_with fail
                  go_roundg (40 - hops)
                  case measure => have := hg.out; omega
                  case rel => exact ⟨A5, c5, PL ++ l.drop (i + 1), 1, hops + 1, M + 1, rfl, (by rw [List.length_append, List.length_drop]), (by push_cast; rfl), (by have := hg.out; show hops + 1 + (40 - hops) = 41; omega), H39.out, hll.out, HPA.out, HPA2.out, hlead2.out, T5.out, (by have h1 := hM.out; have h2 := hl.out; rw [HN.out] at h2; show M + 1 ≤ 3000000 * (hops + 1); omega), S5.out, B5.out⟩
                · skip
                  rw [decide_eq_false h47] at HHP
                  have hlead2 := hlead2.out
                  unfold M08.base at hlead2
                  rw [if_neg h47] at hlead2
                  replace hlead2 := Lib.hid hlead2
                  clear h47
                  go_wp2_with fail
                  refine HST.out.mono ?_
                  rintro e w1 ⟨rfl, s1, b1⟩
                  have S1 := Lib.hid s1
                  have B1 : Hid (Below w.heap.size w w1) := hB.out.trans (b1.below (Nat.le_refl _) hB.out.size)
                  have T1 := Lib.hid ((b1.texts hNC.out hT.out).more b1.size)
                  clear s1 b1 HST hNC hS hT hB hcell
                  go_wp2_with fail
                  refine (HK.out w1 B1.out).mono ?_
                  rintro e w2 ⟨rfl, hb2⟩
                  have S2 := Lib.hid (MapAll.below S1.out hb2)
                  have B2 := Lib.hid (on B1.out hb2)
                  have T2 := Lib.hid ((T1.out.below hb2).more hb2.size)
                  clear hb2 S1 B1 T1 HK
                  go_wp2_with fail
                  refine (HDT.out _ B2.out).mono ?_
                  rintro e w3 ⟨rfl, hb3⟩
                  have S3 := Lib.hid (MapAll.below S2.out hb3)
                  have B3 := Lib.hid (on B2.out hb3)
                  have T3 := Lib.hid ((T2.out.below hb3).more hb3.size)
                  clear hb3 S2 B2 T2
                  go_wp2_with fail
                  refine (HHP.out _).mono ?_
                  rintro e w3' ⟨rfl, hw3⟩
                  replace hw3 := hw3.symm
                  subst hw3
                  go_wp2_with fail
                  refine (HPT.out _).mono ?_
                  rintro e w4 ⟨v4, rfl, ht4, hb4⟩
                  have S4 := Lib.hid (MapAll.below S3.out hb4)
                  have B4 := Lib.hid (on B3.out hb4)
                  have T4 := Lib.hid (HBH.out _ _ ((T3.out.below hb4).more hb4.size))
                  have P4 := Lib.hid ht4
                  clear hb4 S3 B3 T3 ht4
                  obtain ⟨A4, c4, rfl, -, -⟩ := P4.out.form
                  have HCC := Lib.hid (concat_two w4 _ _ _ _ _ _ _ _ 135 P4.out T4.out hl2.out 2)
                  go_wp2_with fail
                  refine HCC.out.mono ?_
                  rintro e w5 ⟨v5, rfl, ho5, hb5⟩
                  have hb45 : Below w4.heap.size w4 w5 := ((Below.refl w4.heap.size w4).alloc (Nat.le_refl _) _).trans (hb5.mono (by simp))
                  have S5 := Lib.hid (MapAll.below S4.out hb45)
                  have B5 := Lib.hid (Kit.on B4.out hb45)
                  have T5 := Lib.hid (Texts.of_own ho5)
                  clear hb5 hb45 ho5 HCC
                  obtain ⟨A5, c5, rfl, -, -⟩ := T5.out.form
                  go_wp2_with fail
                  go_roundg (40 - hops)
                  case measure => have := hg.out; omega
                  case rel => exact ⟨A5, c5, PL ++ l.drop (i + 1), at_, hops + 1, M + 1, rfl, (by rw [List.length_append, List.length_drop]), (by push_cast; rfl), (by have := hg.out; show hops + 1 + (40 - hops) = 41; omega), H39.out, hll.out, HPA.out, HPA2.out, hlead2.out, T5.out, (by have h1 := hM.out; have h2 := hl.out; rw [HN.out] at h2; show M + 1 ≤ 3000000 * (hops + 1); omega), S5.out, B5.out⟩
        · have hv := goTo_err (r := l.drop (i + 1)) (last := last) (hops := hops) he
          have hlead : Leads t at_ (s.data.toList :: l.drop (i + 1)) last hops ra re := hlead
          unfold Leads at hlead
          rw [hv.1] at hlead
          obtain ⟨g1, g2⟩ := hlead
          have g3 := hv.2
          generalize stepN t at_ s.data.toList = R at *
          obtain ⟨r1, r2⟩ := R
          have g3 : r1 = 0 := g3
          subst g3
          have g1 : 0 = ra := g1
          have g2 : r2 = re := g2
          have te : (r2 != 0) = true := by simpa using he
          subst g1 g2
          clear hv he
          go_wp2_with fail
          refine HST.out.mono ?_
          rintro e w1 ⟨rfl, s1, b1⟩
          have B1 : Hid (Below w.heap.size w w1) := hB.out.trans (b1.below (Nat.le_refl _) hB.out.size)
          clear s1 b1 HST
          go_wp2_with fail
          try rw [Exit.noGoto_ret]
          go_ret2
          exact ⟨rfl, B1.out⟩
          -- @end
          end Go.Proofs.YtmbpgjncioegdaaGreatDoor.W08
