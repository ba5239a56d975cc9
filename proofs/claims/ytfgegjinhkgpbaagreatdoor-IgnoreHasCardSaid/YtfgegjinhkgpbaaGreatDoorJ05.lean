/-
  Texts joined, in build order, each with its own comment and its own conditions: W15Lay, W14NoAtom, W14Real.
-/
import Derived.Test.YtfgegjinhkgpbaaGreatDoorTake
import Derived.Test.YtfgegjinhkgpbaaGreatDoorJ04
import Derived.Deep.RegionHeld3
import Derived.BigQuiet
import Derived.Test.YtfgegjinhkgpbaaGreatDoorJ03
namespace Go.Proofs.YtfgegjinhkgpbaaGreatDoor
set_option maxHeartbeats 4000000
set_option maxRecDepth 100000
open Go.RowKit
open Lib (hid)
namespace EH
open Strs Al Bv
open Cj (Piece size sizes)
open W14 (Raw Ak Co DF Ad Kids AZ AO Bi BL AV AU CB)
open BU (Beside)
open Kit (below_draws on)
def Does (f:Nat) (b:Nat) (v:Value) (L:List AL) (r:Raw) (p:Piece) (N:List AL) (w:World):Prop:=
 Lay w b v L->DF (fun k=>k<b) w r p->Calls Tryz.prog f #[.pointer (some ⟨b,0,none⟩),.agg (Ak r)] w (Laid b v w N)
theorem cB {w:World} {b:Nat} {v:Value} {L:List AL} (h:Lay w b v L) (r:Raw):Calls Tryz.prog 99 #[.pointer (some ⟨b,0,none⟩),.agg (Ak r)] w (Laid b v w L):=by
 have H:=hid h
 clear h
 go_enter Tryz.func99,Tryz.ntmps99
 go_wp2_with (first
  |(refine AV (r:=r) rfl (.tmp 1) rfl rfl ?_;intro w1 b1 e1 p1 l1 z1;have L1:=hid l1;clear e1 p1 l1 z1))
 go_end0
 exact⟨rfl,v,H.out.below L1.out,Grow.of L1.out⟩
theorem iH {w:World} {b:Nat} {v:Value} {L:List AL} (h:Lay w b v L) (hl:L.length<=900000) (r:Raw):Calls Tryz.prog 100 #[.pointer (some ⟨b,0,none⟩),.agg (Ak r)] w (Laid b v w (L++ [one 1 r.text L.length])):=by
 have H:=hid h
 have HL:=hid hl
 clear h hl
 go_enter Tryz.func100,Tryz.ntmps100
 go_wp2_with (first
  |(refine AV (r:=r) rfl (.tmp 1) rfl rfl ?_;intro w1 b1 e1 p1 l1 z1;have a1:=p1.c1;have L1:=hid l1;clear e1 p1 l1 z1))
 refine(F9 (H.out.below L1.out) HL.out 1 r.text).mono ?_
 rintro e w2 ⟨rfl,v',h1,h2⟩
 have HH:=hid h1
 have GG:=hid ((Grow.of L1.out).trans h2)
 clear h1 h2
 go_wp2_with fail
 go_end0
 exact⟨rfl,v',HH.out,GG.out⟩
theorem nM {w:World} {b:Nat} {v:Value} {L:List AL} (h:Lay w b v L) (hl:L.length<=900000) (r:Raw):Calls Tryz.prog 101 #[.pointer (some ⟨b,0,none⟩),.agg (Ak r)] w (Laid b v w (L++ [one 2 ⟨#[]⟩ L.length])):=by
 have H:=hid h
 have HL:=hid hl
 clear h hl
 go_enter Tryz.func101,Tryz.ntmps101
 go_wp2_with (first
  |(refine AV (r:=r) rfl (.tmp 1) rfl rfl ?_;intro w1 b1 e1 p1 l1 z1;have a1:=p1.c1;have L1:=hid l1;clear e1 p1 l1 z1))
 refine(F9 (H.out.below L1.out) HL.out 2 ⟨#[]⟩).mono ?_
 rintro e w2 ⟨rfl,v',h1,h2⟩
 have HH:=hid h1
 have GG:=hid ((Grow.of L1.out).trans h2)
 clear h1 h2
 go_wp2_with fail
 go_end0
 exact⟨rfl,v',HH.out,GG.out⟩
theorem VB {w:World} {b:Nat} {v:Value} {L:List AL} (h:Lay w b v L) (hl:L.length<=900000) (r:Raw):Calls Tryz.prog 102 #[.pointer (some ⟨b,0,none⟩),.agg (Ak r)] w (Laid b v w (L++ [one 3 r.text L.length])):=by
 have H:=hid h
 have HL:=hid hl
 clear h hl
 go_enter Tryz.func102,Tryz.ntmps102
 go_wp2_with (first
  |(refine AV (r:=r) rfl (.tmp 1) rfl rfl ?_;intro w1 b1 e1 p1 l1 z1;have a1:=p1.c1;have L1:=hid l1;clear e1 p1 l1 z1))
 refine(F9 (H.out.below L1.out) HL.out 3 r.text).mono ?_
 rintro e w2 ⟨rfl,v',h1,h2⟩
 have HH:=hid h1
 have GG:=hid ((Grow.of L1.out).trans h2)
 clear h1 h2
 go_wp2_with fail
 go_end0
 exact⟨rfl,v',HH.out,GG.out⟩
theorem cK {w:World} {b:Nat} {v:Value} {L:List AL} (h:Lay w b v L) (hl:L.length<=900000) (r:Raw):Calls Tryz.prog 103 #[.pointer (some ⟨b,0,none⟩),.agg (Ak r)] w (Laid b v w (L++ [one 4 ⟨#[]⟩ L.length])):=by
 have H:=hid h
 have HL:=hid hl
 clear h hl
 go_enter Tryz.func103,Tryz.ntmps103
 go_wp2_with (first
  |(refine AV (r:=r) rfl (.tmp 1) rfl rfl ?_;intro w1 b1 e1 p1 l1 z1;have a1:=p1.c1;have L1:=hid l1;clear e1 p1 l1 z1))
 refine(F9 (H.out.below L1.out) HL.out 4 ⟨#[]⟩).mono ?_
 rintro e w2 ⟨rfl,v',h1,h2⟩
 have HH:=hid h1
 have GG:=hid ((Grow.of L1.out).trans h2)
 clear h1 h2
 go_wp2_with fail
 go_end0
 exact⟨rfl,v',HH.out,GG.out⟩
theorem nN {w:World} {b:Nat} {v:Value} {L:List AL} (h:Lay w b v L) (hl:L.length<=900000) (r:Raw):Calls Tryz.prog 104 #[.pointer (some ⟨b,0,none⟩),.agg (Ak r)] w (Laid b v w (L++ [one 5 ⟨#[]⟩ L.length])):=by
 have H:=hid h
 have HL:=hid hl
 clear h hl
 go_enter Tryz.func104,Tryz.ntmps104
 go_wp2_with (first
  |(refine AV (r:=r) rfl (.tmp 1) rfl rfl ?_;intro w1 b1 e1 p1 l1 z1;have a1:=p1.c1;have L1:=hid l1;clear e1 p1 l1 z1))
 refine(F9 (H.out.below L1.out) HL.out 5 ⟨#[]⟩).mono ?_
 rintro e w2 ⟨rfl,v',h1,h2⟩
 have HH:=hid h1
 have GG:=hid ((Grow.of L1.out).trans h2)
 clear h1 h2
 go_wp2_with fail
 go_end0
 exact⟨rfl,v',HH.out,GG.out⟩
theorem cO {w:World} {b:Nat} {v:Value} {L N:List AL} {t:ByteArray} {A:Option Addr} {n c:Nat} {m tp:Int} {p:Piece} (h:Lay w b v L) (hp:DF (fun k=>k<b) w ⟨1,t,A,n,c,m,tp⟩ p) (hC: ∀w,Does 99 b v L ⟨1,t,A,n,c,m,tp⟩ p N w):Calls Tryz.prog 77 #[.pointer (some ⟨b,0,none⟩),.agg (Ak ⟨1,t,A,n,c,m,tp⟩)] w (Laid b v w N):=by
 have H:=hid h
 have HP:=hid hp
 have HX:=hid hC
 clear h hp hC
 go_enter Tryz.func77,Tryz.ntmps77
 go_wp2_with (first
  |(refine AV (r:=⟨1,t,A,n,c,m,tp⟩) rfl (.tmp 1) rfl rfl ?_;intro w1 b1 e1 p1 l1 z1;have P1:=hid p1;have L1:=hid l1;have E1:=hid e1;clear e1 p1 l1 z1))
 have L2:=hid (on L1.out (below_draws w1 1))
 have H2:=hid (H.out.below L2.out)
 have HC:=hid (HX.out (w1.drewN 1) H2.out (CV L2.out H.out.box.lt HP.out))
 have S0:Hid ((w1.drewN 1).cell? ⟨b1,0,none⟩=some (.int .i64 1)/\(w1.drewN 1).cell? ⟨b,2,none⟩=some (way 99 b)/\Ad (w1.drewN 1) b1 ⟨1,t,A,n,c,m,tp⟩):=⟨P1.out.c0,cell_of_row _ b 2 _ _ _ H2.out.box,P1.out⟩
 have KEEP:Hid (∀v' x1,Lay x1 b v' N->Grow b v v' (w1.drewN 1) x1->x1.cell? ⟨b1,0,none⟩=some (.int .i64 1)/\x1.cell? ⟨b,2,none⟩=some (way 99 b)/\Ad x1 b1 ⟨1,t,A,n,c,m,tp⟩):=fun v' x1 h1 h2=>by
  have hb:Ad x1 b1 ⟨1,t,A,n,c,m,tp⟩:=(h2.block b1 P1.out.lt (by have:=E1.out;have:=H.out.box.lt;omega) (fun q=>by have:=(H.out.EI b1 q).2;have:=E1.out;omega)).trans P1.out
  exact⟨hb.c0,cell_of_row _ b 2 _ _ _ h1.box,hb⟩
 refine wp_region_held_drew (S:=fun w'=>w'.cell? ⟨b1,0,none⟩=some (.int .i64 1)/\w'.cell? ⟨b,2,none⟩=some (way 99 b)/\Ad w' b1 ⟨1,t,A,n,c,m,tp⟩) (by kernel_rfl) S0.out (fun hHeld=> ?_)
 refine Take.k 0 ⟨some 4,.move (.tmp 0),_,_,_,none⟩ ?_
 refine Take.k 1 ⟨some 5,.fieldAddr 56 (.tmp 3) 0,_,_,_,none⟩ ?_
 refine Take.k 2 ⟨some 6,.load 3 (.tmp 5),_,_,_,none⟩ ?_
 refine Take.k 3 ⟨some 7,.nilCheck (.tmp 4),_,_,_,none⟩ ?_
 refine Take.k 4 ⟨some 8,.fieldAddr 104 (.tmp 7) 1,_,_,_,none⟩ ?_
 refine Take.k 5 ⟨some 9,.indexAddr 102 (.tmp 8) (.tmp 6),_,_,_,none⟩ ?_
 refine Take.k 6 ⟨some 10,.load 101 (.tmp 9),_,_,_,none⟩ ?_
 refine Take.k 7 ⟨some 11,.load 56 (.tmp 3),_,_,_,none⟩ ?_ (hy:=Or.inl ⟨by rfl,by(intro w hSw;(try dsimp only at hSw);refine CB (.tmp 3) ?_ ?_ hSw.2.2.cells<;>rfl)⟩)
 refine wpAnyH_ready (rs:= [8]) (by kernel_rfl) (by simp) ?_
 refine AllReadyH.cons (o:=⟨some 12,.call ⟨.value (.tmp 10), #[.tmp 11], #[56]⟩,_,_,_,none⟩) rfl (fun K hK=> ?_) AllReadyH.nil
 go_simp
 (go_at_call 99;refine HC.out.mono ?_;rintro e x1 ⟨rfl,v',h1,h2⟩;have HH:=hid h1;have GG:=hid h2;have hS1:=KEEP.out v' x1 h1 h2;clear h1 h2)
 go_wp2_with fail
 refine hK.out _ _ ?_ (fun hHeld=> ?_)
 ·exact hS1
 clear hK K
 try simp only[Act.put,Take.a,Take.b,Take.c]
 refine wpAnyH_done (by kernel_rfl) ?_ _
 go_wp2_with fail
 go_end0
 exact⟨rfl,_,HH.out,(Grow.of L2.out).trans GG.out⟩
theorem iI {w:World} {b:Nat} {v:Value} {L N:List AL} {t:ByteArray} {A:Option Addr} {n c:Nat} {m tp:Int} {p:Piece} (h:Lay w b v L) (hp:DF (fun k=>k<b) w ⟨2,t,A,n,c,m,tp⟩ p) (hC: ∀w,Does 100 b v L ⟨2,t,A,n,c,m,tp⟩ p N w):Calls Tryz.prog 77 #[.pointer (some ⟨b,0,none⟩),.agg (Ak ⟨2,t,A,n,c,m,tp⟩)] w (Laid b v w N):=by
 have H:=hid h
 have HP:=hid hp
 have HX:=hid hC
 clear h hp hC
 go_enter Tryz.func77,Tryz.ntmps77
 go_wp2_with (first
  |(refine AV (r:=⟨2,t,A,n,c,m,tp⟩) rfl (.tmp 1) rfl rfl ?_;intro w1 b1 e1 p1 l1 z1;have P1:=hid p1;have L1:=hid l1;have E1:=hid e1;clear e1 p1 l1 z1))
 have L2:=hid (on L1.out (below_draws w1 1))
 have H2:=hid (H.out.below L2.out)
 have HC:=hid (HX.out (w1.drewN 1) H2.out (CV L2.out H.out.box.lt HP.out))
 have S0:Hid ((w1.drewN 1).cell? ⟨b1,0,none⟩=some (.int .i64 2)/\(w1.drewN 1).cell? ⟨b,3,none⟩=some (way 100 b)/\Ad (w1.drewN 1) b1 ⟨2,t,A,n,c,m,tp⟩):=⟨P1.out.c0,cell_of_row _ b 3 _ _ _ H2.out.box,P1.out⟩
 have KEEP:Hid (∀v' x1,Lay x1 b v' N->Grow b v v' (w1.drewN 1) x1->x1.cell? ⟨b1,0,none⟩=some (.int .i64 2)/\x1.cell? ⟨b,3,none⟩=some (way 100 b)/\Ad x1 b1 ⟨2,t,A,n,c,m,tp⟩):=fun v' x1 h1 h2=>by
  have hb:Ad x1 b1 ⟨2,t,A,n,c,m,tp⟩:=(h2.block b1 P1.out.lt (by have:=E1.out;have:=H.out.box.lt;omega) (fun q=>by have:=(H.out.EI b1 q).2;have:=E1.out;omega)).trans P1.out
  exact⟨hb.c0,cell_of_row _ b 3 _ _ _ h1.box,hb⟩
 refine wp_region_held_drew (S:=fun w'=>w'.cell? ⟨b1,0,none⟩=some (.int .i64 2)/\w'.cell? ⟨b,3,none⟩=some (way 100 b)/\Ad w' b1 ⟨2,t,A,n,c,m,tp⟩) (by kernel_rfl) S0.out (fun hHeld=> ?_)
 refine Take.k 0 ⟨some 4,.move (.tmp 0),_,_,_,none⟩ ?_
 refine Take.k 1 ⟨some 5,.fieldAddr 56 (.tmp 3) 0,_,_,_,none⟩ ?_
 refine Take.k 2 ⟨some 6,.load 3 (.tmp 5),_,_,_,none⟩ ?_
 refine Take.k 3 ⟨some 7,.nilCheck (.tmp 4),_,_,_,none⟩ ?_
 refine Take.k 4 ⟨some 8,.fieldAddr 104 (.tmp 7) 1,_,_,_,none⟩ ?_
 refine Take.k 5 ⟨some 9,.indexAddr 102 (.tmp 8) (.tmp 6),_,_,_,none⟩ ?_
 refine Take.k 6 ⟨some 10,.load 101 (.tmp 9),_,_,_,none⟩ ?_
 refine Take.k 7 ⟨some 11,.load 56 (.tmp 3),_,_,_,none⟩ ?_ (hy:=Or.inl ⟨by rfl,by(intro w hSw;(try dsimp only at hSw);refine CB (.tmp 3) ?_ ?_ hSw.2.2.cells<;>rfl)⟩)
 refine wpAnyH_ready (rs:= [8]) (by kernel_rfl) (by simp) ?_
 refine AllReadyH.cons (o:=⟨some 12,.call ⟨.value (.tmp 10), #[.tmp 11], #[56]⟩,_,_,_,none⟩) rfl (fun K hK=> ?_) AllReadyH.nil
 go_simp
 (go_at_call 100;refine HC.out.mono ?_;rintro e x1 ⟨rfl,v',h1,h2⟩;have HH:=hid h1;have GG:=hid h2;have hS1:=KEEP.out v' x1 h1 h2;clear h1 h2)
 go_wp2_with fail
 refine hK.out _ _ ?_ (fun hHeld=> ?_)
 ·exact hS1
 clear hK K
 try simp only[Act.put,Take.a,Take.b,Take.c]
 refine wpAnyH_done (by kernel_rfl) ?_ _
 go_wp2_with fail
 go_end0
 exact⟨rfl,_,HH.out,(Grow.of L2.out).trans GG.out⟩
theorem nO {w:World} {b:Nat} {v:Value} {L N:List AL} {t:ByteArray} {A:Option Addr} {n c:Nat} {m tp:Int} {p:Piece} (h:Lay w b v L) (hp:DF (fun k=>k<b) w ⟨3,t,A,n,c,m,tp⟩ p) (hC: ∀w,Does 101 b v L ⟨3,t,A,n,c,m,tp⟩ p N w):Calls Tryz.prog 77 #[.pointer (some ⟨b,0,none⟩),.agg (Ak ⟨3,t,A,n,c,m,tp⟩)] w (Laid b v w N):=by
 have H:=hid h
 have HP:=hid hp
 have HX:=hid hC
 clear h hp hC
 go_enter Tryz.func77,Tryz.ntmps77
 go_wp2_with (first
  |(refine AV (r:=⟨3,t,A,n,c,m,tp⟩) rfl (.tmp 1) rfl rfl ?_;intro w1 b1 e1 p1 l1 z1;have P1:=hid p1;have L1:=hid l1;have E1:=hid e1;clear e1 p1 l1 z1))
 have L2:=hid (on L1.out (below_draws w1 1))
 have H2:=hid (H.out.below L2.out)
 have HC:=hid (HX.out (w1.drewN 1) H2.out (CV L2.out H.out.box.lt HP.out))
 have S0:Hid ((w1.drewN 1).cell? ⟨b1,0,none⟩=some (.int .i64 3)/\(w1.drewN 1).cell? ⟨b,4,none⟩=some (way 101 b)/\Ad (w1.drewN 1) b1 ⟨3,t,A,n,c,m,tp⟩):=⟨P1.out.c0,cell_of_row _ b 4 _ _ _ H2.out.box,P1.out⟩
 have KEEP:Hid (∀v' x1,Lay x1 b v' N->Grow b v v' (w1.drewN 1) x1->x1.cell? ⟨b1,0,none⟩=some (.int .i64 3)/\x1.cell? ⟨b,4,none⟩=some (way 101 b)/\Ad x1 b1 ⟨3,t,A,n,c,m,tp⟩):=fun v' x1 h1 h2=>by
  have hb:Ad x1 b1 ⟨3,t,A,n,c,m,tp⟩:=(h2.block b1 P1.out.lt (by have:=E1.out;have:=H.out.box.lt;omega) (fun q=>by have:=(H.out.EI b1 q).2;have:=E1.out;omega)).trans P1.out
  exact⟨hb.c0,cell_of_row _ b 4 _ _ _ h1.box,hb⟩
 refine wp_region_held_drew (S:=fun w'=>w'.cell? ⟨b1,0,none⟩=some (.int .i64 3)/\w'.cell? ⟨b,4,none⟩=some (way 101 b)/\Ad w' b1 ⟨3,t,A,n,c,m,tp⟩) (by kernel_rfl) S0.out (fun hHeld=> ?_)
 refine Take.k 0 ⟨some 4,.move (.tmp 0),_,_,_,none⟩ ?_
 refine Take.k 1 ⟨some 5,.fieldAddr 56 (.tmp 3) 0,_,_,_,none⟩ ?_
 refine Take.k 2 ⟨some 6,.load 3 (.tmp 5),_,_,_,none⟩ ?_
 refine Take.k 3 ⟨some 7,.nilCheck (.tmp 4),_,_,_,none⟩ ?_
 refine Take.k 4 ⟨some 8,.fieldAddr 104 (.tmp 7) 1,_,_,_,none⟩ ?_
 refine Take.k 5 ⟨some 9,.indexAddr 102 (.tmp 8) (.tmp 6),_,_,_,none⟩ ?_
 refine Take.k 6 ⟨some 10,.load 101 (.tmp 9),_,_,_,none⟩ ?_
 refine Take.k 7 ⟨some 11,.load 56 (.tmp 3),_,_,_,none⟩ ?_ (hy:=Or.inl ⟨by rfl,by(intro w hSw;(try dsimp only at hSw);refine CB (.tmp 3) ?_ ?_ hSw.2.2.cells<;>rfl)⟩)
 refine wpAnyH_ready (rs:= [8]) (by kernel_rfl) (by simp) ?_
 refine AllReadyH.cons (o:=⟨some 12,.call ⟨.value (.tmp 10), #[.tmp 11], #[56]⟩,_,_,_,none⟩) rfl (fun K hK=> ?_) AllReadyH.nil
 go_simp
 (go_at_call 101;refine HC.out.mono ?_;rintro e x1 ⟨rfl,v',h1,h2⟩;have HH:=hid h1;have GG:=hid h2;have hS1:=KEEP.out v' x1 h1 h2;clear h1 h2)
 go_wp2_with fail
 refine hK.out _ _ ?_ (fun hHeld=> ?_)
 ·exact hS1
 clear hK K
 try simp only[Act.put,Take.a,Take.b,Take.c]
 refine wpAnyH_done (by kernel_rfl) ?_ _
 go_wp2_with fail
 go_end0
 exact⟨rfl,_,HH.out,(Grow.of L2.out).trans GG.out⟩
theorem nP {w:World} {b:Nat} {v:Value} {L N:List AL} {t:ByteArray} {A:Option Addr} {n c:Nat} {m tp:Int} {p:Piece} (h:Lay w b v L) (hp:DF (fun k=>k<b) w ⟨4,t,A,n,c,m,tp⟩ p) (hC: ∀w,Does 102 b v L ⟨4,t,A,n,c,m,tp⟩ p N w):Calls Tryz.prog 77 #[.pointer (some ⟨b,0,none⟩),.agg (Ak ⟨4,t,A,n,c,m,tp⟩)] w (Laid b v w N):=by
 have H:=hid h
 have HP:=hid hp
 have HX:=hid hC
 clear h hp hC
 go_enter Tryz.func77,Tryz.ntmps77
 go_wp2_with (first
  |(refine AV (r:=⟨4,t,A,n,c,m,tp⟩) rfl (.tmp 1) rfl rfl ?_;intro w1 b1 e1 p1 l1 z1;have P1:=hid p1;have L1:=hid l1;have E1:=hid e1;clear e1 p1 l1 z1))
 have L2:=hid (on L1.out (below_draws w1 1))
 have H2:=hid (H.out.below L2.out)
 have HC:=hid (HX.out (w1.drewN 1) H2.out (CV L2.out H.out.box.lt HP.out))
 have S0:Hid ((w1.drewN 1).cell? ⟨b1,0,none⟩=some (.int .i64 4)/\(w1.drewN 1).cell? ⟨b,5,none⟩=some (way 102 b)/\Ad (w1.drewN 1) b1 ⟨4,t,A,n,c,m,tp⟩):=⟨P1.out.c0,cell_of_row _ b 5 _ _ _ H2.out.box,P1.out⟩
 have KEEP:Hid (∀v' x1,Lay x1 b v' N->Grow b v v' (w1.drewN 1) x1->x1.cell? ⟨b1,0,none⟩=some (.int .i64 4)/\x1.cell? ⟨b,5,none⟩=some (way 102 b)/\Ad x1 b1 ⟨4,t,A,n,c,m,tp⟩):=fun v' x1 h1 h2=>by
  have hb:Ad x1 b1 ⟨4,t,A,n,c,m,tp⟩:=(h2.block b1 P1.out.lt (by have:=E1.out;have:=H.out.box.lt;omega) (fun q=>by have:=(H.out.EI b1 q).2;have:=E1.out;omega)).trans P1.out
  exact⟨hb.c0,cell_of_row _ b 5 _ _ _ h1.box,hb⟩
 refine wp_region_held_drew (S:=fun w'=>w'.cell? ⟨b1,0,none⟩=some (.int .i64 4)/\w'.cell? ⟨b,5,none⟩=some (way 102 b)/\Ad w' b1 ⟨4,t,A,n,c,m,tp⟩) (by kernel_rfl) S0.out (fun hHeld=> ?_)
 refine Take.k 0 ⟨some 4,.move (.tmp 0),_,_,_,none⟩ ?_
 refine Take.k 1 ⟨some 5,.fieldAddr 56 (.tmp 3) 0,_,_,_,none⟩ ?_
 refine Take.k 2 ⟨some 6,.load 3 (.tmp 5),_,_,_,none⟩ ?_
 refine Take.k 3 ⟨some 7,.nilCheck (.tmp 4),_,_,_,none⟩ ?_
 refine Take.k 4 ⟨some 8,.fieldAddr 104 (.tmp 7) 1,_,_,_,none⟩ ?_
 refine Take.k 5 ⟨some 9,.indexAddr 102 (.tmp 8) (.tmp 6),_,_,_,none⟩ ?_
 refine Take.k 6 ⟨some 10,.load 101 (.tmp 9),_,_,_,none⟩ ?_
 refine Take.k 7 ⟨some 11,.load 56 (.tmp 3),_,_,_,none⟩ ?_ (hy:=Or.inl ⟨by rfl,by(intro w hSw;(try dsimp only at hSw);refine CB (.tmp 3) ?_ ?_ hSw.2.2.cells<;>rfl)⟩)
 refine wpAnyH_ready (rs:= [8]) (by kernel_rfl) (by simp) ?_
 refine AllReadyH.cons (o:=⟨some 12,.call ⟨.value (.tmp 10), #[.tmp 11], #[56]⟩,_,_,_,none⟩) rfl (fun K hK=> ?_) AllReadyH.nil
 go_simp
 (go_at_call 102;refine HC.out.mono ?_;rintro e x1 ⟨rfl,v',h1,h2⟩;have HH:=hid h1;have GG:=hid h2;have hS1:=KEEP.out v' x1 h1 h2;clear h1 h2)
 go_wp2_with fail
 refine hK.out _ _ ?_ (fun hHeld=> ?_)
 ·exact hS1
 clear hK K
 try simp only[Act.put,Take.a,Take.b,Take.c]
 refine wpAnyH_done (by kernel_rfl) ?_ _
 go_wp2_with fail
 go_end0
 exact⟨rfl,_,HH.out,(Grow.of L2.out).trans GG.out⟩
theorem cZ {w:World} {b:Nat} {v:Value} {L N:List AL} {t:ByteArray} {A:Option Addr} {n c:Nat} {m tp:Int} {p:Piece} (h:Lay w b v L) (hp:DF (fun k=>k<b) w ⟨5,t,A,n,c,m,tp⟩ p) (hC: ∀w,Does 103 b v L ⟨5,t,A,n,c,m,tp⟩ p N w):Calls Tryz.prog 77 #[.pointer (some ⟨b,0,none⟩),.agg (Ak ⟨5,t,A,n,c,m,tp⟩)] w (Laid b v w N):=by
 have H:=hid h
 have HP:=hid hp
 have HX:=hid hC
 clear h hp hC
 go_enter Tryz.func77,Tryz.ntmps77
 go_wp2_with (first
  |(refine AV (r:=⟨5,t,A,n,c,m,tp⟩) rfl (.tmp 1) rfl rfl ?_;intro w1 b1 e1 p1 l1 z1;have P1:=hid p1;have L1:=hid l1;have E1:=hid e1;clear e1 p1 l1 z1))
 have L2:=hid (on L1.out (below_draws w1 1))
 have H2:=hid (H.out.below L2.out)
 have HC:=hid (HX.out (w1.drewN 1) H2.out (CV L2.out H.out.box.lt HP.out))
 have S0:Hid ((w1.drewN 1).cell? ⟨b1,0,none⟩=some (.int .i64 5)/\(w1.drewN 1).cell? ⟨b,6,none⟩=some (way 103 b)/\Ad (w1.drewN 1) b1 ⟨5,t,A,n,c,m,tp⟩):=⟨P1.out.c0,cell_of_row _ b 6 _ _ _ H2.out.box,P1.out⟩
 have KEEP:Hid (∀v' x1,Lay x1 b v' N->Grow b v v' (w1.drewN 1) x1->x1.cell? ⟨b1,0,none⟩=some (.int .i64 5)/\x1.cell? ⟨b,6,none⟩=some (way 103 b)/\Ad x1 b1 ⟨5,t,A,n,c,m,tp⟩):=fun v' x1 h1 h2=>by
  have hb:Ad x1 b1 ⟨5,t,A,n,c,m,tp⟩:=(h2.block b1 P1.out.lt (by have:=E1.out;have:=H.out.box.lt;omega) (fun q=>by have:=(H.out.EI b1 q).2;have:=E1.out;omega)).trans P1.out
  exact⟨hb.c0,cell_of_row _ b 6 _ _ _ h1.box,hb⟩
 refine wp_region_held_drew (S:=fun w'=>w'.cell? ⟨b1,0,none⟩=some (.int .i64 5)/\w'.cell? ⟨b,6,none⟩=some (way 103 b)/\Ad w' b1 ⟨5,t,A,n,c,m,tp⟩) (by kernel_rfl) S0.out (fun hHeld=> ?_)
 refine Take.k 0 ⟨some 4,.move (.tmp 0),_,_,_,none⟩ ?_
 refine Take.k 1 ⟨some 5,.fieldAddr 56 (.tmp 3) 0,_,_,_,none⟩ ?_
 refine Take.k 2 ⟨some 6,.load 3 (.tmp 5),_,_,_,none⟩ ?_
 refine Take.k 3 ⟨some 7,.nilCheck (.tmp 4),_,_,_,none⟩ ?_
 refine Take.k 4 ⟨some 8,.fieldAddr 104 (.tmp 7) 1,_,_,_,none⟩ ?_
 refine Take.k 5 ⟨some 9,.indexAddr 102 (.tmp 8) (.tmp 6),_,_,_,none⟩ ?_
 refine Take.k 6 ⟨some 10,.load 101 (.tmp 9),_,_,_,none⟩ ?_
 refine Take.k 7 ⟨some 11,.load 56 (.tmp 3),_,_,_,none⟩ ?_ (hy:=Or.inl ⟨by rfl,by(intro w hSw;(try dsimp only at hSw);refine CB (.tmp 3) ?_ ?_ hSw.2.2.cells<;>rfl)⟩)
 refine wpAnyH_ready (rs:= [8]) (by kernel_rfl) (by simp) ?_
 refine AllReadyH.cons (o:=⟨some 12,.call ⟨.value (.tmp 10), #[.tmp 11], #[56]⟩,_,_,_,none⟩) rfl (fun K hK=> ?_) AllReadyH.nil
 go_simp
 (go_at_call 103;refine HC.out.mono ?_;rintro e x1 ⟨rfl,v',h1,h2⟩;have HH:=hid h1;have GG:=hid h2;have hS1:=KEEP.out v' x1 h1 h2;clear h1 h2)
 go_wp2_with fail
 refine hK.out _ _ ?_ (fun hHeld=> ?_)
 ·exact hS1
 clear hK K
 try simp only[Act.put,Take.a,Take.b,Take.c]
 refine wpAnyH_done (by kernel_rfl) ?_ _
 go_wp2_with fail
 go_end0
 exact⟨rfl,_,HH.out,(Grow.of L2.out).trans GG.out⟩
theorem nQ {w:World} {b:Nat} {v:Value} {L N:List AL} {t:ByteArray} {A:Option Addr} {n c:Nat} {m tp:Int} {p:Piece} (h:Lay w b v L) (hp:DF (fun k=>k<b) w ⟨6,t,A,n,c,m,tp⟩ p) (hC: ∀w,Does 104 b v L ⟨6,t,A,n,c,m,tp⟩ p N w):Calls Tryz.prog 77 #[.pointer (some ⟨b,0,none⟩),.agg (Ak ⟨6,t,A,n,c,m,tp⟩)] w (Laid b v w N):=by
 have H:=hid h
 have HP:=hid hp
 have HX:=hid hC
 clear h hp hC
 go_enter Tryz.func77,Tryz.ntmps77
 go_wp2_with (first
  |(refine AV (r:=⟨6,t,A,n,c,m,tp⟩) rfl (.tmp 1) rfl rfl ?_;intro w1 b1 e1 p1 l1 z1;have P1:=hid p1;have L1:=hid l1;have E1:=hid e1;clear e1 p1 l1 z1))
 have L2:=hid (on L1.out (below_draws w1 1))
 have H2:=hid (H.out.below L2.out)
 have HC:=hid (HX.out (w1.drewN 1) H2.out (CV L2.out H.out.box.lt HP.out))
 have S0:Hid ((w1.drewN 1).cell? ⟨b1,0,none⟩=some (.int .i64 6)/\(w1.drewN 1).cell? ⟨b,7,none⟩=some (way 104 b)/\Ad (w1.drewN 1) b1 ⟨6,t,A,n,c,m,tp⟩):=⟨P1.out.c0,cell_of_row _ b 7 _ _ _ H2.out.box,P1.out⟩
 have KEEP:Hid (∀v' x1,Lay x1 b v' N->Grow b v v' (w1.drewN 1) x1->x1.cell? ⟨b1,0,none⟩=some (.int .i64 6)/\x1.cell? ⟨b,7,none⟩=some (way 104 b)/\Ad x1 b1 ⟨6,t,A,n,c,m,tp⟩):=fun v' x1 h1 h2=>by
  have hb:Ad x1 b1 ⟨6,t,A,n,c,m,tp⟩:=(h2.block b1 P1.out.lt (by have:=E1.out;have:=H.out.box.lt;omega) (fun q=>by have:=(H.out.EI b1 q).2;have:=E1.out;omega)).trans P1.out
  exact⟨hb.c0,cell_of_row _ b 7 _ _ _ h1.box,hb⟩
 refine wp_region_held_drew (S:=fun w'=>w'.cell? ⟨b1,0,none⟩=some (.int .i64 6)/\w'.cell? ⟨b,7,none⟩=some (way 104 b)/\Ad w' b1 ⟨6,t,A,n,c,m,tp⟩) (by kernel_rfl) S0.out (fun hHeld=> ?_)
 refine Take.k 0 ⟨some 4,.move (.tmp 0),_,_,_,none⟩ ?_
 refine Take.k 1 ⟨some 5,.fieldAddr 56 (.tmp 3) 0,_,_,_,none⟩ ?_
 refine Take.k 2 ⟨some 6,.load 3 (.tmp 5),_,_,_,none⟩ ?_
 refine Take.k 3 ⟨some 7,.nilCheck (.tmp 4),_,_,_,none⟩ ?_
 refine Take.k 4 ⟨some 8,.fieldAddr 104 (.tmp 7) 1,_,_,_,none⟩ ?_
 refine Take.k 5 ⟨some 9,.indexAddr 102 (.tmp 8) (.tmp 6),_,_,_,none⟩ ?_
 refine Take.k 6 ⟨some 10,.load 101 (.tmp 9),_,_,_,none⟩ ?_
 refine Take.k 7 ⟨some 11,.load 56 (.tmp 3),_,_,_,none⟩ ?_ (hy:=Or.inl ⟨by rfl,by(intro w hSw;(try dsimp only at hSw);refine CB (.tmp 3) ?_ ?_ hSw.2.2.cells<;>rfl)⟩)
 refine wpAnyH_ready (rs:= [8]) (by kernel_rfl) (by simp) ?_
 refine AllReadyH.cons (o:=⟨some 12,.call ⟨.value (.tmp 10), #[.tmp 11], #[56]⟩,_,_,_,none⟩) rfl (fun K hK=> ?_) AllReadyH.nil
 go_simp
 (go_at_call 104;refine HC.out.mono ?_;rintro e x1 ⟨rfl,v',h1,h2⟩;have HH:=hid h1;have GG:=hid h2;have hS1:=KEEP.out v' x1 h1 h2;clear h1 h2)
 go_wp2_with fail
 refine hK.out _ _ ?_ (fun hHeld=> ?_)
 ·exact hS1
 clear hK K
 try simp only[Act.put,Take.a,Take.b,Take.c]
 refine wpAnyH_done (by kernel_rfl) ?_ _
 go_wp2_with fail
 go_end0
 exact⟨rfl,_,HH.out,(Grow.of L2.out).trans GG.out⟩
theorem nR {w:World} {b:Nat} {v:Value} {L N:List AL} {t:ByteArray} {A:Option Addr} {n c:Nat} {m tp:Int} {p:Piece} (h:Lay w b v L) (hp:DF (fun k=>k<b) w ⟨7,t,A,n,c,m,tp⟩ p) (hC: ∀w,Does 105 b v L ⟨7,t,A,n,c,m,tp⟩ p N w):Calls Tryz.prog 77 #[.pointer (some ⟨b,0,none⟩),.agg (Ak ⟨7,t,A,n,c,m,tp⟩)] w (Laid b v w N):=by
 have H:=hid h
 have HP:=hid hp
 have HX:=hid hC
 clear h hp hC
 go_enter Tryz.func77,Tryz.ntmps77
 go_wp2_with (first
  |(refine AV (r:=⟨7,t,A,n,c,m,tp⟩) rfl (.tmp 1) rfl rfl ?_;intro w1 b1 e1 p1 l1 z1;have P1:=hid p1;have L1:=hid l1;have E1:=hid e1;clear e1 p1 l1 z1))
 have L2:=hid (on L1.out (below_draws w1 1))
 have H2:=hid (H.out.below L2.out)
 have HC:=hid (HX.out (w1.drewN 1) H2.out (CV L2.out H.out.box.lt HP.out))
 have S0:Hid ((w1.drewN 1).cell? ⟨b1,0,none⟩=some (.int .i64 7)/\(w1.drewN 1).cell? ⟨b,8,none⟩=some (way 105 b)/\Ad (w1.drewN 1) b1 ⟨7,t,A,n,c,m,tp⟩):=⟨P1.out.c0,cell_of_row _ b 8 _ _ _ H2.out.box,P1.out⟩
 have KEEP:Hid (∀v' x1,Lay x1 b v' N->Grow b v v' (w1.drewN 1) x1->x1.cell? ⟨b1,0,none⟩=some (.int .i64 7)/\x1.cell? ⟨b,8,none⟩=some (way 105 b)/\Ad x1 b1 ⟨7,t,A,n,c,m,tp⟩):=fun v' x1 h1 h2=>by
  have hb:Ad x1 b1 ⟨7,t,A,n,c,m,tp⟩:=(h2.block b1 P1.out.lt (by have:=E1.out;have:=H.out.box.lt;omega) (fun q=>by have:=(H.out.EI b1 q).2;have:=E1.out;omega)).trans P1.out
  exact⟨hb.c0,cell_of_row _ b 8 _ _ _ h1.box,hb⟩
 refine wp_region_held_drew (S:=fun w'=>w'.cell? ⟨b1,0,none⟩=some (.int .i64 7)/\w'.cell? ⟨b,8,none⟩=some (way 105 b)/\Ad w' b1 ⟨7,t,A,n,c,m,tp⟩) (by kernel_rfl) S0.out (fun hHeld=> ?_)
 refine Take.k 0 ⟨some 4,.move (.tmp 0),_,_,_,none⟩ ?_
 refine Take.k 1 ⟨some 5,.fieldAddr 56 (.tmp 3) 0,_,_,_,none⟩ ?_
 refine Take.k 2 ⟨some 6,.load 3 (.tmp 5),_,_,_,none⟩ ?_
 refine Take.k 3 ⟨some 7,.nilCheck (.tmp 4),_,_,_,none⟩ ?_
 refine Take.k 4 ⟨some 8,.fieldAddr 104 (.tmp 7) 1,_,_,_,none⟩ ?_
 refine Take.k 5 ⟨some 9,.indexAddr 102 (.tmp 8) (.tmp 6),_,_,_,none⟩ ?_
 refine Take.k 6 ⟨some 10,.load 101 (.tmp 9),_,_,_,none⟩ ?_
 refine Take.k 7 ⟨some 11,.load 56 (.tmp 3),_,_,_,none⟩ ?_ (hy:=Or.inl ⟨by rfl,by(intro w hSw;(try dsimp only at hSw);refine CB (.tmp 3) ?_ ?_ hSw.2.2.cells<;>rfl)⟩)
 refine wpAnyH_ready (rs:= [8]) (by kernel_rfl) (by simp) ?_
 refine AllReadyH.cons (o:=⟨some 12,.call ⟨.value (.tmp 10), #[.tmp 11], #[56]⟩,_,_,_,none⟩) rfl (fun K hK=> ?_) AllReadyH.nil
 go_simp
 (go_at_call 105;refine HC.out.mono ?_;rintro e x1 ⟨rfl,v',h1,h2⟩;have HH:=hid h1;have GG:=hid h2;have hS1:=KEEP.out v' x1 h1 h2;clear h1 h2)
 go_wp2_with fail
 refine hK.out _ _ ?_ (fun hHeld=> ?_)
 ·exact hS1
 clear hK K
 try simp only[Act.put,Take.a,Take.b,Take.c]
 refine wpAnyH_done (by kernel_rfl) ?_ _
 go_wp2_with fail
 go_end0
 exact⟨rfl,_,HH.out,(Grow.of L2.out).trans GG.out⟩
theorem nS {w:World} {b:Nat} {v:Value} {L N:List AL} {t:ByteArray} {A:Option Addr} {n c:Nat} {m tp:Int} {p:Piece} (h:Lay w b v L) (hp:DF (fun k=>k<b) w ⟨8,t,A,n,c,m,tp⟩ p) (hC: ∀w,Does 106 b v L ⟨8,t,A,n,c,m,tp⟩ p N w):Calls Tryz.prog 77 #[.pointer (some ⟨b,0,none⟩),.agg (Ak ⟨8,t,A,n,c,m,tp⟩)] w (Laid b v w N):=by
 have H:=hid h
 have HP:=hid hp
 have HX:=hid hC
 clear h hp hC
 go_enter Tryz.func77,Tryz.ntmps77
 go_wp2_with (first
  |(refine AV (r:=⟨8,t,A,n,c,m,tp⟩) rfl (.tmp 1) rfl rfl ?_;intro w1 b1 e1 p1 l1 z1;have P1:=hid p1;have L1:=hid l1;have E1:=hid e1;clear e1 p1 l1 z1))
 have L2:=hid (on L1.out (below_draws w1 1))
 have H2:=hid (H.out.below L2.out)
 have HC:=hid (HX.out (w1.drewN 1) H2.out (CV L2.out H.out.box.lt HP.out))
 have S0:Hid ((w1.drewN 1).cell? ⟨b1,0,none⟩=some (.int .i64 8)/\(w1.drewN 1).cell? ⟨b,9,none⟩=some (way 106 b)/\Ad (w1.drewN 1) b1 ⟨8,t,A,n,c,m,tp⟩):=⟨P1.out.c0,cell_of_row _ b 9 _ _ _ H2.out.box,P1.out⟩
 have KEEP:Hid (∀v' x1,Lay x1 b v' N->Grow b v v' (w1.drewN 1) x1->x1.cell? ⟨b1,0,none⟩=some (.int .i64 8)/\x1.cell? ⟨b,9,none⟩=some (way 106 b)/\Ad x1 b1 ⟨8,t,A,n,c,m,tp⟩):=fun v' x1 h1 h2=>by
  have hb:Ad x1 b1 ⟨8,t,A,n,c,m,tp⟩:=(h2.block b1 P1.out.lt (by have:=E1.out;have:=H.out.box.lt;omega) (fun q=>by have:=(H.out.EI b1 q).2;have:=E1.out;omega)).trans P1.out
  exact⟨hb.c0,cell_of_row _ b 9 _ _ _ h1.box,hb⟩
 refine wp_region_held_drew (S:=fun w'=>w'.cell? ⟨b1,0,none⟩=some (.int .i64 8)/\w'.cell? ⟨b,9,none⟩=some (way 106 b)/\Ad w' b1 ⟨8,t,A,n,c,m,tp⟩) (by kernel_rfl) S0.out (fun hHeld=> ?_)
 refine Take.k 0 ⟨some 4,.move (.tmp 0),_,_,_,none⟩ ?_
 refine Take.k 1 ⟨some 5,.fieldAddr 56 (.tmp 3) 0,_,_,_,none⟩ ?_
 refine Take.k 2 ⟨some 6,.load 3 (.tmp 5),_,_,_,none⟩ ?_
 refine Take.k 3 ⟨some 7,.nilCheck (.tmp 4),_,_,_,none⟩ ?_
 refine Take.k 4 ⟨some 8,.fieldAddr 104 (.tmp 7) 1,_,_,_,none⟩ ?_
 refine Take.k 5 ⟨some 9,.indexAddr 102 (.tmp 8) (.tmp 6),_,_,_,none⟩ ?_
 refine Take.k 6 ⟨some 10,.load 101 (.tmp 9),_,_,_,none⟩ ?_
 refine Take.k 7 ⟨some 11,.load 56 (.tmp 3),_,_,_,none⟩ ?_ (hy:=Or.inl ⟨by rfl,by(intro w hSw;(try dsimp only at hSw);refine CB (.tmp 3) ?_ ?_ hSw.2.2.cells<;>rfl)⟩)
 refine wpAnyH_ready (rs:= [8]) (by kernel_rfl) (by simp) ?_
 refine AllReadyH.cons (o:=⟨some 12,.call ⟨.value (.tmp 10), #[.tmp 11], #[56]⟩,_,_,_,none⟩) rfl (fun K hK=> ?_) AllReadyH.nil
 go_simp
 (go_at_call 106;refine HC.out.mono ?_;rintro e x1 ⟨rfl,v',h1,h2⟩;have HH:=hid h1;have GG:=hid h2;have hS1:=KEEP.out v' x1 h1 h2;clear h1 h2)
 go_wp2_with fail
 refine hK.out _ _ ?_ (fun hHeld=> ?_)
 ·exact hS1
 clear hK K
 try simp only[Act.put,Take.a,Take.b,Take.c]
 refine wpAnyH_done (by kernel_rfl) ?_ _
 go_wp2_with fail
 go_end0
 exact⟨rfl,_,HH.out,(Grow.of L2.out).trans GG.out⟩
theorem Qf {w:World} {b:Nat} {v:Value} {L N:List AL} {t:ByteArray} {A:Option Addr} {n c:Nat} {m tp:Int} {p:Piece} (h:Lay w b v L) (hp:DF (fun k=>k<b) w ⟨9,t,A,n,c,m,tp⟩ p) (hC: ∀w,Does 107 b v L ⟨9,t,A,n,c,m,tp⟩ p N w):Calls Tryz.prog 77 #[.pointer (some ⟨b,0,none⟩),.agg (Ak ⟨9,t,A,n,c,m,tp⟩)] w (Laid b v w N):=by
 have H:=hid h
 have HP:=hid hp
 have HX:=hid hC
 clear h hp hC
 go_enter Tryz.func77,Tryz.ntmps77
 go_wp2_with (first
  |(refine AV (r:=⟨9,t,A,n,c,m,tp⟩) rfl (.tmp 1) rfl rfl ?_;intro w1 b1 e1 p1 l1 z1;have P1:=hid p1;have L1:=hid l1;have E1:=hid e1;clear e1 p1 l1 z1))
 have L2:=hid (on L1.out (below_draws w1 1))
 have H2:=hid (H.out.below L2.out)
 have HC:=hid (HX.out (w1.drewN 1) H2.out (CV L2.out H.out.box.lt HP.out))
 have S0:Hid ((w1.drewN 1).cell? ⟨b1,0,none⟩=some (.int .i64 9)/\(w1.drewN 1).cell? ⟨b,10,none⟩=some (way 107 b)/\Ad (w1.drewN 1) b1 ⟨9,t,A,n,c,m,tp⟩):=⟨P1.out.c0,cell_of_row _ b 10 _ _ _ H2.out.box,P1.out⟩
 have KEEP:Hid (∀v' x1,Lay x1 b v' N->Grow b v v' (w1.drewN 1) x1->x1.cell? ⟨b1,0,none⟩=some (.int .i64 9)/\x1.cell? ⟨b,10,none⟩=some (way 107 b)/\Ad x1 b1 ⟨9,t,A,n,c,m,tp⟩):=fun v' x1 h1 h2=>by
  have hb:Ad x1 b1 ⟨9,t,A,n,c,m,tp⟩:=(h2.block b1 P1.out.lt (by have:=E1.out;have:=H.out.box.lt;omega) (fun q=>by have:=(H.out.EI b1 q).2;have:=E1.out;omega)).trans P1.out
  exact⟨hb.c0,cell_of_row _ b 10 _ _ _ h1.box,hb⟩
 refine wp_region_held_drew (S:=fun w'=>w'.cell? ⟨b1,0,none⟩=some (.int .i64 9)/\w'.cell? ⟨b,10,none⟩=some (way 107 b)/\Ad w' b1 ⟨9,t,A,n,c,m,tp⟩) (by kernel_rfl) S0.out (fun hHeld=> ?_)
 refine Take.k 0 ⟨some 4,.move (.tmp 0),_,_,_,none⟩ ?_
 refine Take.k 1 ⟨some 5,.fieldAddr 56 (.tmp 3) 0,_,_,_,none⟩ ?_
 refine Take.k 2 ⟨some 6,.load 3 (.tmp 5),_,_,_,none⟩ ?_
 refine Take.k 3 ⟨some 7,.nilCheck (.tmp 4),_,_,_,none⟩ ?_
 refine Take.k 4 ⟨some 8,.fieldAddr 104 (.tmp 7) 1,_,_,_,none⟩ ?_
 refine Take.k 5 ⟨some 9,.indexAddr 102 (.tmp 8) (.tmp 6),_,_,_,none⟩ ?_
 refine Take.k 6 ⟨some 10,.load 101 (.tmp 9),_,_,_,none⟩ ?_
 refine Take.k 7 ⟨some 11,.load 56 (.tmp 3),_,_,_,none⟩ ?_ (hy:=Or.inl ⟨by rfl,by(intro w hSw;(try dsimp only at hSw);refine CB (.tmp 3) ?_ ?_ hSw.2.2.cells<;>rfl)⟩)
 refine wpAnyH_ready (rs:= [8]) (by kernel_rfl) (by simp) ?_
 refine AllReadyH.cons (o:=⟨some 12,.call ⟨.value (.tmp 10), #[.tmp 11], #[56]⟩,_,_,_,none⟩) rfl (fun K hK=> ?_) AllReadyH.nil
 go_simp
 (go_at_call 107;refine HC.out.mono ?_;rintro e x1 ⟨rfl,v',h1,h2⟩;have HH:=hid h1;have GG:=hid h2;have hS1:=KEEP.out v' x1 h1 h2;clear h1 h2)
 go_wp2_with fail
 refine hK.out _ _ ?_ (fun hHeld=> ?_)
 ·exact hS1
 clear hK K
 try simp only[Act.put,Take.a,Take.b,Take.c]
 refine wpAnyH_done (by kernel_rfl) ?_ _
 go_wp2_with fail
 go_end0
 exact⟨rfl,_,HH.out,(Grow.of L2.out).trans GG.out⟩
end EH
namespace W14
open Cj
open BU (Beside)
theorem Ce {c d:UInt8} (h: ¬c=d):(((c.toNat:Nat):Int)==((d.toNat:Nat):Int))=false:=beq_eq_false_iff_ne.2 fun e=>h (Kit.EZ e)
theorem FU {c d:UInt8} (h:c=d):(((c.toNat:Nat):Int)==((d.toNat:Nat):Int))=true:=by rw[h];exact beq_self_eq_true _
theorem CY {a b:Nat} (h: ¬a=b):(((a:Nat):Int)==((b:Nat):Int))=false:=beq_eq_false_iff_ne.2 fun e=>h (by omega)
theorem Hw {a b:Nat} (h:a=b):(((a:Nat):Int)==((b:Nat):Int))=true:=by rw[h];exact beq_self_eq_true _
def Cf (S:List UInt8) (at_ deep:Nat):Bool×Int:=
 if at_=S.length then(true,0)
 else if S.getD at_ 0=41 then(if 0<deep then(true,0)else(true,3))
 else if S.getD at_ 0=42\/S.getD at_ 0=43\/S.getD at_ 0=63\/S.getD at_ 0=123 then(true,3)
 else if S.getD at_ 0=124 then(true,0)else(false,0)
theorem Y1 {w:World} {b:Nat} {s:ByteArray} {at_ deep:Nat} (h:Reader w b s at_ deep) (hat:at_<=s.size):
    Calls Tryz.prog 127 #[.pointer (some ⟨b,0,none⟩)] w fun e w'=>e= .returned (.tuple #[.bool (Cf s.data.toList at_ deep).1,.int .i64 (Cf s.data.toList at_ deep).2])/\ ∃n,w'=w.drewN n:=by
 have c0:=h.c0
 have c1:=h.c1
 have c2:=h.c2
 have hl:s.data.toList.length=s.size:=(Lib.size_eq s).symm
 clear h
 by_cases ha:at_=s.size
 ·have HV:Hid (Cf s.data.toList at_ deep=(true,0)):=by
    unfold Hid Cf
    rw[if_pos (by omega)]
  have t0:=Hw ha
  rw[HV.out]
  clear hl
  go_enter Tryz.func127,Tryz.ntmps127
  go_wp2_with fail
  go_quiet (fail)
  go_wp2_with fail
  go_ret2
  exact⟨rfl,nq,rfl⟩
 have hlt:at_<s.size:=by omega
 have hlt2:(at_:Int)<(s.size:Int):=by omega
 have hc:s.data.toList.getD at_ 0=s[at_]:=Kit.CO s at_ hlt
 have t0:=CY ha
 have hne: ¬at_=s.data.toList.length:=by omega
 by_cases IK:s[at_]=41
 ·have t41:((s[at_].toNat:Int)==41)=true:=FU IK
  by_cases hd:0<deep
  ·have td:(0:Int)<(deep:Int):=by omega
   have HV:Hid (Cf s.data.toList at_ deep=(true,0)):=by
    unfold Hid Cf
    rw[if_neg hne,hc,if_pos IK,if_pos hd]
   clear IK
   rw[HV.out]
   clear hc hl hne
   go_enter Tryz.func127,Tryz.ntmps127
   go_wp2_with fail
   go_quiet (fail)
   have c0':(w.drewN nq).cell? ⟨b,0,none⟩=some (.string s):=c0
   have c1':(w.drewN nq).cell? ⟨b,1,none⟩=some (.int .i64 at_):=c1
   have c2':(w.drewN nq).cell? ⟨b,2,none⟩=some (.int .i64 deep):=c2
   obtain⟨W,hW,q1,hq⟩: ∃W,w.drewN nq=W/\ ∃q,W=w.drewN q:=⟨_,rfl,nq,rfl⟩
   rw[hW]at c0' c1' c2'
   rw[hW]
   have HQ:=hid hq
   clear hW hq c0 c1 c2
   go_wp2_with fail
   go_quiet (fail)
   have Y2:(W.drewN nq).cell? ⟨b,2,none⟩=some (.int .i64 deep):=c2'
   go_wp2_with fail
   go_ret2
   exact⟨rfl,q1+nq,by rw[HQ.out,World.drewN_drewN]⟩
  have td: ¬(0:Int)<(deep:Int):=by omega
  have HV:Hid (Cf s.data.toList at_ deep=(true,3)):=by
   unfold Hid Cf
   rw[if_neg hne,hc,if_pos IK,if_neg hd]
  clear IK
  rw[HV.out]
  clear hc hl hne
  go_enter Tryz.func127,Tryz.ntmps127
  go_wp2_with fail
  go_quiet (fail)
  have c0':(w.drewN nq).cell? ⟨b,0,none⟩=some (.string s):=c0
  have c1':(w.drewN nq).cell? ⟨b,1,none⟩=some (.int .i64 at_):=c1
  have c2':(w.drewN nq).cell? ⟨b,2,none⟩=some (.int .i64 deep):=c2
  obtain⟨W,hW,q1,hq⟩: ∃W,w.drewN nq=W/\ ∃q,W=w.drewN q:=⟨_,rfl,nq,rfl⟩
  rw[hW]at c0' c1' c2'
  rw[hW]
  have HQ:=hid hq
  clear hW hq c0 c1 c2
  go_wp2_with fail
  go_quiet (fail)
  have Y2:(W.drewN nq).cell? ⟨b,2,none⟩=some (.int .i64 deep):=c2'
  go_wp2_with fail
  go_ret2
  exact⟨rfl,q1+nq,by rw[HQ.out,World.drewN_drewN]⟩
 have t41:((s[at_].toNat:Int)==41)=false:=Ce IK
 by_cases Jk:s[at_]=42
 ·have t42:((s[at_].toNat:Int)==42)=true:=FU Jk
  have HV:Hid (Cf s.data.toList at_ deep=(true,3)):=by
   unfold Hid Cf
   rw[if_neg hne,hc,if_neg IK,if_pos (by simp[Jk])]
  clear IK Jk
  rw[HV.out]
  clear hc hl hne
  go_enter Tryz.func127,Tryz.ntmps127
  go_wp2_with fail
  go_quiet (fail)
  have c0':(w.drewN nq).cell? ⟨b,0,none⟩=some (.string s):=c0
  have c1':(w.drewN nq).cell? ⟨b,1,none⟩=some (.int .i64 at_):=c1
  have c2':(w.drewN nq).cell? ⟨b,2,none⟩=some (.int .i64 deep):=c2
  obtain⟨W,hW,q1,hq⟩: ∃W,w.drewN nq=W/\ ∃q,W=w.drewN q:=⟨_,rfl,nq,rfl⟩
  rw[hW]at c0' c1' c2'
  rw[hW]
  have HQ:=hid hq
  clear hW hq c0 c1 c2
  go_wp2_with fail
  go_quiet (fail)
  have Y2:(W.drewN nq).cell? ⟨b,2,none⟩=some (.int .i64 deep):=c2'
  go_wp2_with fail
  go_ret2
  exact⟨rfl,q1+nq,by rw[HQ.out,World.drewN_drewN]⟩
 have t42:((s[at_].toNat:Int)==42)=false:=Ce Jk
 by_cases h43:s[at_]=43
 ·have t43:((s[at_].toNat:Int)==43)=true:=FU h43
  have HV:Hid (Cf s.data.toList at_ deep=(true,3)):=by
   unfold Hid Cf
   rw[if_neg hne,hc,if_neg IK,if_pos (by simp[h43])]
  clear IK Jk h43
  rw[HV.out]
  clear hc hl hne
  go_enter Tryz.func127,Tryz.ntmps127
  go_wp2_with fail
  go_quiet (fail)
  have c0':(w.drewN nq).cell? ⟨b,0,none⟩=some (.string s):=c0
  have c1':(w.drewN nq).cell? ⟨b,1,none⟩=some (.int .i64 at_):=c1
  have c2':(w.drewN nq).cell? ⟨b,2,none⟩=some (.int .i64 deep):=c2
  obtain⟨W,hW,q1,hq⟩: ∃W,w.drewN nq=W/\ ∃q,W=w.drewN q:=⟨_,rfl,nq,rfl⟩
  rw[hW]at c0' c1' c2'
  rw[hW]
  have HQ:=hid hq
  clear hW hq c0 c1 c2
  go_wp2_with fail
  go_quiet (fail)
  have Y2:(W.drewN nq).cell? ⟨b,2,none⟩=some (.int .i64 deep):=c2'
  go_wp2_with fail
  go_ret2
  exact⟨rfl,q1+nq,by rw[HQ.out,World.drewN_drewN]⟩
 have t43:((s[at_].toNat:Int)==43)=false:=Ce h43
 by_cases h63:s[at_]=63
 ·have t63:((s[at_].toNat:Int)==63)=true:=FU h63
  have HV:Hid (Cf s.data.toList at_ deep=(true,3)):=by
   unfold Hid Cf
   rw[if_neg hne,hc,if_neg IK,if_pos (by simp[h63])]
  clear IK Jk h43 h63
  rw[HV.out]
  clear hc hl hne
  go_enter Tryz.func127,Tryz.ntmps127
  go_wp2_with fail
  go_quiet (fail)
  have c0':(w.drewN nq).cell? ⟨b,0,none⟩=some (.string s):=c0
  have c1':(w.drewN nq).cell? ⟨b,1,none⟩=some (.int .i64 at_):=c1
  have c2':(w.drewN nq).cell? ⟨b,2,none⟩=some (.int .i64 deep):=c2
  obtain⟨W,hW,q1,hq⟩: ∃W,w.drewN nq=W/\ ∃q,W=w.drewN q:=⟨_,rfl,nq,rfl⟩
  rw[hW]at c0' c1' c2'
  rw[hW]
  have HQ:=hid hq
  clear hW hq c0 c1 c2
  go_wp2_with fail
  go_quiet (fail)
  have Y2:(W.drewN nq).cell? ⟨b,2,none⟩=some (.int .i64 deep):=c2'
  go_wp2_with fail
  go_ret2
  exact⟨rfl,q1+nq,by rw[HQ.out,World.drewN_drewN]⟩
 have t63:((s[at_].toNat:Int)==63)=false:=Ce h63
 by_cases FV:s[at_]=123
 ·have t123:((s[at_].toNat:Int)==123)=true:=FU FV
  have HV:Hid (Cf s.data.toList at_ deep=(true,3)):=by
   unfold Hid Cf
   rw[if_neg hne,hc,if_neg IK,if_pos (by simp[FV])]
  clear IK Jk h43 h63 FV
  rw[HV.out]
  clear hc hl hne
  go_enter Tryz.func127,Tryz.ntmps127
  go_wp2_with fail
  go_quiet (fail)
  have c0':(w.drewN nq).cell? ⟨b,0,none⟩=some (.string s):=c0
  have c1':(w.drewN nq).cell? ⟨b,1,none⟩=some (.int .i64 at_):=c1
  have c2':(w.drewN nq).cell? ⟨b,2,none⟩=some (.int .i64 deep):=c2
  obtain⟨W,hW,q1,hq⟩: ∃W,w.drewN nq=W/\ ∃q,W=w.drewN q:=⟨_,rfl,nq,rfl⟩
  rw[hW]at c0' c1' c2'
  rw[hW]
  have HQ:=hid hq
  clear hW hq c0 c1 c2
  go_wp2_with fail
  go_quiet (fail)
  have Y2:(W.drewN nq).cell? ⟨b,2,none⟩=some (.int .i64 deep):=c2'
  go_wp2_with fail
  go_ret2
  exact⟨rfl,q1+nq,by rw[HQ.out,World.drewN_drewN]⟩
 have t123:((s[at_].toNat:Int)==123)=false:=Ce FV
 by_cases Fa:s[at_]=124
 ·have t124:((s[at_].toNat:Int)==124)=true:=FU Fa
  have HV:Hid (Cf s.data.toList at_ deep=(true,0)):=by
   unfold Hid Cf
   rw[if_neg hne,hc,if_neg IK,if_neg (by rintro(e|e|e|e)<;>contradiction),if_pos Fa]
  clear IK Jk h43 h63 FV Fa
  rw[HV.out]
  clear hc hl hne
  go_enter Tryz.func127,Tryz.ntmps127
  go_wp2_with fail
  go_quiet (fail)
  have c0':(w.drewN nq).cell? ⟨b,0,none⟩=some (.string s):=c0
  have c1':(w.drewN nq).cell? ⟨b,1,none⟩=some (.int .i64 at_):=c1
  have c2':(w.drewN nq).cell? ⟨b,2,none⟩=some (.int .i64 deep):=c2
  obtain⟨W,hW,q1,hq⟩: ∃W,w.drewN nq=W/\ ∃q,W=w.drewN q:=⟨_,rfl,nq,rfl⟩
  rw[hW]at c0' c1' c2'
  rw[hW]
  have HQ:=hid hq
  clear hW hq c0 c1 c2
  go_wp2_with fail
  go_quiet (fail)
  have Y2:(W.drewN nq).cell? ⟨b,2,none⟩=some (.int .i64 deep):=c2'
  go_wp2_with fail
  go_ret2
  exact⟨rfl,q1+nq,by rw[HQ.out,World.drewN_drewN]⟩
 have t124:((s[at_].toNat:Int)==124)=false:=Ce Fa
 have HV:Hid (Cf s.data.toList at_ deep=(false,0)):=by
  unfold Hid Cf
  rw[if_neg hne,hc,if_neg IK,if_neg (by rintro(e|e|e|e)<;>contradiction),if_neg Fa]
 clear IK Jk h43 h63 FV Fa
 rw[HV.out]
 clear hc hl hne
 go_enter Tryz.func127,Tryz.ntmps127
 go_wp2_with fail
 go_quiet (fail)
 have c0':(w.drewN nq).cell? ⟨b,0,none⟩=some (.string s):=c0
 have c1':(w.drewN nq).cell? ⟨b,1,none⟩=some (.int .i64 at_):=c1
 have c2':(w.drewN nq).cell? ⟨b,2,none⟩=some (.int .i64 deep):=c2
 obtain⟨W,hW,q1,hq⟩: ∃W,w.drewN nq=W/\ ∃q,W=w.drewN q:=⟨_,rfl,nq,rfl⟩
 rw[hW]at c0' c1' c2'
 rw[hW]
 have HQ:=hid hq
 clear hW hq c0 c1 c2
 go_wp2_with fail
 go_quiet (fail)
 have Y2:(W.drewN nq).cell? ⟨b,2,none⟩=some (.int .i64 deep):=c2'
 go_wp2_with fail
 go_ret2
 exact⟨rfl,q1+nq,by rw[HQ.out,World.drewN_drewN]⟩
end W14
namespace Cj
open Go
def isNum (t:List UInt8):Bool:=decide (t≠ [])&&(decide (t.length<=3)&&t.all Ch)
theorem Ey {t:List UInt8} (h:isNum t=true):number t=some (val t):=by
 unfold isNum at h
 simp only[Bool.and_eq_true,decide_eq_true_eq]at h
 unfold number
 rw[if_pos h]
theorem KM {t:List UInt8} (h:isNum t=false):number t=none:=by
 unfold number
 rw[if_neg]
 rintro⟨a,b,c⟩
 unfold isNum at h
 rw[decide_eq_true a,decide_eq_true b,c]at h
 simp at h
theorem aX {t u:List UInt8} {c:UInt8} (h:Ch c=false):isNum (t++c::u)=false:=by
 unfold isNum
 rw[List.all_append,List.all_cons,h]
 simp
def before (c:UInt8) (l:List UInt8):List UInt8:=l.takeWhile (fun x=>decide (x≠c))
def behind (c:UInt8) (l:List UInt8):List UInt8:=(l.dropWhile (fun x=>decide (x≠c))).drop 1
theorem Ck {c:UInt8} {t:List UInt8} (h: ¬c∈t) (r:List UInt8):before c (t++r)=t++before c r:=by
 unfold before
 rw[List.takeWhile_append_of_pos]
 intro x hx
 exact decide_eq_true fun e=>h (e▸hx)
theorem JF {c:UInt8} {t:List UInt8} (h: ¬c∈t) (r:List UInt8):behind c (t++r)=behind c r:=by
 unfold behind
 rw[List.dropWhile_append_of_pos]
 intro x hx
 exact decide_eq_true fun e=>h (e▸hx)
theorem C8 (c:UInt8) (r:List UInt8):before c (c::r)= []:=by unfold before;simp
theorem Js (c:UInt8) (r:List UInt8):behind c (c::r)=r:=by unfold behind;simp
theorem Dj {c d:UInt8} (h: ¬d=c) (r:List UInt8):before c (d::r)=d::before c r:=by unfold before;simp[h]
theorem Y3 (c:UInt8):before c []= []:=rfl
theorem LK {c:UInt8} {t:List UInt8} (h: ¬c∈t):before c t=t:=by
 have:=Ck h []
 simpa [Y3]using this
def Fb (m t:Int):Bool:=decide (m≥0)&&decide (m<=100)&&(decide (t= -1)||decide (t≥m)&&decide (t<=100))
theorem Na {m t:Int} (hm:0<=m) (ht: -1<=t) (n:Nat):range m t n=if Fb m t then(0,m,t,n)else(4,0,0,0):=by
 unfold range
 by_cases h:m>100\/t>100\/(0<=t/\m>t)
 ·rw[if_pos h,if_neg]
  unfold Fb
  simp only[Bool.and_eq_true,Bool.or_eq_true,decide_eq_true_eq]
  omega
 rw[if_neg h,if_pos]
 unfold Fb
 simp only[Bool.and_eq_true,Bool.or_eq_true,decide_eq_true_eq]
 omega
def Dn (l:List UInt8):List UInt8:=before 44 (before 125 l)
def Gu (l:List UInt8):Bool:=decide (44∈before 125 l)&&decide (behind 44 (before 125 l)= [])
def EK (l:List UInt8):List UInt8:=if 44∈before 125 l then behind 44 (before 125 l)else Dn l
def Jd (l:List UInt8):Bool:=decide (125∈l)&&(isNum (Dn l)&&(Gu l||isNum (EK l)))
def Nb (l:List UInt8):Int:=if Gu l then-1 else val (EK l)
theorem KN {c:UInt8} (h:Ch c=true): ¬c=125/\ ¬c=44:=by
 constructor<;>(rintro rfl;revert h;decide)
theorem MZ {l:List UInt8}: ∀x,x∈l.takeWhile Ch->Ch x=true:=fun x hx=>List.all_eq_true.1 (List.all_takeWhile (p:=Ch) (l:=l)) x hx
theorem head_drop {l r:List UInt8} {c:UInt8} (h:l.dropWhile Ch=c::r):Ch c=false:=by
 have:=List.head?_dropWhile_not Ch l
 rw[h]at this
 simpa using this
theorem JG {l:List UInt8} (h:Jd l=false):Cr l=Pb:=by
 have hl:l=l.takeWhile Ch++l.dropWhile Ch:=List.takeWhile_append_dropWhile.symm
 have hd:=MZ (l:=l)
 unfold Cr
 generalize l.takeWhile Ch=t at*
 cases hr:l.dropWhile Ch with
 |nil=>cases number t<;>rfl
 |cons c r=>
  have hc:=head_drop hr
  rw[hr]at hl
  clear hr
  have n125: ¬(125:UInt8)∈t:=fun q=>(KN (hd _ q)).1 rfl
  have n44: ¬(44:UInt8)∈t:=fun q=>(KN (hd _ q)).2 rfl
  cases hn:isNum t with
  |false=>rw[KM hn]
  |true=>
   rw[Ey hn]
   simp only
   by_cases c1:c=125
   ·exfalso
    subst c1
    have e1:before 125 l=t:=by rw[hl,Ck n125,C8,List.append_nil]
    have e2:Dn l=t:=by unfold Dn;rw[e1,LK n44]
    have e3:EK l=t:=by unfold EK;rw[e1,if_neg n44,e2]
    unfold Jd at h
    rw[e2,e3,hn,Bool.or_true,hl,decide_eq_true (by simp)]at h
    simp at h
   rw[if_neg c1]
   by_cases c2:c=44
   ·rw[if_pos c2]
    subst c2
    have e1:before 125 l=t++44::before 125 r:=by rw[hl,Ck n125,Dj (by decide)]
    have e2:Dn l=t:=by unfold Dn;rw[e1,Ck n44,C8,List.append_nil]
    have e3:behind 44 (before 125 l)=before 125 r:=by rw[e1,JF n44,Js]
    have e4:EK l=before 125 r:=by unfold EK;rw[if_pos (by rw[e1];simp),e3]
    have e5:Gu l=decide (before 125 r= []):=by unfold Gu;rw[e3,decide_eq_true (by rw[e1];simp),Bool.true_and]
    have e6:decide ((125:UInt8)∈l)=decide ((125:UInt8)∈r):=by
     rw[hl]
     exact decide_eq_decide.2 (by simp[n125])
    unfold Jd at h
    rw[e2,e4,e5,e6,hn,Bool.true_and]at h
    have hlr:r=r.takeWhile Ch++r.dropWhile Ch:=List.takeWhile_append_dropWhile.symm
    have hdr:=MZ (l:=r)
    have nT: ¬(125:UInt8)∈r.takeWhile Ch:=fun q=>(KN (hdr _ q)).1 rfl
    by_cases c3:r.takeWhile Ch= []
    ·rw[if_pos c3]
     by_cases c4:r.headD 0=125
     ·exfalso
      cases r with
      |nil=>simp at c4
      |cons d r2=>
       have:d=125:=by simpa using c4
       subst this
       rw[C8]at h
       simp at h
     rw[if_neg c4]
    rw[if_neg c3]
    cases hn2:isNum (r.takeWhile Ch)with
    |false=>rw[KM hn2]
    |true=>
     rw[Ey hn2]
     simp only
     by_cases c4:(r.dropWhile Ch).headD 0=125
     ·exfalso
      cases hr2:r.dropWhile Ch with
      |nil=>rw[hr2]at c4;simp at c4
      |cons d r2=>
       rw[hr2]at c4 hlr
       have:d=125:=by simpa using c4
       subst this
       have e7:before 125 r=r.takeWhile Ch:=by
        conv=>lhs;rw[hlr,Ck nT,C8,List.append_nil]
       rw[e7,hn2,Bool.or_true,decide_eq_true (by rw[hlr];simp)]at h
       simp at h
     rw[if_neg c4]
   rw[if_neg c2]
theorem Jt {l:List UInt8} (h:Jd l=true):Cr l=range (val (Dn l)) (Nb l) ((before 125 l).length+2):=by
 have hl:l=l.takeWhile Ch++l.dropWhile Ch:=List.takeWhile_append_dropWhile.symm
 have hd:=MZ (l:=l)
 unfold Jd at h
 simp only[Bool.and_eq_true,decide_eq_true_eq]at h
 obtain⟨h1,h2,h3⟩:=h
 unfold Cr
 generalize l.takeWhile Ch=t at*
 have n125: ¬(125:UInt8)∈t:=fun q=>(KN (hd _ q)).1 rfl
 have n44: ¬(44:UInt8)∈t:=fun q=>(KN (hd _ q)).2 rfl
 cases hr:l.dropWhile Ch with
 |nil=>
  exfalso
  rw[hr,List.append_nil]at hl
  rw[hl]at h1
  exact n125 h1
 |cons c r=>
  have hc:=head_drop hr
  rw[hr]at hl
  clear hr
  by_cases c1:c=125
  ·subst c1
   have e1:before 125 l=t:=by rw[hl,Ck n125,C8,List.append_nil]
   have e2:Dn l=t:=by unfold Dn;rw[e1,LK n44]
   have e3:EK l=t:=by unfold EK;rw[e1,if_neg n44,e2]
   have e4:Gu l=false:=by unfold Gu;rw[e1,decide_eq_false n44,Bool.false_and]
   have e5:Nb l=val t:=by unfold Nb;rw[e4,if_neg (by simp),e3]
   rw[e2]at h2
   rw[Ey h2,e5,e2,e1]
   simp only[if_pos]
  by_cases c2:c=44
  ·subst c2
   have e1:before 125 l=t++44::before 125 r:=by rw[hl,Ck n125,Dj (by decide)]
   have e2:Dn l=t:=by unfold Dn;rw[e1,Ck n44,C8,List.append_nil]
   have e3:behind 44 (before 125 l)=before 125 r:=by rw[e1,JF n44,Js]
   have e4:EK l=before 125 r:=by unfold EK;rw[if_pos (by rw[e1];simp),e3]
   have e5:Gu l=decide (before 125 r= []):=by unfold Gu;rw[e3,decide_eq_true (by rw[e1];simp),Bool.true_and]
   have e6:(125:UInt8)∈r:=by
    rw[hl]at h1
    rcases List.mem_append.1 h1 with q|q
    ·exact absurd q n125
    rcases List.mem_cons.1 q with q|q
    ·exact absurd q (by decide)
    exact q
   rw[e2]at h2
   rw[Ey h2]
   simp only[if_neg c1,if_pos]
   have hlr:r=r.takeWhile Ch++r.dropWhile Ch:=List.takeWhile_append_dropWhile.symm
   have hdr:=MZ (l:=r)
   have nT: ¬(125:UInt8)∈r.takeWhile Ch:=fun q=>(KN (hdr _ q)).1 rfl
   cases hr2:r.dropWhile Ch with
   |nil=>
    exfalso
    rw[hr2,List.append_nil]at hlr
    rw[hlr]at e6
    exact nT e6
   |cons d r2=>
    have hdg:=head_drop hr2
    rw[hr2]at hlr
    have e7:before 125 r=r.takeWhile Ch++before 125 (d::r2):=by
     conv=>lhs;rw[hlr,Ck nT]
    by_cases c4:d=125
    ·subst c4
     rw[C8,List.append_nil]at e7
     by_cases c3:r.takeWhile Ch= []
     ·rw[if_pos c3]
      rw[c3]at e7 hlr
      rw[List.nil_append]at hlr
      have e8:Nb l= -1:=by unfold Nb;rw[e5,e7];rfl
      rw[if_pos (by rw[hlr];rfl),e8,e2,e1,e7]
      simp only[List.length_append,List.length_cons,List.length_nil]
     rw[if_neg c3]
     have e8:Gu l=false:=by rw[e5,e7];exact decide_eq_false c3
     have e9:Nb l=val (r.takeWhile Ch):=by unfold Nb;rw[e8,if_neg (by simp),e4,e7]
     rw[e8,e4,e7,Bool.false_or]at h3
     rw[Ey h3]
     simp only[List.headD_cons,if_pos]
     rw[e9,e2,e1,e7]
     congr 1
     simp only[List.length_append,List.length_cons];omega
    exfalso
    rw[Dj c4]at e7
    rw[e5,e4,e7,aX hdg,Bool.or_false,decide_eq_true_eq]at h3
    simp at h3
  exfalso
  have e1:before 125 l=t++c::before 125 r:=by rw[hl,Ck n125,Dj c1]
  have e2:Dn l=t++c::before 44 (before 125 r):=by unfold Dn;rw[e1,Ck n44,Dj c2]
  rw[e2,aX hc]at h2
  simp at h2
end Cj
end Go.Proofs.YtfgegjinhkgpbaaGreatDoor
