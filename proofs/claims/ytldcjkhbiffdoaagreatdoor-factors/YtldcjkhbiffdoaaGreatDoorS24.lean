import Derived.Test.YtldcjkhbiffdoaaGreatDoorS14
import Derived.Test.YtldcjkhbiffdoaaGreatDoorS17
import Derived.Test.YtldcjkhbiffdoaaGreatDoorS23
import Derived.Test.YtldcjkhbiffdoaaGreatDoorS16
import Derived.ArgAppend
import Derived.Test.YtldcjkhbiffdoaaGreatDoorS12
import Derived.Maps.AppendAt
set_option maxRecDepth 100000
set_option maxHeartbeats 40000000
set_option linter.unusedSimpArgs false
set_option linter.defProp false
namespace Go.Proofs.YtldcjkhbiffdoaaGreatDoor
open Go.RowKit Go.Proofs.Tryz
def Sx(w:World)(sk:Nat)(f a vs:Value)(tr:Int)(cs:Value):Prop:=w.heap[sk]?=some (.cells #[f,a,vs,.int .i64 tr,cs] 158 (0,0))
def Sx.c{w:World}{b:Nat}{f a vs cs:Value}{tr:Int}(h:Sx w b f a vs tr cs):w.cell? ⟨b,0,none⟩=some f∧w.cell? ⟨b,1,none⟩=some a∧w.cell? ⟨b,2,none⟩=some vs∧w.cell? ⟨b,3,none⟩=some (.int .i64 tr)∧w.cell? ⟨b,4,none⟩=some cs:=by unfold Sx at h;refine⟨?_,?_,?_,?_,?_⟩<;>simp[World.cell?,h]
def Sx.lt{w:World}{b:Nat}{f a vs cs:Value}{tr:Int}(h:Sx w b f a vs tr cs):b<w.heap.size:=(gf.1 h).1
def Sx.E{w w':World}{b:Nat}{f a vs cs:Value}{tr:Int}(h:Sx w b f a vs tr cs)(c:Below w.heap.size w w'):Sx w' b f a vs tr cs:=by unfold Sx;rw[c.block b h.lt];exact h
def Bd.ahr{xs:ae}{s:Int}{e:Nat}(a:Bd xs e)(b:s.natAbs≤20):Bd (cL xs [s,1]) (e+2):=fun k=>by
 have c:(cL xs [s,1]).getD k 0=xs.getD k 0*s+(if k=0 then 0 else xs.getD (k-1) 0):=by unfold cL;rw[bN,dY,MV]
 rw[c];have d:=a k;have g:(if k=0 then(0:Int)else xs.getD (k-1) 0).natAbs<10^e:=by split;exact du J;exact a (k-1)
 have h:=vU (xs.getD k 0*s) (if k=0 then 0 else xs.getD (k-1) 0);have i:(xs.getD k 0*s).natAbs≤10^e*20:=by rw[eX];exact dt (jU d) b
 rw[iE];have f:(10:Nat)^2=100:=J;rw[f];omega
def P_{xs a:ae}{n:Nat}(b:xs.length≤n)(c:a.length≤2):(cL xs a).length≤n+1:=by unfold cL;refine fY fun k d=>?_;rw[dY];exact ph xs a k o
def Et{xs:ae}{c:Int}{n:Nat}(a:xs.length≤n):(cL xs [c]).length≤n:=by unfold cL;refine fY fun k b=>?_;rw[dY];exact ph xs [c] k aZ
def Qq{xs a:ae}{n:Nat}(b:xs.length≤n)(c:a.length≤n):(tz (f_ xs a (max xs.length a.length))).length≤n:=fY fun k d=>au (by rw[yX];omega)
def Iz.abP{F g:ae}(b:Pp F)(hi:Iz (fun t=>ev t F))(tg:Tr g)(d:2≤g.length)(i:g.length≤(F.length-1)/2+1):∀n Q,jN g n F≠some Q:=fun n Q f=>by have e:=Bw f;(have c:g≠ []:=fun h=>by subst h;simp at d);have a:tz Q≠ []:=fun h=>b.ne (b.tr.zero fun t=>by rw[e,←kL t Q,h];show _*0=(0:Int);simp);have hlen:=(m_ b.tr tg (eS Q) c a fun t=>by rw[e,kL]).2.1;have j:=bR.2 a;rcases hi.2.2.2 (fun t=>ev t g) (fun t=>ev t (tz Q)) (Po.ev _) (Po.ev _) (fun t=>by rw[kL];exact e t)with h|h;have:=(tg.dm c).uniq h;omega;have:=((eS Q).dm a).uniq h;omega
structure DfO(k:Nat)(G P:ae):Prop where
 tg:Tr G
 lg:G.length≤k
 lp:P.length≤k+1
 bg:Bd G (62+3*k)
 bp:Bd P (2*k+1)
def DfO.next{k:Nat}{G P:ae}(h:DfO k G P){c s:Int}(hc:c.natAbs<10^60)(a:s.natAbs≤20):DfO (k+1) (tz (f_ G (cL P [c]) (max G.length (cL P [c]).length))) (cL P [s,1]) where
 tg:=eS _
 lg:=Qq (by have:=h.lg;omega) (Et h.lp)
 lp:=P_ h.lp Y
 bg:=by
  have b:Bd (cL P [c]) (62+3*k):=(h.bp.Lo hc).mono o
  exact(h.bg.fU b).mono o
 bp:=(h.bp.ahr a).mono o
def FC(F Z A:ae)(N:Nat)(f a vs cs:Value)(tr:Int)(w:World)(R:Sx w N f a vs tr cs)(hf:aR w f F)(ha:aN w a A)(hz:aR w cs Z)(S:Pp F)(hi:Iz (fun t=>ev t F))(lF:F.length≤11)(bF:Bd F 17)(hZ:Z.length≤(F.length-1)/2+1)(hZA:Z.length≤A.length)(bZ:∀k,(Z.getD k 0).natAbs<10^60)(bA:∀k,(A.getD k 0).natAbs≤20):Calls prog 151 #[.pointer (some ⟨N,0,none⟩)] w fun e w'=>e=.returned (.bool false)∧Below w.heap.size w w':=by
 obtain⟨fa,fc,rfl⟩:=ah.val hf;obtain⟨aa,ac,rfl⟩:=ha.val;obtain⟨ca,cc,rfl⟩:=ah.val hz;have hZ6:Z.length≤6:=o;have T:Hid (∀(g:ae)(n:Nat)(Q:ae),Tr g→2≤g.length→g.length≤Z.length→jN g n F≠some Q):=fun g n Q tg W hl=>hi.abP S tg W o n Q;have tF:=S.tr;clear hi S hZ;go_enter func151,ntmps151;go_wp2_with fail;refine(dT 1 w J).mono ?_;rintro e I ⟨x1,rfl,X,ay⟩;obtain⟨b1,a1,n1,c1,_,rfl,_,_⟩:=id X.open;obtain⟨W2,v⟩:∃W2,Hid (I.alloc (.cells #[.bool b1,.slice a1 n1 c1] 74)=W2):=⟨_,rfl⟩;obtain⟨aC,At⟩:=jW v.O X;have cR:=ay.tr aC;have xy:=R.E cR;have e4:(I.alloc (.cells #[.bool b1,.slice a1 n1 c1] 74)).cell? ⟨N,4,none⟩=some (.slice ca Z.length cc):=by rw[v.O];exact xy.c.2.2.2.2
 have y:Hid (DfO 0 [] [1]):=⟨Tr.nil,Y,Y,fun k=>Y,fun k=>by
  cases k with
  |zero=>decide
  |succ k=>simp⟩
 go_wp2_with fail;rw[v.O];clear e4;have HOL:Hid (I.heap.size<W2.heap.size):=by show _<_;rw[←v.O];simp
 clear v;generalize I.heap.size=k1 at*;go_loopw [16,3,4] (fun i g p wr=>∃(k:Nat)(G P:ae),i=.int .i64 (k:Nat)∧k≤Z.length∧aR wr g G∧aR wr p P∧Hid (DfO k G P)∧Below w.heap.size w wr) (fun i _ _ _=>Z.length-(intOf i).toNat);case atStart=>exact⟨0,[],[1],rfl,o,ah.kF _ _,At,y,cR⟩
 case round=>
  clear y At xy aC X HOL;obtain⟨k,G,P,rfl,hk,hG,hP,K,b⟩:=hrel;obtain⟨ga,gc,rfl⟩:=ah.val hG;obtain⟨pa,pc,rfl⟩:=ah.val hP;have Lw:=R.E b;by_cases aM:k<Z.length
  ·obtain⟨zg,zb,xa,xn,xc,hze,gP,iw,hzg,_,ahR,aev,B⟩:=ah.at (ah.E hz b) k aM;subst hze;obtain⟨ag,hae,ha1,ha2,hag,hac⟩:=(ha.E b).at k o;subst hae;have bz:=bZ k;have ba:=bA k;have HN:Hid _:=K.O.next (c:=Z.getD k 0) (s:=-(A.getD k 0)) bz o;have u:=K.O;generalize Z.getD k 0=z at*;generalize A.getD k 0=L at*;have x_:(k:Int)<(Z.length:Int):=o;have hka:(k:Int)<(A.length:Int):=o;have d:Hid (G.length≤1000000∧P.length≤1000):=⟨by have:=u.lg;omega,by have:=u.lp;omega⟩;have Fm:Hid (Bd P 100):=u.bp.mono o;have HBG:Hid (Bd G 200):=u.bg.mono o;(have atO:Hid ((cL P [z]).length≤1000000):=by have:=Et (c:=z) u.lp;show _≤_;omega);have asa:Hid (Bd (cL P [z]) 200):=(Fm.O.Lo bz).mono o;clear u K;go_wp2_with fail;obtain⟨M,Ik⟩:∃M,Hid (wr.alloc (.cells #[.bool zb,.slice xa xn xc] 74)=M):=⟨_,rfl⟩;have C:=(aI Ik.O).1;have D:M.heap.size=wr.heap.size+1:=YC;rw[Ik.O,←D];obtain⟨W4,Qt⟩:∃W4,Hid (M.alloc (.cells #[.bool zb,.slice xa xn xc] 74)=W4):=⟨_,rfl⟩;obtain⟨bU,Uj⟩:=jW Qt.O (B.E C);rw[Qt.O];have mV:=C.tr bU;clear Ik Qt D;refine(jy P [z] 100 60 _ _ W4 (ah.E hP mV) Uj d.O.2 Y Fm.O (Bd.one bz) o).mono ?_;rintro e w5 ⟨x5,rfl,dP,aV⟩;obtain⟨ma,mc,rfl⟩:=ah.val dP;have l:=mV.tr aV;go_wp2_with fail;refine(ju G (cL P [z]) _ _ w5 (ah.E hG l) dP d.O.1 atO.O (HBG.O.k_ o) (asa.O.k_ o)).mono ?_;rintro e w6 ⟨x6,rfl,gM,bt⟩;have m:=l.tr bt;obtain⟨G2,HG2⟩:∃G2,Hid (tz (f_ G (cL P [z]) (max G.length (cL P [z]).length))=G2):=⟨_,rfl⟩;rw[HG2.O]at gM HN;obtain⟨ga2,gc2,rfl⟩:=ah.val gM;have jP:=b.tr m;obtain⟨s0,s1,s2,s3,s4⟩:=(R.E jP).c;have aEF:=(m.cell (p:=⟨ag,k,none⟩) hag).trans hac;have hwn:IntKind.i64.wrap (-L)=-L:=iy;clear C bU Uj mV l dP aV bt B;go_wp2_with fail;refine(dT (-L) w6 o).mono ?_;rintro e w7 ⟨x7,rfl,kX,dL⟩;obtain⟨b7,a7,n7,c7,_,rfl,_,_⟩:=id kX.open;go_wp2_with fail;refine(dT 1 w7 J).mono ?_;rintro e w8 ⟨x8,rfl,qG,iT⟩;obtain⟨b8,a8,n8,c8,_,rfl,_,_⟩:=id qG.open;go_wp2_with fail;obtain⟨W9,r⟩:∃W9,Hid (w8.alloc (.cells #[.bool b7,.slice a7 n7 c7,.bool b8,.slice a8 n8 c8] 74)=W9):=⟨_,rfl⟩;obtain⟨lZ,hL9⟩:=EW r.O (kX.E iT) qG;rw[r.O];have E:=(dL.tr iT).trans (lZ.mono (by have:=dL.size;have:=iT.size;omega));clear r;refine(jy P [-L,1] 100 10 _ _ W9 (ah.E hP (m.tr E)) hL9 d.O.2 Y Fm.O (fun j=>by
    match j with
    |0=>simp;omega
    |1=>simp
    |j+2=>simp) o).mono ?_
   rintro e uP ⟨x10,rfl,mF,fE⟩;have Pd:=E.tr fE;have vV:=ah.E gM Pd;have I8:=jP.tr Pd;go_wp2;go_roundw;(case rel=>exact⟨k+1,G2,_,by go_num,o,vV,mF,HN,I8⟩);case measure=>simp[intOf];omega
  ·(obtain rfl:k=Z.length:=by omega);obtain⟨s0,s1,s2,s3,s4⟩:=Lw.c;by_cases W:G.length<2;(·(have O9:(G.length:Int)<2:=by omega);go_wp2;go_ret;exact⟨rfl,b⟩);·(have O9:¬(G.length:Int)<2:=by omega);have H:=K.O;have hDv:=KA F G 17 200 _ _ wr (ah.E hf b) hG o (by have:=H.lg;omega) bF (H.bg.mono o) o o tF H.tg (fun h=>by subst h;simp at W);have HNo:Hid _:=T.O G;have htg:=H.tg;have hlg:=H.lg;have hsk:=Lw.lt;go_wp2_with fail;refine hDv.mono ?_;rintro e w3 ⟨hE,C⟩;rcases hE with⟨Q,x,hq,_,_⟩|⟨q,x,hq,rfl,_⟩;exact absurd hq (HNo.O _ Q htg o hlg);·go_wp2;go_ret;exact⟨rfl,b.tr C⟩
structure mu(w w':World)(sk:Nat)(o:Option Nat):Prop where
 os:w'.os=w.os
 tape:w'.tape=w.tape
 output:w'.output=w.output
 size:w.heap.size≤w'.heap.size
 block:∀k,k<w.heap.size→k≠sk→some k≠o→w'.heap[k]?=w.heap[k]?
def mu.refl(w:World)(a:Nat)(o:Option Nat):mu w w a o:=⟨rfl,rfl,rfl,Z _,fun _ _ _ _=>rfl⟩
def mu.trans{w d w2:World}{b:Nat}{o f:Option Nat}(h:mu w d b o)(a:mu d w2 b f)(j:∀k,f=some k→k<w.heap.size→o=some k):mu w w2 b o:=⟨a.os.trans h.os,a.tape.trans h.tape,a.output.trans h.output,aW h.size a.size,fun k c g i=>(a.block k (dy c h.size) g fun e=>i (j k e.symm c).symm).trans (h.block k c g i)⟩
def mu.nH{w w':World}(h:Below w.heap.size w w')(a:Nat)(o:Option Nat):mu w w' a o:=⟨h.os,h.tape,h.output,h.size,fun k b _ _=>h.block k b⟩
def mu.C4{w w':World}{o:Option Nat}(h:w.grownBy w' o)(a:Nat):mu w w' a o:=⟨h.os,h.tape,h.output,h.size,fun k b _ c=>h.block k b c⟩
def mu.vH(w:World)(a j:Nat)(u:Value)(o:Option Nat):mu w (w.setCell ⟨a,j,none⟩ u) a o:=⟨xm,xm,xm,xm,fun k _ b _=>by exact e9 _ _ _ _ b⟩
def mu.E{B:Nat}{a w w':World}{b:Nat}{o:Option Nat}(h:Below B a w)(k:mu w w' b o)(f:B≤w.heap.size)(g:B≤b)(c:∀j,o=some j→B≤j):Below B a w':=⟨k.os.trans h.os,k.tape.trans h.tape,k.output.trans h.output,aW h.size k.size,fun j d=>(k.block j ab ab fun e=>by have:=c j e.symm;omega).trans (h.block j d)⟩
def eU.P8{w w':World}{c k:Nat}{o:Option Nat}{a b:Value}(h:eU w k a b)(d:mu w w' c o)(e:k≠c)(f:some k≠o):eU w' k a b:=by unfold eU;rw[d.block k h.lt e f];exact h
def aN.P8{w w':World}{d:Nat}{o:Option Nat}{v:Value}{l:ae}(h:aN w v l)(i:mu w w' d o){f a vs cs:Value}{tr:Int}(c:Sx w d f a vs tr cs)(j:∀k,o=some k→∃cur,w.heap[k]?=some (.cells cur 74 (0,0))):aN w' v l:=by refine⟨h.1,?_⟩;rcases h.2 with m|⟨g,cap,cur,n,p,b,r⟩;exact .inl m;refine .inr ⟨g,cap,cur,n,p,?_,r⟩;rw[i.block g (gf.1 b).1 ?_ ?_];exact b;intro e;subst e;unfold Sx at c;rw[b]at c;simp at c;intro e;obtain⟨q,hc⟩:=j g e.symm;rw[b]at hc;simp at hc
def cr.P8{w w':World}{c:Nat}{o:Option Nat}{v:Value}{z:Int}(h:cr w v z)(d:mu w w' c o){f a vs cs:Value}{tr:Int}(e:Sx w c f a vs tr cs)(g:∀k,o=some k→∃cur,w.heap[k]?=some (.cells cur 74 (0,0))):cr w' v z:=by obtain⟨b,x,l,i,j,m⟩:=h;exact⟨b,x,l,i,j.P8 d e g,m⟩
def gK.P8{w w':World}{d k:Nat}{o:Option Nat}{z:Int}(h:gK w k z)(e:mu w w' d o)(g:k≠d)(i:some k≠o){f a vs cs:Value}{tr:Int}(j:Sx w d f a vs tr cs)(l:∀k,o=some k→∃cur,w.heap[k]?=some (.cells cur 74 (0,0))):gK w' k z:=by obtain⟨b,x,n,c,m,p⟩:=h;exact⟨b,x,n,c,m.P8 e g i,p.P8 e j l⟩
def ah.kqn{B:Nat}{w w':World}{v:Value}{zs:ae}(h:ah B w v zs){b:Nat}(hk:mu w w' b none){f a vs cs:Value}{tr:Int}(hs:Sx w b f a vs tr cs):ah B w' v zs:=T24
def ah.afM{B:Nat}{w:World}{v:Value}{zs:ae}(h:ah B w v zs){b:Nat}{f a vs cs:Value}{tr:Int}(hs:Sx w b f a vs tr cs)(j:Nat)(u:Value):ah B (w.setCell ⟨b,j,none⟩ u) v zs:=by have hk:=mu.vH w b j u none;exact T24
def Sx.arb{w:World}{b:Nat}{f a vs cs:Value}{tr:Int}(h:Sx w b f a vs tr cs)(t:Int):Sx (w.setCell ⟨b,3,none⟩ (.int .i64 t)) b f a vs t cs:=by unfold Sx at h ⊢;rw[gI w b _ _ _ _ h];rfl
def Sx.LR{w:World}{b:Nat}{f a vs cs:Value}{tr:Int}(h:Sx w b f a vs tr cs)(u:Value):Sx (w.setCell ⟨b,4,none⟩ u) b f a vs tr u:=by unfold Sx at h ⊢;rw[gI w b _ _ _ _ h];rfl
def Sx.fz{w:World}{b:Nat}{f a vs cs:Value}{tr:Int}(h:Sx w b f a vs tr cs)(j:Nat):w.frozen? ⟨b,j,none⟩=false:=by unfold Sx at h;simp[World.frozen?,h]
def Sx.grown{w w':World}{b:Nat}{o:Option Nat}{f a vs cs:Value}{tr:Int}(h:Sx w b f a vs tr cs)(c:w.grownBy w' o)(d:∀k,o=some k→∃cur,w.heap[k]?=some (.cells cur 74 (0,0))):Sx w' b f a vs tr cs:=by unfold Sx;rw[c.block b h.lt];exact h;intro e;obtain⟨g,hc⟩:=d b e.symm;unfold Sx at h;rw[h]at hc;simp at hc
def ah.cut{B:Nat}{w:World}{a:Option Addr}{c:Nat}{zs:ae}{z:Int}(h:ah B w (.slice a (zs++[z]).length c) (zs++[z])):ah B w (.slice a zs.length c) zs:=by
 obtain⟨cs,h1,j,k⟩:=h;have y:cs.length=zs.length+1:=l9;refine⟨cs.take zs.length,aZ,⟨Us,?_⟩,fun i p b=>?_⟩;rcases j.2 with⟨_,m⟩|⟨g,cap,cur,d,n,q,r,s,t,u⟩;simp at m;simp only[jD,h_]at d;obtain⟨rfl,rfl⟩:=d;refine .inr ⟨g,c,cur,rfl,n,q,by simp at r;omega,s,t,?_⟩;have e:cs=cs.take zs.length++cs.drop zs.length:=(xT _ _).symm;have v:flat cs=flat (cs.take zs.length)++flat (cs.drop zs.length):=by rw[←jT,←e]
 have f:=jZ (List.take (zs.length*2)) u;rw[List.take_take,v,List.take_append_of_le_length Us,gT (l:=flat _) Us]at f;rw[←f];congr 1;simp;have hi:i<zs.length:=by have:=(eQ.1 b).1;simp at this;omega
 have x:cs[i]?=some p:=by rw[mP hi]at b;exact b
 have:=k i p x;have e:(zs++[z]).getD i 0=zs.getD i 0:=by simp[List.getD,eo hi]
 rw[e]at this;exact this
structure U7(i M:Nat)(v w:Int):Prop where
 ne:w≠0
 wb:w.natAbs≤20^i
 vb:v.natAbs≤i*(M*160000)
def U7.zero(M:Nat):U7 0 M 0 1:=⟨J,J,Y⟩
def U7.next{i M:Nat}{v w z s:Int}(h:U7 i M v w)(hi:i≤4)(a:z.natAbs≤M)(b:s.natAbs≤20)(c:s≠0):U7 (i+1) M (v+z*w) (w*s) where
 ne:=tN h.ne c
 wb:=by
  rw[eX,e_]
  exact dt h.wb b
 vb:=by
  have d:(20:Nat)^i≤160000:=aW (cI J hi) J
  have e:(z*w).natAbs≤M*160000:=by
   rw[eX]
   exact dt a (aW h.wb d)
  have f:=h.vb
  have g:=vU v (z*w)
  rw[Nz,Nat.one_mul]
  omega
def U7.quo{i M:Nat}{v w d:Int}(h:U7 i M v w)(hi:i≤5)(e:d.natAbs≤4398046511104)(a:10^14≤M):((d-v).tdiv w).natAbs≤M*10^6:=by(have f:((d-v).tdiv w).natAbs≤(d-v).natAbs:=by rw[Int.natAbs_tdiv];exact Wg _ _);have g:=h.vb;have j:i*(M*160000)≤5*(M*160000):=kh _ hi;have b:(10:Nat)^14=100000000000000:=J;have c:(10:Nat)^6=1000000:=J;rw[b]at a;rw[c];omega
def zr(k:Nat):Nat:=10^(14+6*k)
def zr.ge(k:Nat):10^14≤zr k:=cI J o
def zr.succ(k:Nat):zr (k+1)=zr k*10^6:=by unfold zr;rw[show 14+6*(k+1)=(14+6*k)+6 by omega,iE]
def zr.lt{k:Nat}(h:k≤6):zr k<10^60:=Nat.pow_lt_pow_right J o
def zr.fit{z:Int}{k c:Nat}(b:k≤6)(d:z.natAbs≤c*zr k)(hc:c≤10^9):cA z:=⟨69,o,by have e:=zr.lt b;have f:c*zr k≤10^9*zr k:=kh _ hc;have a:10^9*zr k<10^9*10^60:=Nat.mul_lt_mul_of_pos_left e (du J);rw[←iE]at a;exact fe d (fe f a)⟩
def U7.fit{i k:Nat}{v w:Int}(h:U7 i (zr k) v w)(hi:i≤6)(a:k≤6):cA v∧cA w:=⟨zr.fit a (c:=i*160000) (by have:=h.vb;rw[Nat.mul_assoc,Bc 160000];exact this) (aW (kh _ hi) J),⟨8,o,fe h.wb (fe (cI J hi) J)⟩⟩
def Jf(w:World)(vs:Value)(Ls:List (ae)):Prop:=∃rs:List Value,rs.length=Ls.length∧w.ownsRow 0 32 1 vs Ls.length rs∧∀i r,rs[i]?=some r→aR w r (Ls.getD i [])
def Jf.val{w:World}{vs:Value}{b:List (ae)}(h:Jf w vs b):∃a c,vs=.slice a b.length c:=T47
def Jf.at{w:World}{a:Option Addr}{c:Nat}{b:List (ae)}(h:Jf w (.slice a b.length c) b)(i:Nat)(hi:i<b.length):∃g d rc,a=some ⟨g,0,none⟩∧b.length≤c∧c≤maxLen∧g<w.heap.size∧w.cell? ⟨g,i,none⟩=some (.slice d (b.getD i []).length rc)∧aR w (.slice d (b.getD i []).length rc) (b.getD i []):=by obtain⟨rs,r,e,m⟩:=h;rcases e.2 with⟨_,s⟩|⟨g,cap,cur,f,t,n,p,q,_⟩;omega;simp only[jD,h_]at f;obtain⟨rfl,rfl⟩:=f;have j:rs[i]?=some rs[i]:=cj o;have k:=m i _ j;obtain⟨d,rc,l⟩:=ah.val k;refine⟨g,d,rc,rfl,p,q,(gf.1 n).1,?_,by rw[←l];exact k⟩;rw[e.cellAt i o,j,l]
def Jf.atk{w w':World}{a:Option Addr}{c:Nat}{b:List (ae)}(h:Jf w (.slice a b.length c) b){j:Nat}(l:mu w w' j none){f p v cs:Value}{tr:Int}(k:Sx w j f p v tr cs)(i:Nat)(hi:i<b.length):∃g d rc,a=some ⟨g,0,none⟩∧b.length≤c∧c≤maxLen∧g<w'.heap.size∧w'.cell? ⟨g,i,none⟩=some (.slice d (b.getD i []).length rc)∧aR w (.slice d (b.getD i []).length rc) (b.getD i []):=by obtain⟨g,d,rc,rfl,q,r,m,s,t⟩:=h.at i hi;refine⟨g,d,rc,rfl,q,r,dy m l.size,?_,t⟩;(have u:g≠j:=by obtain⟨rs,z,x,A⟩:=h;rcases x.2 with⟨e,_⟩|⟨g',cap,cur,n,_,y,_⟩;simp at e;simp at n;intro e;subst e;unfold Sx at k;rw[n.1,y]at k;simp at k);rw[Yw (a:=⟨g,i,none⟩) (l.block g m u Y)];exact s
def vw{P:Program}(w:World)(base:Nat)(t ty e:TypeId)(i:TypeInfo)(z:Value)(size bytes:Nat)(r:P.underlying t=some (.slice e))(hi:P.info? e=some i)(y:i.zero=some z)(A:i.size=size)(B:i.bytes=bytes)(f:z.cells.size=size)(G:0<size)(v:Value)(n:Nat)(xs:List Value)(h:w.ownsRow base e size v n xs)(a:Addr)(m c:Nat)(news:List Value)(l:news.length=m*size)(s:∀j u,news[j]?=some u→w.cell? (a.add j)=some u)(C:∀u∈news,u.oneCell'=true)(d:n+m≤maxLen)(D:(n+m)*bytes≤140737488355328)(E:base≤w.heap.size):∃p w',(Builtin.append_ #[t,t] ty #[v,.slice (some a) m c]).run P w=.ok p w'∧w'.ownsRow base e size p (n+m) (xs++news)∧w.grownBy w' v.ownBlock∧(∀k,p.ownBlock=some k→v.ownBlock=some k∨w.heap.size≤k):=by
 obtain⟨p,w',x,H,I,O⟩:=UX (P:=P) w base t ty e i z size bytes r hi y A B f G v n xs h a m c news l s C d D E;refine⟨p,w',x,H,I,?_⟩;rcases h.2 with⟨rfl,rfl⟩|⟨g,cap,cur,rfl,K,L,Q,R,M,N⟩;obtain⟨v2,w2,b,g2,_⟩:=UX (P:=P) w w.heap.size t ty e i z size bytes r hi y A B f G (.slice none 0 0) 0 xs ⟨h.1,.inl ⟨rfl,rfl⟩⟩ a m c news l s C d D (Z _);rw[x]at b;cases b;exact fun k hk=>.inr (jB g2 k hk).1;subst A;subst B;by_cases q:n+m≤cap;have F:n*i.size+news.length≤cur.size:=by rw[l,M,←Nz];exact kh _ q
 have b:=run_append_room (P:=P) w t ty e i r hi g n cap cur L a m c news l s C q F;rw[x]at b;cases b;exact fun k hk=>.inl hk;have S:n+m≤9223372036854775807:=by simp only[maxLen]at d;omega
 have holds:∀j u,xs[j]?=some u→w.cell? ((⟨g,0,none⟩:Addr).add j)=some u:=h.cells (g:=g) rfl;have b:=run_append_grow (P:=P) w t ty e i z r hi y ⟨g,0,none⟩ n cap xs h.1 holds a m c news l s o o (growslice_fits o D);rw[x]at b;cases b;exact fun k hk=>.inr ahO
def JA{o:Oper}{a:Act}{K:Act→World→Prop}{Q:Exit→Act→World→Prop}{wr:World}(s x:Operand)(f:o.op=.call {callee:=.builtin .append,args:=#[s,x],argTypes:=#[32,32]})(B:Nat)(v:Value)(zs:ae)(b:Bool)(y:Value)(z:Int)(g:a.eval s=v)(d:ah B wr v zs)(hz:cr wr (.agg #[.bool b,y]) z)(m:a.eval x=.slice (some ⟨wr.heap.size,0,none⟩) 1 1)(hlen:zs.length≤1000000000)(D:B≤wr.heap.size)(h:∀c w',ah B w' c (zs++[z])→wr.grownBy w' v.ownBlock→(∀k,c.ownBlock=some k→v.ownBlock=some k∨wr.heap.size≤k)→K (a.put o.dst c) w'):o.wp prog a (wr.alloc (.cells #[.bool b,y] 74)) K Q:=by obtain⟨i,hi,n,q,r⟩:=fS xA;have jq:=d.gO;obtain⟨cs,h1,t,w⟩:=d;have A:y.oneCell'=true:=aeI;obtain⟨c,w',hr,g1,g2,g3⟩:=vw (P:=prog) (wr.alloc (.cells #[.bool b,y] 74)) B 32 o.type 74 i (.agg #[.bool false,.slice none 0 0]) 2 32 iV hi n q r rfl J v zs.length (flat cs) (oq t _) ⟨wr.heap.size,0,none⟩ 1 1 [.bool b,y] rfl (vR wr (.bool b) y 74) (by intro u hu;simp at hu;rcases hu with rfl|rfl;rfl;exact A) mL ab aZ;have hg:wr.grownBy w' v.ownBlock:=ajZ;unfold Oper.wp execOp;simp only[f,resolve,invoke,builtin,Sem.run_bind,Sem.run_pure,Result.andThen_ok,List.map_toArray,pK,NA,g,m,hr];refine h c w' ⟨cs++[(b,y)],oM,?_,?_⟩ hg (fun k hk=>(g3 k hk).imp id (fun h=>by simp at h;omega));rw[jT];simpa[flat]using g1;intro j p hj;by_cases C:j<cs.length;rw[eo C]at hj;have uY:(zs++[z]).getD j 0=zs.getD j 0:=WO;rw[uY];exact(w j p hj).kept hg jq;rw[iN ab]at hj;have Fg:j-cs.length=0:=Qk;exact T85
def kS{w:World}{B a:Nat}{e:TypeId}{size:Nat}{v:Value}{n:Nat}{xs:List Value}(h:w.ownsRow B e size v n xs)(hB:a≤B):w.ownsRow a e size v n xs:=awp
def xe{P:Program}{o:Oper}{a:Act}{K:Act→World→Prop}{Q:Exit→Act→World→Prop}{w:World}(s x:Operand)(t:TypeId)(y:o.op=.call {callee:=.builtin .append,args:=#[s,x],argTypes:=#[t,t]})(e:TypeId)(i:TypeInfo)(z:Value)(size bytes:Nat)(A:P.underlying t=some (.slice e))(B:P.info? e=some i)(C:i.zero=some z)(D:i.size=size)(E:i.bytes=bytes)(F:z.cells.size=size)(G:0<size)(h:Option Addr)(n cap:Nat)(f:List Value)(H:a.eval s=.slice h n cap)(N:h=none→n=0∧cap=0)(g:f.length=n*size)(holds:∀b,h=some b→∀j u,f[j]?=some u→w.cell? (b.add j)=some u)(k:Addr)(m c:Nat)(news:List Value)(I:a.eval x=.slice (some k) m c)(L:news.length=m*size)(hc:∀j u,news[j]?=some u→w.cell? (k.add j)=some u)(l:∀u∈news,u.oneCell'=true)(p:cap<n+m)(b1:n+m≤maxLen)(b2:(n+m)*bytes≤140737488355328)(M:∀d w',w'.ownsRow w.heap.size e size d (n+m) (f++news)→w.grownBy w' none→K (a.put o.dst d) w'):o.wp P a w K Q:=by
 cases h with
 |some b=>obtain⟨d,w',q,r,v⟩:=run_append_arg_grows (P:=P) w t o.type e i z size bytes A B C D E F G b n cap f g (holds b rfl) k m c news L hc p b1 b2;unfold Oper.wp;simp[execOp,y,resolve,invoke,builtin,H,I,q,Result.andThen];exact M d w' r v
 |none=>obtain⟨rfl,rfl⟩:=N rfl;obtain rfl:f=[]:=Bg (by simpa using g);obtain⟨d,w',q,r,v,_⟩:=UX (P:=P) w w.heap.size t o.type e i z size bytes A B C D E F G (.slice none 0 0) 0 [] (Dk w _ e size) k m c news L hc l b1 b2 (Z _);unfold Oper.wp;simp[execOp,y,resolve,invoke,builtin,H,I,q,Result.andThen];exact M d w' r v
def Ar{P:Program}{o:Oper}{a:Act}{K:Act→World→Prop}{Q:Exit→Act→World→Prop}{w:World}(s x:Operand)(t:TypeId)(n:o.op=.call {callee:=.builtin .append,args:=#[s,x],argTypes:=#[t,t]})(e:TypeId)(i:TypeInfo)(z:Value)(size bytes:Nat)(p:P.underlying t=some (.slice e))(q:P.info? e=some i)(D:i.zero=some z)(E:i.size=size)(F:i.bytes=bytes)(G:z.cells.size=size)(H:0<size)(k:Nat)(d:List Value)(r:a.eval s=.slice (some ⟨k,0,none⟩) 1 1)(v:w.heap[k]?=some (.cells d.toArray e (0,0)))(y:d.length=size)(f:Option Addr)(m c:Nat)(news:List Value)(A:a.eval x=.slice f m c)(I:f=none→m=0∧c=0)(hn:news.length=m*size)(hc:∀b,f=some b→∀j u,news[j]?=some u→w.cell? (b.add j)=some u)(b1:1+m≤maxLen)(b2:(1+m)*bytes≤140737488355328)(B:∀h w',w'.ownsRow k e size h (1+m) (d++news)→w.grownBy w' none→K (a.put o.dst h) w'):o.wp P a w K Q:=by
 have N:=(gf.1 v).1;have C:w.ownsRow k e size (.slice (some ⟨k,0,none⟩) 1 1) 1 d:=⟨ab,.inr ⟨k,1,d.toArray,rfl,Z _,v,Z _,oT,by simp[y],by simp[←y]⟩⟩;rcases j5 m with hm|hm;subst hm;obtain rfl:news=[]:=Bg Mi;have l:(Builtin.append_ #[t,t] o.type #[.slice (some ⟨k,0,none⟩) 1 1,.slice f 0 c]).run P w=.ok (.slice (some ⟨k,0,none⟩) 1 1) w:=by cases f<;>simp[Builtin.append_,run_underlying p,sizeOf,typeInfo,q,Builtin.lenOf,Builtin.firstCells,loadCells,loadCellsFrom,storeCells]
 unfold Oper.wp;simp[execOp,n,resolve,invoke,builtin,r,A,l,Result.andThen];exact B _ _ (by simpa using C) ⟨rfl,rfl,rfl,Z _,fun _ _ _=>rfl⟩
 ·cases f with
  |none=>have:=I rfl;omega
  |some b=>obtain⟨h,w',l,L,M⟩:=run_append_arg_grows (P:=P) w t o.type e i z size bytes p q D E F G H ⟨k,0,none⟩ 1 1 d ab (C.cells (g:=k) rfl) b m c news hn (hc b rfl) ab b1 b2;unfold Oper.wp;simp[execOp,n,resolve,invoke,builtin,r,A,l,Result.andThen];exact B h w' (kS L ab) M
def ux{w:World}{B g cap n size:Nat}{e:TypeId}{xs:List Value}(h:w.ownsRow B e size (.slice (some ⟨g,0,none⟩) n cap) n xs)(i:Nat)(hi:i≤n):(xs.take (i*size)).length=i*size∧(xs.drop (i*size)).length=(n-i)*size∧(∀b,some (⟨g,0,none⟩:Addr)=some b→∀j u,(xs.take (i*size))[j]?=some u→w.cell? (b.add j)=some u)∧(∀b,some (⟨g,i*size,none⟩:Addr)=some b→∀j u,(xs.drop (i*size))[j]?=some u→w.cell? (b.add j)=some u):=by
 have d:=h.1;have hc:=h.cells (g:=g) rfl;have hm:i*size≤n*size:=kh _ hi;refine⟨by rw[mN,d,FR hm],by simp[d,Nat.sub_mul],?_,?_⟩;rintro b a j u hu;cases a;refine hc j u ?_;rcases aX j (i*size)with f|f;rw[mP f]at hu;exact hu;rw[dF aZ]at hu;cases hu;rintro b a j u hu;cases a;rw[rk]at hu;have:=hc (i*size+j) u hu;have k:(⟨g,0,none⟩:Addr).add (i*size+j)=⟨g,i*size+j,none⟩:=by unfold Addr.add;split;rename_i c;rw[c];simp
 have l:(⟨g,i*size,none⟩:Addr).add j=⟨g,i*size+j,none⟩:=by unfold Addr.add;split;rename_i c;rw[c];rfl;rfl
 rw[l,←k];exact this
def sM{w:World}{B n size:Nat}{e:TypeId}{v:Value}{xs:List Value}(h:w.ownsRow B e size v n xs)(a:0<n):∃g c,v=.slice (some ⟨g,0,none⟩) n c∧∀j u,xs[j]?=some u→w.cell? ((⟨g,0,none⟩:Addr).add j)=some u:=by rcases h.2 with⟨_,b⟩|⟨g,cap,cur,rfl,_⟩;omega;exact⟨g,cap,rfl,h.cells (g:=g) rfl⟩
def KQ{w:World}{g i o pc n size:Nat}{xs:List Value}(a:(xs.drop (i*size)).length=(n-i)*size)(c:∀b,some (⟨g,i*size,none⟩:Addr)=some b→∀j u,(xs.drop (i*size))[j]?=some u→w.cell? (b.add j)=some u)(e:n≤pc)(d:o=if pc=i then 0 else i*size):∀b,some (⟨g,o,none⟩:Addr)=some b→∀j u,(xs.drop (i*size))[j]?=some u→w.cell? (b.add j)=some u:=by by_cases h:pc=i;intro b _ j u hu;(have:(xs.drop (i*size)).length=0:=by rw[a,show n-i=0 by omega];simp);rw[dF ab]at hu;cases hu;rw[d,U h];exact c
def aN.ins{w:World}{B i:Nat}{v:Value}{A:ae}(hi:i≤A.length){a:Int}(h:w.ownsRow B 3 1 v (i+(1+(A.length-i))) ((A.map (Value.int .i64)).take (i*1)++([.int .i64 a]++(A.map (Value.int .i64)).drop (i*1)))):aN w v (A.take i++a::A.drop i):=by unfold aN;have e:(A.take i++a::A.drop i).length=i+(1+(A.length-i)):=aZ;rw[e];have b:=kS h (aU B);simpa[WL,List.map_drop]using b
def ES:∀(cs:List (Bool×Value)) (i:Nat),(flat cs).drop (i*2)=flat (cs.drop i)
| [],i=>BG
|p::cs,0=>BG
|p::cs,i+1=>by rw[show(i+1)*2=i*2+1+1 by omega];simp[flat,ES cs i]
def IK{α:Type}(l:List α)(i:Nat)(hi:i≤l.length)(x:α)(j:Nat):(l.take i++x::l.drop i)[j]?=if j<i then l[j]? else if j=i then some x else l[j-1]?:=by by_cases a:j<i;rw[V a,eo aZ,mP a];rw[U a,iN aZ];have e:j-(l.take i).length=j-i:=aZ;rw[e];by_cases b:j=i;rw[V b,b];simp;rw[U b,show j-i=(j-i-1)+1 by omega,aff,rk];congr 1;omega
def aR.ins{w w':World}{B i:Nat}{v:Value}{S:ae}{cs:List (Bool×Value)}(k:cs.length=S.length)(hi:i≤S.length)(f:∀j p,cs[j]?=some p→cr w (.agg #[.bool p.1,p.2]) (S.getD j 0))(d:Below w.heap.size w w'){b:Bool}{y:Value}{z:Int}(l:cr w (.agg #[.bool b,y]) z)(h:w'.ownsRow B 74 2 v (i+(1+(S.length-i))) ((flat cs).take (i*2)++([.bool b,y]++(flat cs).drop (i*2)))):aR w' v (S.take i++z::S.drop i):=by have e:(S.take i++z::S.drop i).length=i+(1+(S.length-i)):=aZ;refine⟨cs.take i++(b,y)::cs.drop i,by simp[k],?_,?_⟩;rw[e];have c:=kS h (aU B);rw[y7,ES]at c;rw[jT];simpa[flat]using c;intro j p a;rw[IK cs i o]at a;rw[jV,IK S i hi];by_cases g:j<i;rw[V g]at a ⊢;have:=f j p a;rw[jV]at this;exact this.E d;rw[U g]at a ⊢;by_cases c:j=i;rw[V c]at a ⊢;cases a;exact l.E d;rw[U c]at a ⊢;have:=f _ p a;rw[jV]at this;exact this.E d
def YA{w:World}{cs:List (Bool×Value)}{S:ae}(h:∀(j:Nat)(p:Bool×Value),cs[j]?=some p→cr w (.agg #[.bool p.1,p.2]) (S.getD j 0)):∀u,u∈flat cs→u.oneCell'=true:=by
 have a:∀p,p∈cs→p.2.oneCell'=true:=fun p c=>by obtain⟨j,d⟩:=vA c;obtain⟨b,x,l,e,f,_⟩:=h j p d;simp at e;obtain⟨m,n,g⟩:=f.val;rw[e.2,g];rfl
 clear h;induction cs with
 |nil=>intro u hu;cases hu
 |cons p cs i=>intro u hu;rcases ep.1 hu with rfl|hu;rfl;rcases ep.1 hu with rfl|hu;exact a p (dh ..);exact i (fun q k=>a q (eh _ k)) u hu
def Zb(S:ae)(n:Nat):Prop:=S.length=n∧∀x,x∈S→x.natAbs<10^28
def Zb.zero:Zb [] 0:=⟨rfl,fun x h=>ji⟩
def Zb.next{S:ae}{n:Nat}(h:Zb S n){i:Nat}(hi:i≤n){z:Int}(b:z.natAbs<10^28):Zb (S.take i++z::S.drop i) (n+1):=by refine⟨by have:=h.1;simp;omega,fun x c=>?_⟩;rcases fo.1 c with a|a;exact h.2 x (s8 a);rcases ep.1 a with rfl|a;exact b;exact h.2 x (Ia a)
def Zb.fit{S:ae}{n:Nat}(h:Zb S n)(j:Nat):cA (S.getD j 0):=by refine⟨28,o,?_⟩;by_cases a:j<S.length;refine h.2 _ ?_;rw[jV,cj a];exact jl a;rw[jV,dF o];decide
def Rob(w:World)(sk:Nat)(ka kv:Option Nat)(P:World→Prop):Prop:=∀w':World,(∀g,g<w.heap.size→g≠sk→some g≠ka→some g≠kv→w'.heap[g]?=w.heap[g]?)→P w'
structure L3(W9 w:World)(sk:Nat)(f av vv:Value)(A:ae)(Ls:List (ae)):Prop where
 s:Sx w sk f av vv 0 (.slice none 0 0)
 a:br W9.heap.size w av A
 v:∃rs:List Value,rs.length=Ls.length∧w.ownsRow W9.heap.size 32 1 vv Ls.length rs∧∀(i:Nat)(r:Value),rs[i]?=some r→Rob w sk av.ownBlock vv.ownBlock fun w'=>aR w' r (Ls.getD i [])
 d:∀i,aaJ (Ls.getD i [])
 k:mu W9 w sk none
def L3.start{w:World}{a:Nat}{f:Value}(h:Sx w a f (.slice none 0 0) (.slice none 0 0) 0 (.slice none 0 0)):L3 w w a f (.slice none 0 0) (.slice none 0 0) [] []:=⟨h,br.kF _ _,⟨[],rfl,Dk w _ _ _,fun i r b=>by simp at b⟩,fun i=>⟨Y,fun k=>Y⟩,mu.refl _ _ _⟩
def L3.E{e w w':World}{b:Nat}{f j l:Value}{A:ae}{m:List (ae)}(h:L3 e w b f j l A m)(a:Below w.heap.size w w'):L3 e w' b f j l A m:=by obtain⟨rs,p,q,s⟩:=h.v;refine⟨h.s.E a,h.a.E a,⟨rs,p,gJ q a,fun i r t c d=>s i r t c fun g n g1 g2 g3=>?_⟩,h.d,h.k.trans (mu.nH a b none) (fun k hk=>rV)⟩;rw[d g (dy n a.size) g1 g2 g3,a.block g n]
def L3.vs{c w:World}{d:Nat}{f e a:Value}{A:ae}{b:List (ae)}(h:L3 c w d f e a A b):Jf w a b:=by obtain⟨rs,g,j,k⟩:=h.v;exact⟨rs,g,kS j (aU _),fun i r l=>k i r l w fun _ _ _ _ _=>rfl⟩
def kD{w:World}{B n s:Nat}{e:TypeId}{v:Value}{xs:List Value}(h:w.ownsRow B e s v n xs):∀k,v.ownBlock=some k→B≤k∧k<w.heap.size∧∃cur,w.heap[k]?=some (.cells cur e (0,0)):=by intro k a;rcases h.2 with⟨c,_⟩|⟨g,cap,cur,d,f,b,_⟩;rw[c]at a;simp[Value.ownBlock]at a;rw[d]at a;simp[Value.ownBlock]at a;subst a;exact⟨f,(gf.1 b).1,cur,b⟩
def iJ{w w':World}{B n s:Nat}{e:TypeId}{v:Value}{xs:List Value}(h:w.ownsRow B e s v n xs)(b:∀k cur,k<w.heap.size→w.heap[k]?=some (Obj.cells cur e (0,0))→w'.heap[k]?=w.heap[k]?):w'.ownsRow B e s v n xs:=by refine⟨h.1,?_⟩;rcases h.2 with c|⟨g,cap,cur,d,f,a,r⟩;exact .inl c;exact .inr ⟨g,cap,cur,d,f,by rw[b g cur (gf.1 a).1 a];exact a,r⟩
def Sx.sx1{w:World}{b:Nat}{f a vs cs:Value}{tr:Int}(h:Sx w b f a vs tr cs)(u:Value):Sx (w.setCell ⟨b,1,none⟩ u) b f u vs tr cs:=by unfold Sx at h ⊢;rw[gI w b _ _ _ _ h];rfl
def Sx.sx2{w:World}{b:Nat}{f a vs cs:Value}{tr:Int}(h:Sx w b f a vs tr cs)(u:Value):Sx (w.setCell ⟨b,2,none⟩ u) b f a u tr cs:=by unfold Sx at h ⊢;rw[gI w b _ _ _ _ h];rfl
def Sx.beside{w w':World}{b:Nat}{f a vs cs:Value}{tr:Int}(h:Sx w b f a vs tr cs){B n s:Nat}{e:TypeId}{v:Value}{xs:List Value}(c:w.ownsRow B e s v n xs)(he:e≠158)(d:w.grownBy w' v.ownBlock):Sx w' b f a vs tr cs:=by unfold Sx;rw[d.block b h.lt];exact h;intro g;obtain⟨_,_,cur,hc⟩:=kD c b g.symm;unfold Sx at h;rw[h]at hc;simp at hc;exact he hc.2.symm
def xj{w:World}{b:Nat}{f a vs cs:Value}{tr:Int}(g:Sx w b f a vs tr cs){B n s:Nat}{e:TypeId}{v:Value}{xs:List Value}(h:w.ownsRow B e s v n xs)(he:e≠158)(j:Nat)(u:Value):(w.setCell ⟨b,j,none⟩ u).ownsRow B e s v n xs:=iJ h fun k cur _ c=>e9 _ _ _ _ (fun d=>by have d:k=b:=d;subst d;unfold Sx at g;rw[g]at c;simp at c;exact he c.2.symm)
def L3.setAt{l w:World}{b:Nat}{f d m:Value}{A:ae}{q:List (ae)}(h:L3 l w b f d m A q){w':World}{a:Value}{x:Int}(v:br l.heap.size w' a (A++[x]))(c:w.grownBy w' d.ownBlock)(y:∀k,a.ownBlock=some k→d.ownBlock=some k∨w.heap.size≤k):Sx w' b f d m 0 (.slice none 0 0)∧L3 l (w'.setCell ⟨b,1,none⟩ a) b f a m (A++[x]) q:=by obtain⟨rs,z,B,C⟩:=h.v;have j:=h.s.beside h.a J c;have D:(w'.setCell ⟨b,1,none⟩ a).heap.size=w'.heap.size:=xm;refine⟨j,j.sx1 a,xj j v J _ _,⟨rs,z,?_,?_⟩,h.d,?_⟩;refine xj j (iJ B fun k cur hk hc=>c.block k hk fun e=>?_) J _ _;obtain⟨_,_,G,s⟩:=kD h.a k e.symm;rw[hc]at s;simp at s;intro i r E n p;refine C i r E n fun g t g1 g2 g3=>?_;(have F:some g≠a.ownBlock:=fun e=>by rcases y g e.symm with u|u;exact g2 u.symm;omega);rw[p g (by rw[D];exact dy t c.size) g1 F g3];rw[show(w'.setCell ⟨b,1,none⟩ a).heap[g]?=w'.heap[g]? from e9 _ _ _ _ g1];exact c.block g t g2;refine(h.k.trans (mu.C4 c b) fun k hk H=>?_).trans (mu.vH w' b 1 a none) (fun k hk=>rV);obtain⟨I,_⟩:=kD h.a k hk;omega
def IB{o:Oper}{a:Act}{K:Act→World→Prop}{Q:Exit→Act→World→Prop}{wr:World}(s x:Operand)(d:o.op=.call {callee:=.builtin .append,args:=#[s,x],argTypes:=#[72,72]})(B:Nat)(v:Value)(l:ae)(y:Int)(e:a.eval s=v)(f:br B wr v l)(g:a.eval x=.slice (some ⟨wr.heap.size,0,none⟩) 1 1)(hlen:l.length≤1000000000)(t:B≤wr.heap.size)(h:∀b w',br B w' b (l++[y])→wr.grownBy w' v.ownBlock→(∀k,b.ownBlock=some k→v.ownBlock=some k∨wr.heap.size≤k)→K (a.put o.dst b) w'):o.wp prog a (wr.alloc (.cells #[.int .i64 y] 3)) K Q:=by
 obtain⟨i,hi,m,n,p⟩:=fS mi;obtain⟨b,w',q,g1,g2,g3⟩:=vw (P:=prog) (wr.alloc (.cells #[.int .i64 y] 3)) B 72 o.type 3 i (.int .i64 0) 1 8 eV hi m n p rfl J v l.length (l.map (Value.int .i64)) (oq f _) ⟨wr.heap.size,0,none⟩ 1 1 [.int .i64 y] rfl (by
  intro j u c;cases j with
  |zero=>simp at c;subst c;simp[Addr.add]
  |succ j=>simp at c) (by intro u hu;simp at hu;subst hu;rfl) mL ab aZ
 have r:wr.grownBy w' v.ownBlock:=by have h0:=vk wr (.cells #[.int .i64 y] 3) v.ownBlock;exact PZ
 unfold Oper.wp execOp;simp only[d,resolve,invoke,builtin,Sem.run_bind,Sem.run_pure,Result.andThen_ok,List.map_toArray,pK,NA,e,g,q];refine h b w' ?_ r (fun k hk=>(g3 k hk).imp id (fun h=>by simp at h;omega));unfold br;simpa using g1
def Ye:(prog.info? 32).map (fun i=>(i.zero,i.size,i.bytes))=some (some (.slice none 0 0),1,24):=aw
def Rr:prog.underlying 156=some (.slice 32):=aw
def DT{ops:Array Oper}{rest:List Oper}{o:Oper}{a:Act}{Q:Exit→Act→World→Prop}{wr:World}(wA:o.guard=none)(s x:Operand)(ho:o.op=.call {callee:=.builtin .append,args:=#[s,x],argTypes:=#[156,156]}){D:World}{l:Nat}{f q n:Value}{A:ae}{c:List (ae)}(h:L3 D wr l f q n A c){B C:Nat}{r:Value}{L:ae}(O:gv C B wr r L)(E:B≤C)(hd:aaJ L)(XE:l<B)(F:∀k,q.ownBlock=some k→k<B)(KY:∀k,n.ownBlock=some k→k<B)(hs:a.eval s=n)(hx:a.eval x=.slice (some ⟨wr.heap.size,0,none⟩) 1 1)(hlen:c.length≤1000)(hK:∀d w',Sx w' l f q n 0 (.slice none 0 0)→L3 D (w'.setCell ⟨l,2,none⟩ d) l f q d A (c++[L])→wpList prog ops Q rest (a.put o.dst d) w'):wpList prog ops Q (o::rest) a (wr.alloc (.cells #[r] 32)):=by
 obtain⟨i,hi,eI,gP,iw⟩:=fS Ye;obtain⟨m,w⟩:∃m,wr.alloc (.cells #[r] 32)=m:=⟨_,rfl⟩;have P:Below wr.heap.size wr m:=by rw[←w];exact ai _ _
 have iB:m.cell? ⟨wr.heap.size,0,none⟩=some r:=by(have hn:m.heap[wr.heap.size]?=some (.cells #[r] 32 (0,0)):=by rw[←w];exact fL wr _);simp[World.cell?,hn]
 have hz:m.heap.size=wr.heap.size+1:=by rw[←w];simp
 rw[w];have h:=h.E P;obtain⟨ra,rc,G⟩:=ah.val O.ln;have uL:=O.E P;obtain⟨rs,h1,y,h3⟩:=h.v;have H:=h.k.size;refine Mt _ wA s x 156 ho D.heap.size 32 i (.slice none 0 0) 1 24 Rr hi eI gP iw rfl J n c.length rs hs y ⟨wr.heap.size,0,none⟩ 1 1 [r] hx rfl ?_ ?_ mL ab H ?_
 ·intro j u b;cases j with
  |zero=>simp at b;subst b;simpa[Addr.add]using iB
  |succ j=>simp at b
 intro u hu;simp at hu;rw[hu,G];rfl;intro d w' g1 g2 _ g4;have z:=h.s.beside y J g2;have hl:∀k,d.ownBlock=some k→n.ownBlock=some k∨m.heap.size≤k:=fun k hk=>by rcases g4 with g4|g4;exact .inl (g4▸hk);rw[g4]at hk;exact .inr (by cases hk;exact Z _)
 have mx:(w'.setCell ⟨l,2,none⟩ d).heap.size=w'.heap.size:=xm;refine hK d w' z ⟨z.sx2 d,xj z ?_ J _ _,⟨rs++[r],oM,?_,?_⟩,?_,?_⟩;refine iJ h.a fun k cur hk hc=>g2.block k hk fun e=>?_;obtain⟨_,_,mJ,R⟩:=kD y k e.symm;rw[hc]at R;simp at R;have:=xj z g1 J 2 d;simpa using this;intro j p b t I;have v:∀g,g<m.heap.size→g≠l→some g≠q.ownBlock→some g≠n.ownBlock→t.heap[g]?=m.heap[g]?:=fun g S K M T=>by(have aF:some g≠d.ownBlock:=fun e=>by rcases hl g e.symm with W|W;exact T W.symm;omega);rw[I g (by rw[mx];exact dy S g2.size) K M aF];rw[show(w'.setCell ⟨l,2,none⟩ d).heap[g]?=w'.heap[g]? from e9 _ _ _ _ K];exact g2.block g S T
 by_cases vx:j<rs.length;rw[eo vx]at b;have N:(c++[L]).getD j []=c.getD j []:=by simp[List.getD,eo (show j<c.length by omega)]
 rw[N];exact h3 j p b t v;rw[iN ab]at b;have Fg:j-rs.length=0:=by rcases j5 (j-rs.length)with X|X;exact X;rw[dF aZ]at b;simp at b
 rw[Fg]at b;simp at b;subst b;have N:(c++[L]).getD j []=L:=by rw[show j=c.length by omega];simp[List.getD]
 rw[N];refine uL.rob E fun g K M=>v g M ab (fun e=>?_) (fun e=>?_);have:=F g e.symm;omega;have:=KY g e.symm;omega;intro j;rcases aX j c.length with b|b;rw[show(c++[L]).getD j []=c.getD j [] by simp[List.getD,eo b]];exact h.d j;rcases Nat.eq_or_lt_of_le b with b|b;rw[show(c++[L]).getD j []=L by rw[←b];simp[List.getD]];exact hd;rw[show(c++[L]).getD j []=[] by simp[List.getD];rw[dF aZ];rfl];exact⟨Y,fun k=>Y⟩;refine(h.k.trans (mu.C4 g2 l) fun k hk aM=>?_).trans (mu.vH w' l 2 d none) (fun k hk=>rV);obtain⟨hb,_⟩:=kD y k hk;omega
def Hp{z:Int}(h:Lib.nDigits z.natAbs≤30):cA z:=by refine⟨30,o,?_⟩;have a:=Nq z.natAbs;have b:10^Lib.nDigits z.natAbs≤10^30:=cI o h;omega
def Q9(zs:ae)(v:Value)(w:World)(h:aR w v zs)(x:zs.length≤11)(n:∀i,i<zs.length→Lib.nDigits (zs.getD i 0).natAbs≤30):Calls prog 41 #[v] w fun e w'=>e=.returned (.string ⟨(gG zs).toArray⟩)∧Below w.heap.size w w':=by
 obtain⟨A,B,rfl⟩:=ah.val h;have p:Hid _:=n;clear n;obtain⟨T,Zs⟩:∃T,Hid (gG zs=T):=⟨_,rfl⟩;rw[Zs.O];go_enter func41,ntmps41;go_wp2_with fail;go_loopw [3,4] (fun t i wr=>∃(k m:Nat)(d:List UInt8),k+m=zs.length∧i=.int .i64 ((k:Int)-1)∧t=.string ⟨d.toArray⟩∧d.length≤40*m∧Hid (DZ zs zs.length m=d)∧Below w.heap.size w wr) (fun _ i _=>(intOf i+1).toNat);case atStart=>exact⟨zs.length,0,[],o,rfl,rfl,Y,rfl,aL _ _⟩
 case round=>
  obtain⟨k,m,d,C,rfl,rfl,q,HE,af⟩:=hrel;cases k with
  |zero=>exact ajY
  |succ j=>rw[show(((j+1:Nat):Int)-1)=(j:Int) by omega];have hjm:zs.length-1-m=j:=o;obtain⟨g,b,xa,xn,xc,rfl,D,F,G,_,H,I,hI⟩:=ah.at (ah.E h af) j o;obtain⟨z,HZ⟩:∃z,Hid (zs.getD j 0=z):=⟨_,rfl⟩;have vL:=p.O j (show j<zs.length by omega);rw[HZ.O]at hI vL;have r:=Hp vL;have gR:Hid (DZ zs zs.length (m+1)=stepT d z j):=anl;have qF:=wg (t:=d) (c:=z) (k:=j) o vL;have hS:=fun(W:World) (g:cr W (.agg #[.bool b,.slice xa xn xc]) z)=>jg _ z W g;by_cases hz:z=0;rw[fR hz]at hS;(have xy:stepT d z j=d:=by simp[stepT,hz]);exact T70;rw[fu hz]at hS;have JL:stepT d z j=d++il (decide (z<0)) d.isEmpty++gF z.natAbs j:=Uq;rw[JL]at gR qF;have zL:(d=[]∧b=true∧il (decide (z<0)) d.isEmpty=[45])∨(d=[]∧b=false∧il (decide (z<0)) d.isEmpty=[])∨(d.isEmpty=false∧b=true∧il (decide (z<0)) d.isEmpty=[32,45,32])∨(d.isEmpty=false∧b=false∧il (decide (z<0)) d.isEmpty=[32,43,32]):=auX;have hA:=fun(W:World) (g:cr W (.agg #[.bool b,.slice xa xn xc]) z)=>tD _ z W g;have f:cA (z.natAbs:Int):=r.le Y;have hT:=fun(W:World) (u:Value) (g:cr W u (z.natAbs:Int))=>qA u (z.natAbs:Int) W g f;rw[xU]at hT;have hO:=fun(W:World)=>dT (j:Int) W o;have La:=fun(W:World) (u:Value) (g:cr W u (j:Int))=>qA u (j:Int) W g ⟨2,o,aZ⟩;rw[xU]at La;have R3:gF z.natAbs j=if j=0 then Lib.decDigits z.natAbs else if Lib.decDigits z.natAbs=[49]then uU j else Lib.decDigits z.natAbs++[42]++uU j:=rfl;have hvt:uU j=if 1<j then[120,94]++Lib.decDigits j else[120]:=rfl;have s:(Lib.decDigits z.natAbs).length≤30:=SZ;exact T2
def abq{xs a:ae}(d:Tr xs)(ty:Tr a):tz (f_ xs (a.map fun z=>-z) (max xs.length (a.map fun z=>-z).length))=[]↔xs=a:=by(have c:∀k,(tz (f_ xs (a.map fun z=>-z) (max xs.length (a.map fun z=>-z).length))).getD k 0=xs.getD k 0-a.getD k 0:=fun k=>by(have e:(a.map fun z=>-z).getD k 0=-(a.getD k 0):=by rw[jV,q_,jV];cases a[k]?<;>simp);rw[bN];have:f_ xs (a.map fun z=>-z) (max xs.length (a.map fun z=>-z).length)=eg (max xs.length (a.map fun z=>-z).length) fun k=>xs.getD k 0+(a.map fun z=>-z).getD k 0:=rfl;rw[this,cB];by_cases b:k<max xs.length (a.map fun z=>-z).length;rw[V b,e];omega;rw[U b,au (l:=xs) o,au (l:=a) (by rw[mT]at b;omega)];rfl);constructor;intro h;refine d.ext ty fun k=>?_;have:=c k;rw[h]at this;have f:([]:ae).getD k 0=0:=rfl;omega;rintro rfl;exact(eS _).ext Tr.nil fun k=>by rw[c k];simp
def ss.neg{zs:ae}(h:ss zs):ss (zs.map fun z=>-z):=fun k=>by(have a:(zs.map fun z=>-z).getD k 0=-(zs.getD k 0):=by rw[jV,q_,jV];cases zs[k]?<;>simp);rw[a];obtain⟨n,b,c⟩:=h k;exact⟨n,b,o⟩
def Ff(xs b:ae)(u v:Value)(w:World)(hu:aR w u xs)(f:aR w v b)(m:xs.length≤1000000)(hm:b.length≤1000000)(p:ss xs)(g:ss b)(q:Tr xs)(ty:Tr b):Calls prog 85 #[u,v] w fun e w'=>e=.returned (.bool (decide (xs=b)))∧Below w.heap.size w w':=by
 obtain⟨r,s,rfl⟩:=ah.val hu;obtain⟨L,M,rfl⟩:=ah.val f;have t:=rC b _ w f hm g;have y:Hid _:=fun(W:World) (x:Value) (A:Below w.heap.size w W) (B:aR W x (b.map fun z=>-z))=>ju xs (b.map fun z=>-z) (.slice r xs.length s) x W (ah.E hu A) B m (by rw[mT];exact hm) p g.neg;have i:decide (xs=b)=decide (tz (f_ xs (b.map fun z=>-z) (max xs.length (b.map fun z=>-z).length))=[]):=F2.2 (abq q ty).symm;rw[i];have d:Hid ((b.map fun z=>-z).length≤1000000):=by show _≤_;rw[mT];exact hm
 generalize(b.map fun z=>-z)=c at*;clear i;have hle:(tz (f_ xs c (max xs.length c.length))).length≤1000000:=by refine aW (fY (n:=max xs.length c.length) fun k C=>au (by rw[yX];exact C)) ?_;have:=d.O;omega
 generalize tz (f_ xs c (max xs.length c.length))=S at*;go_enter func85,ntmps85;go_wp2_with fail;refine t.mono ?_;rintro e D ⟨E,rfl,F,j⟩;go_wp2_with fail;refine(y.O D E j F).mono ?_;rintro e w2 ⟨N,rfl,G,H⟩;obtain⟨O,sc,rfl⟩:=ah.val G;have I:=j.tr H;have K:Hid (decide (S=[])=((S.length:Int)==0)):=by
  show _=_;cases S with
  |nil=>rfl
  |cons a l=>have h:¬((l.length:Int)+1=0):=o;simp[h]
 go_wp2;go_ret;rw[K.O];exact⟨by first|rfl|simp,I⟩
end Go.Proofs.YtldcjkhbiffdoaaGreatDoor
