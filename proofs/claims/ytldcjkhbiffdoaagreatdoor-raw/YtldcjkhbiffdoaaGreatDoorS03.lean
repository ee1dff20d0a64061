import Derived.Test.YtldcjkhbiffdoaaGreatDoorProg
import Derived.Test.YtldcjkhbiffdoaaGreatDoorS02
import Derived.WalkKit
import Derived.WalkSpells
import Derived.WalkLawsBesides
import Derived.OwnWalk
import Derived.Laws.CopyOwn
import Derived.Deep.RegionHeld3
import Derived.Deep.QuietTactic
import Derived.BigQuiet
import Derived.BigRegion
import Derived.Test.YtldcjkhbiffdoaaGreatDoorS01
set_option maxRecDepth 100000
set_option maxHeartbeats 40000000
set_option linter.unusedSimpArgs false
set_option linter.defProp false
namespace Go.Proofs.YtldcjkhbiffdoaaGreatDoor
open Go.RowKit Go.Proofs.Tryz
def Row(w:World)(v:Value)(l:ae):Prop:=w.ownsRow 0 2 1 v l.length (l.map (Value.int .i64))
def Row.form{w:World}{v:Value}{l:ae}(h:Row w v l):(v=.slice none 0 0∧l=[])∨∃g cap,v=.slice (some ⟨g,0,none⟩) l.length cap∧l.length≤cap∧cap≤maxLen∧g<w.heap.size∧(∀i,i<l.length→w.cell? ⟨g,i,none⟩=some (.int .i64 (l.getD i 0))):=by rcases h.2 with⟨b,c⟩|⟨g,cap,cur,a,k,d,e,f,m,n⟩;exact .inl ⟨b,Bg c⟩;refine .inr ⟨g,cap,a,e,f,(gf.1 d).1,fun i hi=>?_⟩;have j:w.ownsRow 0 2 1 (.slice (some ⟨g,0,none⟩) l.length cap) l.length (l.map (Value.int .i64)):=a▸h;rw[j.cellAt i o];simp[hi,List.getD]
def Row.val{w:World}{v:Value}{l:ae}(h:Row w v l):∃a c,v=.slice a l.length c:=by rcases h.form with⟨rfl,rfl⟩|⟨g,cap,rfl,_⟩;exact⟨_,_,rfl⟩;exact⟨_,_,rfl⟩
def Row.at{w:World}{a:Option Addr}{c:Nat}{l:ae}(h:Row w (.slice a l.length c) l)(i:Nat)(hi:i<l.length):∃g,a=some ⟨g,0,none⟩∧l.length≤c∧c≤maxLen∧g<w.heap.size∧w.cell? ⟨g,i,none⟩=some (.int .i64 (l.getD i 0)):=arO
def Row.E{w w':World}{v:Value}{l:ae}(h:Row w v l)(hb:Below w.heap.size w w'):Row w' v l:=T80
def Own(B:Nat)(w:World)(v:Value)(l:ae):Prop:=w.ownsRow B 2 1 v l.length (l.map (Value.int .i64))
def Own.row{B:Nat}{w:World}{v:Value}{l:ae}(h:Own B w v l):Row w v l:=awE
def Own.block{B:Nat}{w:World}{v:Value}{l:ae}(h:Own B w v l):∀k,v.ownBlock=some k→B≤k:=fun k a=>(jB h k a).1
def Own.lit{w:World}{n:Nat}(h:w.heap.size=n):Own n (w.alloc (.cells #[] 2)) (.slice (some ⟨n,0,none⟩) 0 0) []:=by subst h;exact Hf w #[] 0 (Z _) oT rfl
def FB:(prog.info? 2).map (fun i=>(i.zero,i.size,i.bytes))=some (some (.int .i64 0),1,8):=aw
def xH:prog.underlying 103=some (.slice 2):=aw
def zT{ops:Array Oper}{rest:List Oper}{o:Oper}{a:Act}{Q:Exit→Act→World→Prop}{wr:World}(f:o.guard=none)(s x:Operand)(g:o.op=.call {callee:=.builtin .append,args:=#[s,x],argTypes:=#[103,103]})(B:Nat)(v:Value)(l:ae)(y:Int)(m:a.eval s=v)(d:Own B wr v l)(n:a.eval x=.slice (some ⟨wr.heap.size,0,none⟩) 1 1)(hlen:l.length≤1000000000000)(p:B≤wr.heap.size)(h:∀b w',Own B w' b (l++[y])→Below B wr w'→wr.grownBy w' v.ownBlock→wpList prog ops Q rest (a.put o.dst b) w'):wpList prog ops Q (o::rest) a (wr.alloc (.cells #[.int .i64 y] 2)):=by
 obtain⟨i,hi,q,r,t⟩:=fS FB;refine pt _ f s x 103 g B 2 i (.int .i64 0) 1 8 xH hi q r t rfl J v l.length (l.map (Value.int .i64)) m (oq d _) ⟨wr.heap.size,0,none⟩ 1 1 [.int .i64 y] n rfl ?_ ?_ ?_ ?_ ?_ ?_
 ·intro j u c;match j,c with
  |0,c=>simp at c;subst c;simp[Addr.add]
 intro u hu;simp at hu;subst hu;rfl;unfold maxLen;omega;omega;simp;omega;intro b w' w h2 _;have e:wr.grownBy w' v.ownBlock:=by have h0:=vk wr (.cells #[.int .i64 y] 2) v.ownBlock;exact arL
 refine h b w' ?_ ((aL _ _).grown e p d.block) e;unfold Own;simpa using w
def AY(n:Nat):(madeCells (Value.int .i64 0).cells (n*1)).toList=(List.replicate n (0:Int)).map (Value.int .i64):=by rw[List.map_replicate,List.eq_replicate_iff];refine⟨by simp[size_madeCells],fun b a=>?_⟩;obtain⟨i,hi,rfl⟩:=List.mem_iff_getElem.1 a;simp[madeCells,Value.cells,Nat.mod_one]
def eP{ops:Array Oper}{rest:List Oper}{o:Oper}{a:Act}{Q:Exit→Act→World→Prop}{w:World}(d:o.guard=none)(l c:Operand)(b:o.op=Op.makeSlice 103 l c)(L C:Int)(n:Nat)(e:a.eval l=.int .i64 L)(hc:a.eval c=.int .i64 C)(f:L=(n:Int))(g:C=(n:Int))(m:n≤1000000000000)(hK:∀w' P,Hid (P=List.replicate n 0)→w'.ownsRow w.heap.size 2 1 (.slice (some ⟨w.heap.size,0,none⟩) n n) n (P.map (Value.int .i64))→Below w.heap.size w w'→wpList prog ops Q rest (a.put o.dst (.slice (some ⟨w.heap.size,0,none⟩) n n)) w'):wpList prog ops Q (o::rest) a w:=by obtain⟨i,hi,h,j,iw⟩:=fS FB;refine Fu w d l c 103 b w.heap.size 2 i (.int .i64 0) 1 xH hi h j .i64 .i64 L C n e hc f g Hw mL (Z _) ?_;exact asF
def xu{B n g:Nat}{w:World}{P:ae}(h:w.ownsRow B 2 1 (.slice (some ⟨g,0,none⟩) n n) n (P.map (Value.int .i64)))(a:P.length=n):Own B w (.slice (some ⟨g,0,none⟩) n n) P:=by unfold Own;rw[a];exact h
def map_set(P:ae)(k:Nat)(y:Int):(P.map (Value.int .i64)).set k (.int .i64 y)=(P.set k y).map (Value.int .i64):=by rw[List.map_set]
def take_set{P:ae}{k:Nat}(h:k<P.length)(t:Int):(P.set k t).take (k+1)=P.take k++[t]:=by rw[j4 dN];congr 1;rw[List.take_set_of_le (Z _)];simp
def tZ:(∀(a:Act)(d:Tmp)(v:Value),a.put (some d) v={a with tmps:=a.tmps.setIfInBounds d v})∧(∀ {α:Type} (l:List α) (i:Nat) (a:α),l.toArray.setIfInBounds i a=(l.set i a).toArray)∧(∀ {α:Type} (a:α) (l:List α) (n:Nat) (b:α),(a::l).set (n+1) b=a::l.set n b)∧(∀ {α:Type} (a:α) (l:List α) (b:α),(a::l).set 0 b=b::l):=⟨fun _ _ _=>rfl,fun _ _ _=>F_ ..,fun _ _ _ _=>rfl,fun _ _ _=>rfl⟩
def eA(l:ae)(v:Value)(i:Nat)(w:World)(h:Row w v l)(hi:i≤1000000000000)(d:l.length≤1000000000000):Calls prog 153 #[v,.int .i64 i] w fun e w'=>e=.returned (.int .i64 (l.getD i 0))∧w'=w:=by rcases h.form with⟨rfl,rfl⟩|⟨g,cap,rfl,hc,hm,_,a⟩;(·go_enter func153,ntmps153;go_wp2;go_ret;exact⟨rfl,rfl⟩);·by_cases b:i<l.length;(·have f:=a i b;clear a;generalize l.getD i 0=x at*;go_enter func153,ntmps153;go_wp2;go_ret;exact⟨rfl,rfl⟩);·(have c:l.getD i 0=0:=by simp[List.getD,dF (yM b)]);clear a;rw[c];clear c;go_enter func153,ntmps153;go_wp2;go_ret;exact⟨rfl,rfl⟩
def WV{l m sl:ae}{k:Nat}{cy x y:Int}(qF:sl.length=k)(h:bj 1000000000 sl∧ev 1000000000 sl+cy*1000000000^k=ev 1000000000 (l.take k)+ev 1000000000 (m.take k))(hx:l.getD k 0=x)(hy:m.getD k 0=y):bj 1000000000 (sl++[(x+y+cy)%1000000000])∧ev 1000000000 (sl++[(x+y+cy)%1000000000])+(x+y+cy)/1000000000*1000000000^(k+1)=ev 1000000000 (l.take (k+1))+ev 1000000000 (m.take (k+1)):=by exact T92
def Vp{l m P:ae}{n:Nat}(b:P.length=n)(h:bj 1000000000 P∧ev 1000000000 (P.take n)+0*1000000000^n=ev 1000000000 (l.take n)+ev 1000000000 (m.take n))(a:l.length≤n)(hm:m.length≤n):bj 1000000000 P∧ev 1000000000 P=ev 1000000000 l+ev 1000000000 m:=by refine⟨h.1,?_⟩;have:=h.2;rw[gT a,gT hm,gT o,lr,nY]at this;exact this
def abQ{l m P:ae}{k:Nat}{a x y:Int}(b:k<P.length)(h:bj 1000000000 P∧ev 1000000000 (P.take k)+a*1000000000^k=ev 1000000000 (l.take k)+ev 1000000000 (m.take k))(c:l.getD k 0=x)(d:m.getD k 0=y):bj 1000000000 (P.set k ((x+y+a)%1000000000))∧ev 1000000000 ((P.set k ((x+y+a)%1000000000)).take (k+1))+(x+y+a)/1000000000*1000000000^(k+1)=ev 1000000000 (l.take (k+1))+ev 1000000000 (m.take (k+1)):=by refine⟨h.1.set k o o,?_⟩;rw[take_set b];exact(WV mI ⟨h.1.take k,h.2⟩ c d).2
def Fy(l m:ae)(u v:Value)(w:World)(hu:Row w u l)(q:Row w v m)(R:l.length≤1000000000)(hm:m.length≤1000000000)(dl:bj 1000000000 l)(dm:bj 1000000000 m):Calls prog 132 #[u,v] w fun e w'=>∃s x,e=.returned x∧Row w' x s∧bj 1000000000 s∧ev 1000000000 s=ev 1000000000 l+ev 1000000000 m∧s.length≤max l.length m.length+1∧Below w.heap.size w w':=by obtain⟨E,F,rfl⟩:=hu.val;obtain⟨G,H,rfl⟩:=q.val;obtain⟨n,HN⟩:∃n,Hid (n=max l.length m.length+1):=⟨_,rfl⟩;have S:l.length<n:=jv;have I:m.length<n:=jv;have T:n≤l.length+1∨n≤m.length+1:=jv;rw[←HN.O];go_enter func132,ntmps132;by_cases hc:l.length<m.length;all_goals go_wp2_with(at_make;refine eP rfl (.tmp 21) (.tmp 21) rfl _ _ n rfl rfl o o o ?_);intro W K wx r t;go_wp2_with fail;go_loopw [7,8] (fun c i wr=>∃(k:Nat)(P:ae)(a:Int),k≤n∧i=.int .i64 k∧c=.int .i64 a∧0≤a∧a≤1∧(k=n→a=0)∧P.length=n∧wr.ownsRow w.heap.size 2 1 (.slice (some ⟨w.heap.size,0,none⟩) n n) n (P.map (Value.int .i64))∧Hid (bj 1000000000 P∧ev 1000000000 (P.take k)+a*1000000000^k=ev 1000000000 (l.take k)+ev 1000000000 (m.take k))∧Below w.heap.size w wr) (fun _ i _=>n-(intOf i).toNat);(case atStart=>exact⟨0,K,0,aU _,rfl,rfl,o,o,fun _=>rfl,u_,r,⟨adQ,gQ⟩,t⟩);case round=>clear r t wx;obtain⟨k,P,a,X,rfl,rfl,iB,eL,z,hP,aj,HE,af⟩:=hrel;by_cases aM:k<n;(·have A:=bj.getD o dl k;have B:=bj.getD o dm k;have C:=hu.E af;have D:=q.E af;have d:=eA l (.slice E l.length F) k wr C o o;have f:=eA m (.slice G m.length H) k wr D o o;(have b:k+1=n→l.getD k 0=0∧m.getD k 0=0:=by intro h;have L:l.length≤k:=jv;have M:m.length≤k:=jv;simp[List.getD,dF L,dF M]);obtain⟨x,g⟩:∃x,Hid (l.getD k 0=x):=⟨_,rfl⟩;obtain⟨y,j⟩:∃y,Hid (m.getD k 0=y):=⟨_,rfl⟩;rw[g.O]at A d b;rw[j.O]at B f b;(have N:k+1=n→(x+y+a)/1000000000=0:=by intro h;obtain⟨rfl,rfl⟩:=b h;omega);obtain⟨lk,ue⟩:=A;obtain⟨mA,nV⟩:=B;have wC:=aj.frozenAt k;(have Q:wr.cell? ⟨w.heap.size,k,none⟩=some (.int .i64 (P.getD k 0)):=by rw[aj.cellAt k o];simp[List.getD,show k<P.length by omega]);have hs:=abQ o HE.O g.O j.O;have HS:Hid _:=hs;generalize P.getD k 0=p at Q;clear hs HE g j C D b z;go_wp2_with fail;refine d.mono ?_;rintro e w' ⟨rfl,rfl⟩;go_wp2_with fail;refine f.mono ?_;rintro e w' ⟨rfl,rfl⟩;clear d f;go_wp2;go_roundw;(case rel=>refine⟨k+1,P.set k ((x+y+a)%1000000000),_,o,by go_num,rfl,o,o,N,Ea,?_,HS,af.setCell (Z _) _⟩;rw[←map_set];exact(iK (w:=w') aj _ _).1);case measure=>simp[intOf];omega);(obtain rfl:k=n:=by omega);obtain rfl:=z rfl;have hs:=Vp hP HE.O o o;exact T52
def Yu{l m sl:ae}{k:Nat}{a x y t c':Int}(b:sl.length=k)(h:bj 1000000000 sl∧ev 1000000000 sl-a*1000000000^k=ev 1000000000 (l.take k)-ev 1000000000 (m.take k))(c:l.getD k 0=x)(d:m.getD k 0=y)(e:t-c'*1000000000=x-y-a)(f:0≤t)(g:t<1000000000):bj 1000000000 (sl++[t])∧ev 1000000000 (sl++[t])-c'*1000000000^(k+1)=ev 1000000000 (l.take (k+1))-ev 1000000000 (m.take (k+1)):=by refine⟨h.1.snoc f g,?_⟩;rw[dC,dC,c,d];exact yF sl k b a x y _ _ t c' h.2 e
def Tj{l m P:ae}{a:Int}(c:P.length=l.length)(h:bj 1000000000 P∧ev 1000000000 (P.take l.length)-a*1000000000^l.length=ev 1000000000 (l.take l.length)-ev 1000000000 (m.take l.length))(hm:m.length≤l.length)(hc:a=0∨a=1)(hle:ev 1000000000 m≤ev 1000000000 l):bj 1000000000 P∧ev 1000000000 P=ev 1000000000 l-ev 1000000000 m:=by refine⟨h.1,?_⟩;have b:=h.2;rw[cY,gT hm,gT o,←c]at b;exact Pg o P h.1 a hc _ _ b hle
def Oe{l m P:ae}{k:Nat}{a x y t c':Int}(d:k<P.length)(h:bj 1000000000 P∧ev 1000000000 (P.take k)-a*1000000000^k=ev 1000000000 (l.take k)-ev 1000000000 (m.take k))(e:l.getD k 0=x)(f:m.getD k 0=y)(g:t-c'*1000000000=x-y-a)(b:0≤t)(c:t<1000000000):bj 1000000000 (P.set k t)∧ev 1000000000 ((P.set k t).take (k+1))-c'*1000000000^(k+1)=ev 1000000000 (l.take (k+1))-ev 1000000000 (m.take (k+1)):=by refine⟨h.1.set k b c,?_⟩;rw[take_set d];exact(Yu mI ⟨h.1.take k,h.2⟩ e f g b c).2
def xB(l m:ae)(u v:Value)(w:World)(hu:Row w u l)(n:Row w v m)(I:l.length≤1000000000)(hm:m.length≤l.length)(dl:bj 1000000000 l)(dm:bj 1000000000 m)(hle:ev 1000000000 m≤ev 1000000000 l):Calls prog 133 #[u,v] w fun e w'=>∃s x,e=.returned x∧Row w' x s∧bj 1000000000 s∧ev 1000000000 s=ev 1000000000 l-ev 1000000000 m∧s.length≤l.length∧Below w.heap.size w w':=by have B:Hid _:=hle;clear hle;obtain⟨C,D,rfl⟩:=hu.val;obtain⟨E,F,rfl⟩:=n.val;go_enter func133,ntmps133;go_wp2_with(at_make;refine eP rfl (.tmp 12) (.tmp 12) rfl _ _ l.length rfl rfl rfl rfl o ?_);intro K G wx q r;go_wp2_with fail;go_loopw [6,7] (fun c i wr=>∃(k:Nat)(P:ae)(a:Int),k≤l.length∧i=.int .i64 k∧c=.int .i64 a∧0≤a∧a≤1∧P.length=l.length∧wr.ownsRow w.heap.size 2 1 (.slice (some ⟨w.heap.size,0,none⟩) l.length l.length) l.length (P.map (Value.int .i64))∧Hid (bj 1000000000 P∧ev 1000000000 (P.take k)-a*1000000000^k=ev 1000000000 (l.take k)-ev 1000000000 (m.take k))∧Below w.heap.size w wr) (fun _ i _=>l.length-(intOf i).toNat);(case atStart=>exact⟨0,G,0,aU _,rfl,rfl,o,o,u_,q,⟨adQ,gQ⟩,r⟩);case round=>clear q r wx;obtain⟨k,P,a,L,rfl,rfl,M,N,hP,aj,HE,af⟩:=hrel;by_cases Q:k<l.length;(·have z:=bj.getD o dl k;have A:=bj.getD o dm k;have h:=hu.E af;have j:=n.E af;have b:=eA l (.slice C l.length D) k wr h o o;have d:=eA m (.slice E m.length F) k wr j o o;obtain⟨x,f⟩:∃x,Hid (l.getD k 0=x):=⟨_,rfl⟩;obtain⟨y,g⟩:∃y,Hid (m.getD k 0=y):=⟨_,rfl⟩;rw[f.O]at z b;rw[g.O]at A d;obtain⟨R,S⟩:=z;obtain⟨T,W⟩:=A;have X:=aj.frozenAt k;(have H:wr.cell? ⟨w.heap.size,k,none⟩=some (.int .i64 (P.getD k 0)):=by rw[aj.cellAt k o];simp[List.getD,show k<P.length by omega]);generalize P.getD k 0=p at H;by_cases uQ:x-y-a<0;(·have hs:=Oe (t:=x-y-a+1000000000) (c':=1) o HE.O f.O g.O o o o;have HS:Hid _:=hs;clear hs HE f g h j;go_wp2_with fail;refine b.mono ?_;rintro e w' ⟨rfl,rfl⟩;go_wp2_with fail;refine d.mono ?_;rintro e w' ⟨rfl,rfl⟩;clear b d;go_wp2;go_roundw;(case rel=>refine⟨k+1,P.set k (x-y-a+1000000000),1,o,by go_num,rfl,o,o,Ea,?_,HS,af.setCell (Z _) _⟩;rw[←map_set];exact(iK (w:=w') aj _ _).1);case measure=>simp[intOf];omega);·have hs:=Oe (t:=x-y-a) (c':=0) o HE.O f.O g.O o o o;have HS:Hid _:=hs;clear hs HE f g h j;go_wp2_with fail;refine b.mono ?_;rintro e w' ⟨rfl,rfl⟩;go_wp2_with fail;refine d.mono ?_;rintro e w' ⟨rfl,rfl⟩;clear b d;go_wp2;go_roundw;(case rel=>refine⟨k+1,P.set k (x-y-a),0,o,by go_num,rfl,o,o,Ea,?_,HS,af.setCell (Z _) _⟩;rw[←map_set];exact(iK (w:=w') aj _ _).1);case measure=>simp[intOf];omega);(obtain rfl:k=l.length:=by omega);have hs:=Tj hP HE.O o o B.O;exact T52
def cV(a b:Int):Int:=if a<b then -1 else if b<a then 1 else 0
def l5{a b:Int}(h:a<b):cV a b=-1:=V h
def l7{a b:Int}(h:b<a):cV a b=1:=by unfold cV;rw[U o,V h]
def ru(a:Int):cV a a=0:=by unfold cV;rw[U o,U o]
def aa8(a b:Int):-1≤cV a b∧cV a b≤1:=by unfold cV;split;omega;split<;>omega
def jd(l m:ae)(u v:Value)(w:World)(hu:Row w u l)(a:Row w v m)(q:l.length≤1000000000)(dl:bj 1000000000 l)(dm:bj 1000000000 m)(tl:Trim l)(b:Trim m):Calls prog 129 #[u,v] w fun e w'=>e=.returned (.int .i64 (cV (ev 1000000000 l) (ev 1000000000 m)))∧w'=w:=by
 obtain⟨c,d,rfl⟩:=hu.val;obtain⟨f,g,rfl⟩:=a.val;by_cases h:l.length<m.length;·rw[l5 (df o dl dm b h)];go_enter func129,ntmps129;go_wp2;go_ret;exact⟨rfl,rfl⟩
 by_cases n:m.length<l.length;·rw[l7 (df o dm dl tl n)];go_enter func129,ntmps129;go_wp2;go_ret;exact⟨rfl,rfl⟩
 obtain⟨z,HZ⟩:∃z,Hid (cV (ev 1000000000 l) (ev 1000000000 m)=z):=⟨_,rfl⟩;rw[HZ.O];go_enter func129,ntmps129;go_wp2_with fail;go_loop [5] (fun i=>∃(k:Nat),k≤l.length∧i=.int .i64 ((k:Int)-1)∧Hid (l.drop k=m.drop k)) (fun i=>(intOf i+1).toNat);case atStart=>exact⟨l.length,Z _,rfl,anK⟩
 case round=>
  obtain⟨k,r,rfl,HD⟩:=hrel;cases k with
  |zero=>(have hz:z=0:=by(have:l=m:=by simpa using HD.O);rw[←HZ.O,this,ru]);subst hz;clear HD HZ;go_wp2;go_ret;exact⟨rfl,rfl⟩
  |succ j=>rw[show(((j+1:Nat):Int)-1)=(j:Int) by omega];have gh:=eA l (.slice c l.length d) j w hu o o;have Hy:=eA m (.slice f m.length g) j w a o o;obtain⟨x,HX⟩:∃x,Hid (l.getD j 0=x):=⟨_,rfl⟩;obtain⟨y,HY⟩:∃y,Hid (m.getD j 0=y):=⟨_,rfl⟩;rw[HX.O]at gh;rw[HY.O]at Hy;rcases(show x<y∨y<x∨x=y by omega)with K_|K_|K_;have hz:z=-1:=aq8;exact T41;have hz:z=1:=T89;exact T41;·have p:Hid (l.drop j=m.drop j):=xI j o o HD.O Ys;subst K_;clear HD HX HY;go_wp2_with fail;refine gh.mono ?_;rintro e w' ⟨rfl,rfl⟩;go_wp2_with fail;refine Hy.mono ?_;rintro e w' ⟨rfl,rfl⟩;go_wp2_with fail;go_round;(case rel=>exact⟨j,o,by go_num,p⟩);case measure=>simp[intOf]
def J9{w:World}{B n g c:Nat}{xs:List Value}(h:w.ownsRow B 2 1 (.slice (some ⟨g,0,none⟩) n c) n xs):∃cur,w.heap[g]?=some (.cells cur 2 (0,0))∧cur.size=c∧B≤g∧n≤c∧c≤maxLen∧cur.toList.take n=xs:=T76
def Cn{w:World}(B g n:Nat)(P l:ae)(b:Option Addr)(a:Nat)(hr:Row w (.slice b l.length a) l)(hn:n≤l.length)(d:w.ownsRow B 2 1 (.slice (some ⟨g,0,none⟩) n n) n (P.map (Value.int .i64))):∃w2,(Builtin.copy_ #[103,103] 3 #[.slice (some ⟨g,0,none⟩) n n,.slice b l.length a]).run prog w=.ok (goInt n) w2∧Own B w2 (.slice (some ⟨g,0,none⟩) n n) (l.take n)∧Below B w w2:=by
 obtain⟨i,hi,k,gP,m⟩:=fS FB;obtain⟨cur,hg,sQ,hB,_,mz,_⟩:=J9 d;have aM:(l.take n).length=n:=mI;have hlen:((l.take n).map (Value.int .i64)).length=n:=by rw[mT,aM]
 by_cases f:n=0;subst f;refine⟨w,run_copy_none (P:=prog) w 103 103 3 2 (some ⟨g,0,none⟩) b 0 0 l.length a xH MA Y,?_,aL _ _⟩;exact atz;obtain⟨ga,rfl,_⟩:=hr.at 0 o;have c:=run_copy_row (P:=prog) w 103 103 3 2 g 0 n n ⟨ga,0,none⟩ l.length a cur 2 ((l.take n).map (Value.int .i64)) xH MA hg ahY ?_ Xo ?_;rw[hlen]at c;refine⟨_,c,?_,below_setRow (aL _ _) hB _⟩;have zE:=setRow_heap w g cur (cur.toList.take 0++(l.take n).map (Value.int .i64)++cur.toList.drop (0+n)).toArray 2 (0,0) hg;have h:cur.toList.take 0++(l.take n).map (Value.int .i64)++cur.toList.drop (0+n)=(l.take n).map (Value.int .i64):=by rw[aeH aeK];simp
 rw[h]at zE ⊢;unfold Own;exact as8;intro j v hj;have hj':j<n:=by have:=(eQ.1 hj).1;omega
 exact T23;intro v hv;obtain⟨z,_,rfl⟩:=ko.1 hv;rfl
structure acx(l s:ae):Prop where
 iA:bj 1000000000 s
 trim:Trim s
 val:ev 1000000000 s=ev 1000000000 l
 len:s.length≤l.length
def zw(l:ae)(u:Value)(w:World)(hu:Row w u l)(D:l.length≤1000000000)(dl:bj 1000000000 l):Calls prog 154 #[u] w fun e w'=>∃s x,e=.returned x∧Own w.heap.size w' x s∧acx l s∧Below w.heap.size w w':=by
 obtain⟨v,t,rfl⟩:=hu.val;go_enter func154,ntmps154;go_wp2_with fail;go_loop [3] (fun n=>∃(k:Nat),k≤l.length∧n=.int .i64 k∧Hid (ev 1000000000 (l.take k)=ev 1000000000 l)) (fun n=>(intOf n).toNat);case atStart=>exact⟨l.length,Z _,rfl,by rw[cY];rfl⟩
 case round=>
  obtain⟨k,E,rfl,a⟩:=hrel;have b:(k=0∨l.getD (k-1) 0≠0)→acx l (l.take k):=by
   intro h;refine⟨dl.take _,fun y c=>?_,a.O,mI⟩;rcases h with rfl|h;simp at c
   ·cases k with
    |zero=>simp at c
    |succ j=>rw[j4 o,←bQ o]at c;simp at c;simp at h;rw[←c];exact h
  cases k with
  |zero=>have i:Hid _:=b (.inl rfl);clear b a;go_wp2_with(at_make;refine eP rfl (.tmp 19) (.tmp 19) rfl _ _ 0 rfl rfl o o o ?_);intro z m _ p d;obtain⟨w2,A,q,r⟩:=Cn w.heap.size w.heap.size 0 m l v t (hu.E d) o p;go_wp2;go_ret;exact⟨_,_,rfl,q,i.O,d.trans r⟩
  |succ j=>obtain⟨g,rfl,F,G,H,B⟩:=hu.at j o;obtain⟨x,f⟩:∃x,Hid (l.getD j 0=x):=⟨_,rfl⟩;rw[f.O]at B;by_cases hx:x=0;(·subst hx;(have he:Hid (ev 1000000000 (l.take j)=ev 1000000000 l):=by have:=a.O;rw[dC,f.O]at this;simp at this;exact this);clear a f b;go_wp2_with fail;go_round;(case rel=>exact⟨j,o,by go_num,he⟩);case measure=>simp[intOf]);·have i:Hid _:=b (.inr (by rw[lu,f.O];exact hx));have C:(x==0)=false:=LD;clear b a f;go_wp2_with(at_make;refine eP rfl (.tmp 19) (.tmp 19) rfl _ _ (j+1) rfl rfl o o o ?_);intro z m _ p d;obtain⟨w2,A,q,r⟩:=Cn w.heap.size w.heap.size (j+1) m l _ t (hu.E d) o p;go_wp2;go_ret;exact⟨_,_,rfl,q,i.O,d.trans r⟩
def iS(b:Bool)(l:ae)(u:Value)(w:World)(hu:Row w u l)(p:l.length≤1000000000)(dl:bj 1000000000 l):Calls prog 131 #[.bool b,u] w fun e w'=>∃s x,e=.returned (.agg #[.bool (b&&!s.isEmpty),x])∧Row w' x s∧bj 1000000000 s∧Trim s∧ev 1000000000 s=ev 1000000000 l∧s.length≤l.length∧Below w.heap.size w w':=by
 obtain⟨j,k,rfl⟩:=hu.val;have q:=fun(W:World) (h:Row W (.slice j l.length k) l)=>zw l (.slice j l.length k) W h p dl;go_enter func131,ntmps131;go_wp2_with fail;generalize hW:w.alloc (Obj.cells #[.bool false,.slice none 0 0] 105)=f;have r:f.heap.size=w.heap.size+1:=rT;have m:Below w.heap.size w f:=ak9;have n:f.heap[w.heap.size]?=some (.cells #[Value.bool false,Value.slice none 0 0] 105 (0,0)):=ahk;clear hW;refine(q f (hu.E m)).mono ?_;rintro e c ⟨s,x,rfl,g,a,i⟩;rw[r]at g i;obtain⟨t,v,rfl⟩:=g.row.val;have d:c.heap[w.heap.size]?=some (.cells #[Value.bool false,Value.slice none 0 0] 105 (0,0)):=by rw[i.block _ o];exact n
 have y:c.cell? ⟨w.heap.size,0,none⟩=some (.bool false):=by simp[World.cell?,d]
 have z:c.cell? ⟨w.heap.size,1,none⟩=some (.slice none 0 0):=by simp[World.cell?,d]
 have A:c.frozen? ⟨w.heap.size,0,none⟩=false:=by simp[World.frozen?,d]
 have C:c.frozen? ⟨w.heap.size,1,none⟩=false:=by simp[World.frozen?,d]
 have D:Below w.heap.size w c:=m.trans (i.mono o);have E:s.isEmpty=decide (s.length=0):=by cases s<;>simp
 clear n d;cases b;all_goals have F:s.length=0∨(0<s.length∧¬s.length=0):=o;rcases F with G|⟨G,H⟩;all_goals go_wp2;refine cE (by simp[results,results131,go_sem,y,z];rfl) rfl ⟨s,.slice t s.length v,?_,Own.row (B:=w.heap.size+1) (NF (NF g Y _) Y _),a.iA,a.trim,a.val,a.len,(D.setCell Y _).setCell Y _⟩;simp[*]
def sv(b:Bool)(n:Int):Int:=if b then -n else n
structure Du(b:Bool)(l:ae)(z:Int):Prop where
 iA:bj 1000000000 l
 trim:Trim l
 neg:b=true→l≠ []
 val:z=sv b (ev 1000000000 l)
def bK(w:World)(v:Value)(z:Int):Prop:=∃b x l,v=.agg #[.bool b,x]∧Row w x l∧Du b l z
def bK.E{w w':World}{v:Value}{z:Int}(h:bK w v z)(a:Below w.heap.size w w'):bK w' v z:=by obtain⟨b,x,l,c,d,e⟩:=h;exact⟨b,x,l,c,d.E a,e⟩
def Fit(z:Int):Prop:=∃n,n≤10000000∧z.natAbs<1000000000^n
def ki(b:Bool){n:Int}(h:0≤n):((sv b n).natAbs:Int)=n:=by unfold sv;split<;>omega
def CZ{l:ae}(d:bj 1000000000 l)(t:Trim l)(h:l≠ []):0<ev 1000000000 l:=by have:=xO o d t h;have:=pow_pos (show(0:Int)<1000000000 by omega) (l.length-1);omega
def Du.len{b:Bool}{l:ae}{z:Int}(h:Du b l z)(c:Fit z):l.length≤10000000:=by
 obtain⟨n,m,d⟩:=c;rcases aX n l.length with f|p;have g:l≠ []:=by intro e;subst e;simp at f
 have q:=xO o h.iA h.trim g;have r:(1000000000:Int)^n≤1000000000^(l.length-1):=by obtain⟨k,i⟩:∃k,l.length-1=n+k:=⟨l.length-1-n,o⟩;rw[i,iF];have s:(0:Int)<1000000000^k:=ky o;have:=mQ (show(1:Int)≤1000000000^k by omega) (eC (pow_pos (show(0:Int)<1000000000 by omega) n));omega
 have j:=ki b (dJ o h.iA);rw[←h.val]at j;have t:(z.natAbs:Int)<1000000000^n:=by have a:=Int.ofNat_lt.2 d;rw[Gl]at a;exact a
 omega;omega
def Du.lW{b:Bool}{l:ae}{z:Int}(h:Du b l z):0≤ev 1000000000 l:=dJ o h.iA
def Du.signed{b:Bool}{s:ae}(d:bj 1000000000 s)(t:Trim s):Du (b&&!s.isEmpty) s (sv b (ev 1000000000 s)):=T50
def anI{W a:World}(c:Below W.heap.size W a):(∀b o,b<W.heap.size→a.cell? ⟨b,o,none⟩=W.cell? ⟨b,o,none⟩)∧(∀b o,b<W.heap.size→a.frozen? ⟨b,o,none⟩=W.frozen? ⟨b,o,none⟩):=⟨fun b o h=>c.cell (p:=⟨b,o,none⟩) h,fun b o h=>c.frozen (p:=⟨b,o,none⟩) h⟩
def eZ{w w':World}(h:Below w.drew.heap.size w.drew w'):Below w.heap.size w w':=⟨h.os,h.tape,h.output,h.size,h.block⟩
def VP{w w':World}{n:Nat}(h:Below (w.drewN n).heap.size (w.drewN n) w'):Below w.heap.size w w':=⟨h.os,h.tape,h.output,h.size,h.block⟩
def Bx(w:World)(k:Nat)(a b:Value):Prop:=w.heap[k]?=some (.cells #[a,b] 105 (0,0))
def Bx.c0{w:World}{k:Nat}{a b:Value}(h:Bx w k a b):w.cell? ⟨k,0,none⟩=some a:=agl
def Bx.c1{w:World}{k:Nat}{a b:Value}(h:Bx w k a b):w.cell? ⟨k,1,none⟩=some b:=agl
def Bx.f0{w:World}{k:Nat}{a b:Value}(h:Bx w k a b):w.frozen? ⟨k,0,none⟩=false:=aew
def Bx.f1{w:World}{k:Nat}{a b:Value}(h:Bx w k a b):w.frozen? ⟨k,1,none⟩=false:=aew
def Bx.lt{w:World}{k:Nat}{a b:Value}(h:Bx w k a b):k<w.heap.size:=bw h
def Bx.E{w w':World}{k:Nat}{a b:Value}(h:Bx w k a b)(c:Below w.heap.size w w'):Bx w' k a b:=by unfold Bx;rw[c.block k h.lt];exact h
def Bx.set{w:World}{k:Nat}{a b:Value}(h:Bx w k a b)(a' c:Value):Bx ((w.setCell ⟨k,0,none⟩ a').setCell ⟨k,1,none⟩ c) k a' c:=by unfold Bx at h ⊢;rw[gI _ k 1 #[a',b] _ c akJ];rfl
def Bx.alloc(w:World)(a b:Value):Bx (w.alloc (.cells #[a,b] 105)) w.heap.size a b:=fL w _
def Bx.alloc_old{w:World}{k:Nat}{a b:Value}(h:Bx w k a b)(o:Obj):Bx (w.alloc o) k a b:=h.E ((aL _ _).alloc (Z _) _)
def aG{w c:World}{a b:Value}(h:w.alloc (.cells #[a,b] 105)=c):Below w.heap.size w c∧Bx c w.heap.size a b:=by subst h;exact⟨(aL _ _).alloc (Z _) _,Bx.alloc w a b⟩
def Row.set{w:World}{v:Value}{l:ae}(h:Row w v l){k:Nat}{a b:Value}(c:Bx w k a b)(o:Nat)(u:Value):Row (w.setCell ⟨k,o,none⟩ u) v l:=by refine tK h (fun e=>?_) u;rcases h.2 with⟨f,_⟩|⟨g,cap,cur,i,j,d,r⟩;rw[f]at e;simp[Value.ownBlock]at e;rw[i]at e;simp[Value.ownBlock]at e;subst e;unfold Bx at c;rw[c]at d;simp at d
def Row.cK{w:World}{v:Value}{l:ae}(h:Row w v l){k:Nat}{a b:Value}(d:Bx w k a b)(c e:Value):Row ((w.setCell ⟨k,0,none⟩ c).setCell ⟨k,1,none⟩ e) v l:=by(have f:Bx (w.setCell ⟨k,0,none⟩ c) k c b:=by unfold Bx at d ⊢;rw[gI w k 0 #[a,b] _ c d];rfl);exact(h.set d 0 c).set f 1 e
def ar{B:Nat}{a w:World}(h:Below B a w){k:Nat}(b:B≤k)(u v:Value):Below B a ((w.setCell ⟨k,0,none⟩ u).setCell ⟨k,1,none⟩ v):=(h.setCell b u).setCell b v
def l6{w e:World}{a b c d:Value}(h:(w.alloc (.cells #[a,b] 105)).alloc (.cells #[c,d] 105)=e):w.heap.size+1<e.heap.size∧Below w.heap.size w e∧Bx e w.heap.size a b∧Bx e (w.heap.size+1) c d:=by subst h;refine⟨Y,((aL _ _).alloc (Z _) _).alloc Y _,(Bx.alloc w a b).alloc_old _,?_⟩;have:=Bx.alloc (w.alloc (.cells #[a,b] 105)) c d;simpa using this
def F8(u:Value)(z:Int)(w:World)(hu:bK w u z)(f:Fit z):Calls prog 108 #[u] w fun e w'=>∃v,e=.returned v∧bK w' v (-z)∧Below w.heap.size w w':=by obtain⟨b,x,l,rfl,d,c⟩:=hu;have E:=c.len f;obtain⟨m,n,rfl⟩:=d.val;go_enter func108,ntmps108;go_wp2_with fail;generalize g:(w.alloc (Obj.cells #[.bool b,.slice m l.length n] 105)).alloc (Obj.cells #[.bool false,.slice none 0 0] 105)=p;obtain⟨F,h,G,q⟩:=l6 g;clear g;refine(iS (!b) l _ p (d.E h) o c.iA).mono ?_;rintro e H ⟨t,I,rfl,i,r,s,j,K,k⟩;have y:Hid _:=j;clear j;obtain⟨A,B,rfl⟩:=i.val;have a:=q.E k;have C:=a.c0;have D:=a.c1;have g3:=a.f0;have g4:=a.f1;go_wp2;refine cE (v:=.agg #[.bool (!b&&!t.isEmpty),.slice A t.length B]) (by simp[results,results108,go_sem,C,D]) rfl ⟨_,rfl,⟨_,_,t,rfl,i.cK a _ _,?_⟩,ar (h.tr k) o _ _⟩;have:=Du.signed (b:=!b) r s;rw[y.O]at this;rw[c.val];(have e:-sv b (ev 1000000000 l)=sv (!b) (ev 1000000000 l):=by cases b<;>simp[sv]);rw[e];exact this
def uk(u:Value)(z:Int)(w:World)(hu:bK w u z)(f:Fit z):Calls prog 109 #[u] w fun e w'=>∃v,e=.returned v∧bK w' v (z.natAbs:Int)∧Below w.heap.size w w':=by obtain⟨b,x,l,rfl,d,c⟩:=hu;have E:=c.len f;obtain⟨m,n,rfl⟩:=d.val;go_enter func109,ntmps109;go_wp2_with fail;generalize g:(w.alloc (Obj.cells #[.bool b,.slice m l.length n] 105)).alloc (Obj.cells #[.bool false,.slice none 0 0] 105)=p;obtain⟨F,h,G,q⟩:=l6 g;clear g;refine(iS false l _ p (d.E h) o c.iA).mono ?_;rintro e H ⟨t,I,rfl,i,r,s,j,K,k⟩;have y:Hid _:=j;clear j;obtain⟨A,B,rfl⟩:=i.val;have a:=q.E k;have C:=a.c0;have D:=a.c1;have g3:=a.f0;have g4:=a.f1;go_wp2;refine cE (v:=.agg #[.bool (false&&!t.isEmpty),.slice A t.length B]) (by simp[results,results109,go_sem,C,D]) rfl ⟨_,rfl,⟨_,_,t,rfl,i.cK a _ _,?_⟩,ar (h.tr k) o _ _⟩;have:=Du.signed (b:=false) r s;rw[y.O]at this;rw[c.val,ki b c.lW];exact this
def fA(z:Int):Int:=if z<0 then -1 else if z=0 then 0 else 1
def n_(u:Value)(z:Int)(w:World)(hu:bK w u z)(f:Fit z):Calls prog 90 #[u] w fun e w'=>e=.returned (.int .i64 (fA z))∧Below w.heap.size w w':=by
 obtain⟨b,x,l,rfl,h,c⟩:=hu;have j:=c.len f;obtain⟨k,m,rfl⟩:=h.val;have i:(l.length=0∧fA z=0)∨(0<l.length∧b=true∧fA z=-1)∨(0<l.length∧b=false∧fA z=1):=by
  cases l with
  |nil=>refine .inl ⟨rfl,?_⟩;rw[c.val];cases b<;>simp[sv,ev,fA]
  |cons a l=>
   have:=CZ c.iA c.trim Y;cases b with
   |true=>exact .inr (.inl ⟨Y,rfl,by rw[c.val];unfold fA sv;rw[V rfl,V o]⟩)
   |false=>exact .inr (.inr ⟨Y,rfl,by rw[c.val];show fA (ev 1000000000 (a::l))=1;unfold fA;rw[U o,U o]⟩)
 generalize fA z=g at*;rcases i with⟨d,rfl⟩|⟨d,rfl,rfl⟩|⟨d,rfl,rfl⟩;all_goals go_enter func90,ntmps90;go_wp2;go_ret;exact⟨rfl,(aL _ _).alloc (Z _) _⟩
def j9(u v:Value)(d z2:Int)(w:World)(hu:bK w u d)(n:bK w v z2)(f1:Fit d)(f2:Fit z2):Calls prog 91 #[u,v] w fun e w'=>e=.returned (.int .i64 (cV d z2))∧Below w.heap.size w w':=by
 obtain⟨b1,x,l,rfl,hx,a⟩:=hu;obtain⟨b2,y,m,rfl,hy,b⟩:=n;have r:=a.len f1;have hm:=b.len f2;obtain⟨g,i,rfl⟩:=hx.val;obtain⟨j,k,rfl⟩:=hy.val;have n1:=a.lW;have n2:=b.lW;have p1:b1=true→0<ev 1000000000 l:=fun h=>CZ a.iA a.trim (a.neg h);have p2:b2=true→0<ev 1000000000 m:=fun h=>CZ b.iA b.trim (b.neg h);have e1:=a.val;have e2:=b.val;have td:=aa8 (ev 1000000000 l) (ev 1000000000 m);cases b1<;>cases b2;·(have he:cV d z2=cV (ev 1000000000 l) (ev 1000000000 m):=by rw[e1,e2];rfl);rw[he];clear he e1 e2 p1 p2 n1 n2;have f:=fun(W0:World) (g1:Row W0 (.slice g l.length i) l) (g2:Row W0 (.slice j m.length k) m)=>jd l m _ _ W0 g1 g2 o a.iA b.iA a.trim b.trim;generalize cV (ev 1000000000 l) (ev 1000000000 m)=c at*;obtain⟨p,q⟩:=td;have HC:Hid _:=f;clear f;go_enter func91,ntmps91;go_wp2_with fail;generalize hW:(w.alloc (Obj.cells #[.bool false,.slice g l.length i] 105)).alloc (Obj.cells #[.bool false,.slice j m.length k] 105)=W0;exact T42
 have he:cV d z2=1:=by have:=p2 rfl;apply l7;rw[e1,e2];unfold sv;rw[V rfl,U Y];omega
 exact T84;have he:cV d z2=-1:=by have:=p1 rfl;apply l5;rw[e1,e2];unfold sv;rw[V rfl,U Y];omega
 exact T84;·(have he:cV d z2=-cV (ev 1000000000 l) (ev 1000000000 m):=by rw[e1,e2];unfold sv cV;rw[V rfl,V rfl];split;rw[U o,V o];split;rw[V o];omega;rw[U o,U o];rfl);rw[he];clear he e1 e2 p1 p2 n1 n2;have f:=fun(W0:World) (g1:Row W0 (.slice g l.length i) l) (g2:Row W0 (.slice j m.length k) m)=>jd l m _ _ W0 g1 g2 o a.iA b.iA a.trim b.trim;generalize cV (ev 1000000000 l) (ev 1000000000 m)=c at*;obtain⟨p,q⟩:=td;have HC:Hid _:=f;clear f;go_enter func91,ntmps91;go_wp2_with fail;generalize hW:(w.alloc (Obj.cells #[.bool true,.slice g l.length i] 105)).alloc (Obj.cells #[.bool true,.slice j m.length k] 105)=W0;exact T42
def ow(w:World):Prop:=Lib.TabIs prog w "internal/strconv.uint64pow10" .u64 Lib.pow10Tab∧∃g,prog.globalNamed "internal/strconv.uint64pow10" =some g∧g<w.heap.size
def ow.later{B:Nat}{w w':World}(h:ow w)(a:Below B w w')(d:w.heap.size≤B):ow w':=by obtain⟨e,g,b,c⟩:=h;exact⟨var?_below a b (dy c d) e,g,b,dy c a.size⟩
def ow.E{w w':World}(h:ow w)(a:Below w.heap.size w w'):ow w':=h.later a (Z _)
def N5(w:World)(k:Nat)(os:Array Obj):Below w.heap.size w (Sort.grow (w.drewN k) os):=⟨rfl,rfl,rfl,by simp[Sort.grow,World.drewN],fun i hi=>by show(w.heap++os)[i]?=_;rw[Array.getElem?_append_left hi]⟩
def Db(n:Int)(a:0≤n)(c:n<1000000000)(w:World)(b:ow w):Calls prog 149 #[.int .i64 n,.int .i64 10] w fun e w'=>e=.returned (.string ⟨(Lib.decDigits n.toNat).toArray⟩)∧Below w.heap.size w w':=by refine(Tryz.strconv_FormatInt_10 n o o w b.1).mono ?_;rintro e w' ⟨rfl,k,os,rfl⟩;exact⟨by rw[itoa_nonneg a],N5 w k os⟩
def Ny(n:Int)(b:0≤n)(a:n<1000000000)(w:World)(c:ow w):Calls prog 150 #[.int .i64 n] w fun e w'=>e=.returned (.string ⟨(xS 9 n.toNat).toArray⟩)∧Below w.heap.size w w':=by have f:=Db n b a w c;rw[←atn n b a];have hlen:=rH n.toNat;have g:=zJ n a;rw[←hlen]at g ⊢;clear hlen;generalize Lib.decDigits n.toNat=d at*;go_enter func150,ntmps150;go_wp2_with fail;refine f.mono ?_;rintro e i ⟨rfl,h⟩;go_wp2_with fail;go_loop [3] (fun t=>∃q:Nat,q+d.length≤9∧t=.string ⟨(List.replicate q 48++d).toArray⟩) (fun t=>match t with|.string s=>9-s.size|_=>0);(case atStart=>exact⟨0,o,rfl⟩);case round=>obtain⟨q,j,rfl⟩:=hrel;by_cases k:q+d.length<9;(·go_wp2;have he:((⟨#[48]⟩:ByteArray)++⟨(List.replicate q 48++d).toArray⟩)=⟨(List.replicate (q+1) 48++d).toArray⟩:=iq [48] _;rw[he];go_round;(case rel=>exact⟨q+1,o,rfl⟩);case measure=>simp[ByteArray.size];omega);·(obtain rfl:q=9-d.length:=by omega);go_wp2;go_ret;exact⟨rfl,h⟩
def CF(l:ae)(u:Value)(w:World)(hu:Row w u l)(L:l.length≤10000000)(dl:bj 1000000000 l)(tl:Trim l)(s:ow w):Calls prog 122 #[u] w fun e w'=>e=.returned (.string ⟨(Lib.decDigits (ev 1000000000 l).toNat).toArray⟩)∧Below w.heap.size w w':=by
 obtain⟨ua,M,rfl⟩:=hu.val;obtain⟨D,f⟩:∃D,Hid (Lib.decDigits (ev 1000000000 l).toNat=D):=⟨_,rfl⟩;rw[f.O];by_cases v:l=[];·subst v;(have N:D=[48]:=by rw[←f.O];simp[ev,yK]);subst N;clear f;go_enter func122,ntmps122;go_wp2;go_ret;exact⟨rfl,aL _ _⟩
 ·obtain⟨n,p⟩:∃n,l.length=n+1:=⟨l.length-1,by cases l with|nil=>exact absurd rfl v|cons a b=>simp⟩;obtain⟨g,rfl,Hq,YS,Kz,z⟩:=hu.at n o;obtain⟨x,A⟩:∃x,Hid (l.getD n 0=x):=⟨_,rfl⟩;have B:=bj.getD o dl n;rw[A.O]at z B;obtain⟨P,C⟩:=B;have Q:=Db x P C w s;have HN:Hid (l.length=n+1):=p;have Na:n<10000000:=o;have R:n+1≤M:=o;have q:Hid (0<ev 1000000000 (l.drop n)∧Lib.decDigits (ev 1000000000 (l.drop n)).toNat=Lib.decDigits x.toNat):=by(have E:l.drop n=[x]:=by rw[gV o,←bQ o,A.O,vZ o]);have Zd:x≠0:=tl x (by rw[←xT n l,E];simp);rw[E];simp only[ev];exact⟨o,Y⟩
  rw[p];clear p L;go_enter func122,ntmps122;go_wp2_with fail;refine Q.mono ?_;rintro e w1 ⟨rfl,S⟩;have vL:(Lib.decDigits x.toNat).length≤9:=by rw[rH];exact zJ x C
  go_wp2_with fail;go_loopw [4,5] (fun t i wr=>∃(k:Nat)(d:List UInt8),k≤n∧i=.int .i64 ((k:Int)-1)∧t=.string ⟨d.toArray⟩∧d.length+9*k≤9*(n+1)∧Hid (0<ev 1000000000 (l.drop k)∧Lib.decDigits (ev 1000000000 (l.drop k)).toNat=d)∧Below w.heap.size w wr) (fun _ i _=>(intOf i+1).toNat);case atStart=>exact⟨n,_,Z _,rfl,rfl,o,q,S⟩
  case round=>
   obtain⟨k,d,hk,rfl,rfl,T,h,m⟩:=hrel;cases k with
   |zero=>(have W:d=D:=by have:=h.O.2;rw[lJ,f.O]at this;exact this.symm);subst W;clear h f q;go_wp2;go_ret;exact⟨rfl,m⟩
   |succ j=>rw[show(((j+1:Nat):Int)-1)=(j:Int) by omega];obtain⟨g',F,_,_,_,c⟩:=hu.at j jv;simp at F;subst F;obtain⟨y,r⟩:∃y,Hid (l.getD j 0=y):=⟨_,rfl⟩;have G:=bj.getD o dl j;rw[r.O]at c G;obtain⟨H,I⟩:=G;have X:wr.cell? ⟨g,j,none⟩=some (.int .i64 y):=(m.cell BF).trans c;have hP:=Ny y H I wr (s.E m);(have fh:Hid (0<ev 1000000000 (l.drop j)∧Lib.decDigits (ev 1000000000 (l.drop j)).toNat=d++xS 9 y.toNat):=by have K:j<l.length:=jv;obtain⟨h1,h2⟩:=h.O;rw[gV K,←bQ K,r.O];simp only[ev];exact⟨o,by rw[Tw _ _ h1 H I,h2]⟩);(have rU:(xS 9 y.toNat).length=9:=by simp[xS]);generalize xS 9 y.toNat=pd at*;clear z c h r f q;go_wp2_with fail;refine hP.mono ?_;rintro e w2 ⟨rfl,aC⟩;go_wp2_with fail;rw[iq];go_roundw;(case rel=>exact⟨j,d++pd,o,rfl,rfl,aZ,fh,m.tr aC⟩);case measure=>simp[intOf]
def DD(u:Value)(z:Int)(w:World)(hu:bK w u z)(f:Fit z)(n:ow w):Calls prog 97 #[u] w fun e w'=>e=.returned (.int .i64 (Lib.nDigits z.natAbs:Int))∧Below w.heap.size w w':=by obtain⟨b,x,l,rfl,h,a⟩:=hu;have p:=a.len f;obtain⟨i,j,rfl⟩:=h.val;(have k:z.natAbs=(ev 1000000000 l).toNat:=by have q:=ki b a.lW;rw[←a.val]at q;omega);rw[k,←rH];have s:=OX a.iA;have m:=fun(W:World) (g1:Row W (.slice i l.length j) l) (g2:ow W)=>CF l _ W g1 p a.iA a.trim g2;generalize Lib.decDigits (ev 1000000000 l).toNat=d at*;have c:Hid _:=m;clear m k;go_enter func97,ntmps97;go_wp2_with fail;have g:Below w.heap.size w (w.alloc (Obj.cells #[.bool b,.slice i l.length j] 105)):=(aL _ _).alloc (Z _) _;refine(c.O _ (h.E g) (n.E g)).mono ?_;rintro e t ⟨rfl,r⟩;go_wp2;go_ret;exact⟨rfl,g.tr r⟩
def zI(u:Value)(z:Int)(w:World)(hu:bK w u z)(f:Fit z)(q:ow w):Calls prog 80 #[u] w fun e w'=>e=.returned (.string ⟨(Lib.itoa z).toArray⟩)∧Below w.heap.size w w':=by
 obtain⟨b,x,l,rfl,h,a⟩:=hu;have r:=a.len f;obtain⟨i,j,rfl⟩:=h.val;have k:Lib.itoa z=if b then 45::Lib.decDigits (ev 1000000000 l).toNat else Lib.decDigits (ev 1000000000 l).toNat:=by
  have t:=a.lW;cases b with
  |true=>have y:=CZ a.iA a.trim (a.neg rfl);rw[a.val];unfold Lib.itoa sv;rw[V rfl,V o,V rfl];congr 2;omega
  |false=>rw[a.val];show Lib.itoa (ev 1000000000 l)=_;rw[itoa_nonneg t];rfl
 rw[k];have A:=OX a.iA;have m:=fun(W:World) (g1:Row W (.slice i l.length j) l) (g2:ow W)=>CF l _ W g1 r a.iA a.trim g2;generalize Lib.decDigits (ev 1000000000 l).toNat=d at*;have c:Hid _:=m;clear m k;cases b;all_goals go_enter func80,ntmps80;go_wp2_with fail;generalize n:w.alloc (Obj.cells #[.bool _,.slice i l.length j] 105)=B;obtain⟨g,v⟩:=aG n;clear n;refine(c.O _ (h.E g) (q.E g)).mono ?_;rintro e C ⟨rfl,p⟩;have D:=(v.E p).c0;go_wp2;go_ret;exact⟨by first|rfl|exact jZ (fun s=>Ending.returned (.string s)) (iq [45] d),g.tr p⟩
def flat:List (Bool×Value)→List Value
| []=> []
|p::l=>.bool p.1::p.2::flat l
def jT(a b:List (Bool×Value)):flat (a++b)=flat a++flat b:=by
 induction a with
 |nil=>rfl
 |cons p a c=>simp[flat,c]
def sN(a:List (Bool×Value)):(flat a).length=a.length*2:=by
 induction a with
 |nil=>rfl
 |cons p a b=>simp[flat,b];omega
def xX:∀(a:List (Bool×Value)) (i:Nat) (p:Bool×Value),a[i]?=some p→(flat a)[i*2]?=some (.bool p.1)∧(flat a)[i*2+1]?=some p.2
| [],i,p,h=>cT
|q::a,0,p,h=>by simp at h;subst h;simp[flat]
|q::a,i+1,p,h=>by have:=xX a i p dN;rw[show(i+1)*2=i*2+1+1 by omega];simpa[flat]using this
def vOf(p:Bool×Value):Value:=.agg #[.bool p.1,p.2]
def ak(B:Nat)(w:World)(v:Value)(zs:ae):Prop:=∃cs:List (Bool×Value),cs.length=zs.length∧w.ownsRow B 105 2 v zs.length (flat cs)∧∀i p,cs[i]?=some p→bK w (vOf p) (zs.getD i 0)
def cF(w:World)(v:Value)(zs:ae):Prop:=ak 0 w v zs
def ak.nD{B:Nat}{w:World}{v:Value}{zs:ae}(h:ak B w v zs):cF w v zs:=atm
def ak.lower{B C:Nat}{w:World}{v:Value}{zs:ae}(h:ak B w v zs)(hC:C≤B):ak C w v zs:=au9
def ak.block{B:Nat}{w:World}{v:Value}{zs:ae}(h:ak B w v zs):∀k,v.ownBlock=some k→B≤k:=by obtain⟨cs,c,a,d⟩:=h;exact fun k b=>(jB a k b).1
def ak.E{B:Nat}{w w':World}{v:Value}{zs:ae}(h:ak B w v zs)(hb:Below w.heap.size w w'):ak B w' v zs:=aus
def ak.val{B:Nat}{w:World}{v:Value}{zs:ae}(h:ak B w v zs):∃a c,v=.slice a zs.length c:=WA
def ak.at{B:Nat}{w:World}{a:Option Addr}{c:Nat}{zs:ae}(h:ak B w (.slice a zs.length c) zs)(i:Nat)(hi:i<zs.length):∃g b xa xn xc,a=some ⟨g,0,none⟩∧zs.length≤c∧c≤maxLen∧g<w.heap.size∧B≤g∧w.cell? ⟨g,i*2,none⟩=some (.bool b)∧w.cell? ⟨g,i*2+1,none⟩=some (.slice xa xn xc)∧bK w (.agg #[.bool b,.slice xa xn xc]) (zs.getD i 0):=by exact T67
def ak.lit{w:World}{n:Nat}(h:w.heap.size=n):ak n (w.alloc (.cells #[] 105)) (.slice (some ⟨n,0,none⟩) 0 0) []:=by subst h;exact⟨[],rfl,Hf w #[] 0 (Z _) oT rfl,fun i p hp=>Bf⟩
def AB:(prog.info? 105).map (fun i=>(i.zero,i.size,i.bytes))=some (some (.agg #[.bool false,.slice none 0 0]),2,32):=aw
def xl:prog.underlying 95=some (.slice 105):=aw
def bK.kept{w w':World}{v:Value}{z:Int}{g:Option Nat}(h:bK w v z)(hg:w.grownBy w' g)(ht:∀k,g=some k→∃cur,w.heap[k]?=some (.cells cur 105 (0,0))):bK w' v z:=ae8
def ak.gO{B:Nat}{w:World}{v:Value}{zs:ae}(h:ak B w v zs):∀k,v.ownBlock=some k→∃cur,w.heap[k]?=some (.cells cur 105 (0,0)):=UG
def dV{ops:Array Oper}{rest:List Oper}{o:Oper}{a:Act}{Q:Exit→Act→World→Prop}{wr:World}(d:o.guard=none)(s x:Operand)(f:o.op=.call {callee:=.builtin .append,args:=#[s,x],argTypes:=#[95,95]})(B:Nat)(v:Value)(zs:ae)(b:Bool)(y:Value)(z:Int)(g:a.eval s=v)(c:ak B wr v zs)(hz:bK wr (.agg #[.bool b,y]) z)(m:a.eval x=.slice (some ⟨wr.heap.size,0,none⟩) 1 1)(hlen:zs.length≤1000000000)(hB:B≤wr.heap.size)(h:∀v' w',ak B w' v' (zs++[z])→Below B wr w'→wr.grownBy w' v.ownBlock→wpList prog ops Q rest (a.put o.dst v') w'):wpList prog ops Q (o::rest) a (wr.alloc (.cells #[.bool b,y] 105)):=by obtain⟨i,hi,n,q,r⟩:=fS AB;have jq:=c.gO;have jx:=c.block;obtain⟨cs,h1,t,h3⟩:=c;have w:y.oneCell'=true:=aeI;refine pt _ d s x 95 f B 105 i (.agg #[.bool false,.slice none 0 0]) 2 32 xl hi n q r rfl J v zs.length (flat cs) g (oq t _) ⟨wr.heap.size,0,none⟩ 1 1 [.bool b,y] m rfl ?_ ?_ ?_ ?_ ?_ ?_;exact vR wr (.bool b) y 105;intro u hu;simp at hu;rcases hu with rfl|rfl;rfl;exact w;unfold maxLen;omega;omega;simp;omega;intro v' w' g1 g2 _;have hg:wr.grownBy w' v.ownBlock:=auW;exact T19
def eK(zs:ae)(v:Value)(w:World)(q:cF w v zs)(T:zs.length≤1000000)(N:∀i,i<zs.length→Fit (zs.getD i 0)):Calls prog 96 #[v] w fun e w'=>∃x,e=.returned x∧ak w.heap.size w' x (tz zs)∧Below w.heap.size w w':=by
 obtain⟨W,X,rfl⟩:=ak.val q;obtain⟨n,B⟩:∃n,Hid (wN zs zs.length=n):=⟨_,rfl⟩;unfold tz;rw[B.O];go_enter func96,ntmps96;go_wp2_with fail;go_loopw [3] (fun c wr=>∃(k:Nat),k≤zs.length∧c=.int .i64 k∧Hid (wN zs k=n)∧Below w.heap.size w wr) (fun c _=>(intOf c).toNat);case atStart=>exact⟨zs.length,Z _,rfl,B,aL _ _⟩
 case round=>
  obtain⟨k,hk,rfl,f,d⟩:=hrel;cases k with
  |zero=>have r:n=0:=f.O.symm;subst r;go_wp2_with fail;refine FI 1 ?_;rw[zd];go_wp2;go_ret;refine⟨_,rfl,?_,d.alloc d.size _⟩;have:=ak.lit (w:=wr) rfl;exact(ak.lower this d.size)
  |succ j=>obtain⟨g,b,xa,xn,xc,rfl,eL,ff,hg,_,C,D,E⟩:=ak.at (ak.E q d) j o;obtain⟨z,HZ⟩:∃z,Hid (zs.getD j 0=z):=⟨_,rfl⟩;rw[HZ.O]at E;have F:=N j o;rw[HZ.O]at F;have hS:=n_ _ z wr E F;(have G:(z=0∧fA z=0)∨(z≠0∧(fA z==0)=false):=by unfold fA;rcases(show z=0∨z<0∨0<z by omega)with h|h|h;left;subst h;simp;right;exact⟨o,by rw[V h];rfl⟩;right;exact⟨o,by rw[U o,U o];rfl⟩);generalize fA z=sz at*;rcases G with⟨eI,rfl⟩|⟨eI,G⟩;(·(have P:Hid (wN zs j=n):=by have:=f.O;rw[wN,V Vm]at this;exact this);clear f HZ eI;go_wp2_with fail;refine hS.mono ?_;rintro e l ⟨rfl,t⟩;go_wp2_with fail;go_roundw;(case rel=>exact⟨j,o,by go_num,P,d.tr t⟩);case measure=>simp[intOf]);·(have r:n=j+1:=by have:=f.O;rw[wN,U Vm]at this;exact this.symm);subst r;clear f HZ eI;go_wp2_with fail;refine hS.mono ?_;rintro e l ⟨rfl,t⟩;have H:=d.tr t;have Q:=H.size;go_wp2_with fail;go_loopw [4,5] (fun s i I=>∃(k:Nat),k≤j+1∧i=.int .i64 k∧ak l.heap.size I s (zs.take k)∧Below l.heap.size l I) (fun _ i _=>j+1-(intOf i).toNat);(case atStart=>exact⟨0,aU _,rfl,ak.lit rfl,(aL _ _).alloc (Z _) _⟩);case round=>clear C D hS;obtain⟨k,l8,rfl,u,y⟩:=hrel;have K:Below w.heap.size w wr:=H.tr y;by_cases aM:k<j+1;(·obtain⟨g',b',ya,yn,yc,L,_,_,Ax,_,C,D,m⟩:=ak.at (ak.E q K) k o;simp at L;subst L;obtain⟨z2,a⟩:∃z2,Hid (zs.getD k 0=z2):=⟨_,rfl⟩;rw[a.O]at m;(have p:zs.take (k+1)=zs.take k++[z2]:=by rw[j4 o,←bQ o,a.O]);have A:Hid _:=p;clear p a;go_wp2_with(at_builtin;refine dV rfl (.tmp 27) (.tmp 32) rfl l.heap.size _ (zs.take k) _ _ z2 rfl u m rfl mI y.size ?_);intro v' w3 M R _;rw[←A.O]at M;go_wp2;go_roundw;(case rel=>exact⟨k+1,o,by go_num,M,y.trans R⟩);case measure=>simp[intOf];omega);·(obtain rfl:k=j+1:=by omega);obtain⟨sa,sc,S⟩:=u.val;subst S;go_wp2;go_ret;exact⟨_,rfl,ak.lower u Q,K⟩
end Go.Proofs.YtldcjkhbiffdoaaGreatDoor
