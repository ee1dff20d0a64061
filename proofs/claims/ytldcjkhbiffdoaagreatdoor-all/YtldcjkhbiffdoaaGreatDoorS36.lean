import Derived.Test.YtldcjkhbiffdoaaGreatDoorS32
set_option maxRecDepth 100000
set_option maxHeartbeats 40000000
set_option linter.unusedSimpArgs false
set_option linter.defProp false
namespace Go.Proofs.YtldcjkhbiffdoaaGreatDoor
open Go.RowKit Go.Proofs.Tryz
abbrev Wd:=UInt8×List UInt8×Nat
def tY(l:List UInt8):Nat→Nat→List Wd
|0,_=> []
|f+1,n=>
 match l[n]? with
 |none=> [(46,[],l.length)]
 |some c=>
  if c=32 then tY l f (n+1)
  else if aJ c then(48,ez (l.drop n),n)::tY l f (n+(ez (l.drop n)).length)
  else(c,[],n)::tY l f (n+1)
def yW(l:List UInt8)(n:Nat):List Wd:=tY l (l.length+1-n) n
def nx(l:List UInt8):∀(f g n:Nat),l.length+1-n≤f→l.length+1-n≤g→n≤l.length→tY l f n=tY l g n
|0,_,n,h,_,a=>o
|f+1,0,n,_,h,a=>o
|f+1,g+1,n,i,j,a=>by
 unfold tY;cases hc:l[n]? with
 |none=>rfl
 |some c=>have k:=(eQ.1 hc).1;simp only;split;exact nx l f g (n+1) o o o;split;rename_i b;have d:=ny hc b;have e:=rN (l.drop n);rw[rR]at e;(have m:0<(ez (l.drop n)).length:=by rw[d];simp);rw[nx l f g (n+(ez (l.drop n)).length) o o o];rw[nx l f g (n+1) o o o]
def Of{l:List UInt8}{n:Nat}(h:n=l.length):yW l n=[(46,[],l.length)]:=by unfold yW;rw[show l.length+1-n=0+1 by omega];unfold tY;rw[dF o]
def ED{l:List UInt8}{n:Nat}(h:l[n]?=some 32):yW l n=yW l (n+1):=by have b:=(eQ.1 h).1;unfold yW;obtain⟨f,a⟩:∃f,l.length+1-n=f+1:=⟨l.length-n,o⟩;rw[a];(conv=>lhs;unfold tY);rw[h];simp only[V];exact nx l _ _ _ o o o
def Oo{l:List UInt8}{n:Nat}{c:UInt8}(h:l[n]?=some c)(a:aJ c=true):yW l n=(48,ez (l.drop n),n)::yW l (n+(ez (l.drop n)).length):=by
 have j:=(eQ.1 h).1;have b:=ny h a;have d:=rN (l.drop n);rw[rR]at d;have k:0<(ez (l.drop n)).length:=by rw[b];simp
 have g:c≠32:=by intro e;subst e;simp[aJ]at a
 unfold yW;obtain⟨f,i⟩:∃f,l.length+1-n=f+1:=⟨l.length-n,o⟩;rw[i];conv=>lhs;unfold tY
 rw[h];simp only[U g,V a];rw[nx l f (l.length+1-(n+(ez (l.drop n)).length)) _ o o o]
def OJ{l:List UInt8}{n:Nat}{c:UInt8}(h:l[n]?=some c)(a:c≠32)(b:aJ c=false):yW l n=(c,[],n)::yW l (n+1):=by have e:=(eQ.1 h).1;unfold yW;obtain⟨f,d⟩:∃f,l.length+1-n=f+1:=⟨l.length-n,o⟩;rw[d];(conv=>lhs;unfold tY);rw[h];simp only[U a,b];rw[U J,nx l f (l.length+1-(n+1)) _ o o o]
def Oy(l:List UInt8):∀(d n:Nat),l.length-n=d→n≤l.length→yW l n=yW l (eW l n)
|0,n,h,b=>by rw[oe];rw[dF o];simp
|d+1,n,h,b=>by by_cases a:l[n]?=some 32;rw[ED a,BH a];exact Oy l d (n+1) o o;rw[oe a]
structure St where
 ms:List (Int×Nat)
 c:Int
 e:Nat
 neg:Bool
 st:Nat
def jc(st:Nat):Bool:=st==2||st==4||st==6
def fH(len:Nat)(s:St)(w:Wd):Option St:=
 if s.st=0∧w.1=45 then some ⟨s.ms,s.c,s.e,true,1⟩
 else if s.st<2∧w.1=48 then some ⟨s.ms,(numOf 0 w.2.1:Int),s.e,s.neg,2⟩
 else if(s.st<2∧w.1=120)∨(s.st=3∧w.1=120)then some ⟨s.ms,s.c,1,s.neg,4⟩
 else if s.st=2∧w.1=42 then some ⟨s.ms,s.c,s.e,s.neg,3⟩
 else if s.st=4∧w.1=94 then some ⟨s.ms,s.c,s.e,s.neg,5⟩
 else if s.st=5∧w.1=48 then some ⟨s.ms,s.c,numOf 0 w.2.1,s.neg,6⟩
 else if jc s.st=true∧(w.1=43∨w.1=45∨(w.1=46∧w.2.2=len))then some ⟨s.ms++[(if s.neg then -s.c else s.c,s.e)],1,0,decide (w.1=45),1⟩
 else none
def fw(len:Nat):List Wd→St→Nat ⊕ List (Int×Nat)
 | [],s=>.inr s.ms
 |w::ws,s=>match fH len s w with
  |none=>.inl w.2.2
  |some s'=>fw len ws s'
def RR(l:List UInt8)(s:St)(n:Nat):Nat ⊕ List (Int×Nat):=fw l.length (yW l n) s
def pD{l:List UInt8}{n:Nat}(s:St)(a:n≤l.length):RR l s n=RR l s (eW l n):=by unfold RR;rw[Oy l _ n rfl a]
def GO{l:List UInt8}{n:Nat}(s:St)(h:n=l.length):RR l s n=match fH l.length s (46,[],l.length)with
  |none=>.inl l.length
  |some s'=>.inr s'.ms:=by
 unfold RR;rw[Of h];rfl
def Gr{l:List UInt8}{n:Nat}{c:UInt8}(s:St)(h:l[n]?=some c)(a:aJ c=true):RR l s n=match fH l.length s (48,ez (l.drop n),n)with
  |none=>.inl n
  |some s'=>RR l s' (n+(ez (l.drop n)).length):=by
 unfold RR;rw[Oo h a];rfl
def GA{l:List UInt8}{n:Nat}{c:UInt8}(s:St)(h:l[n]?=some c)(a:c≠32)(b:aJ c=false):RR l s n=match fH l.length s (c,[],n)with
  |none=>.inl n
  |some s'=>RR l s' (n+1):=by
 unfold RR;rw[OJ h a b];rfl
def De(l:List UInt8):∀(d n:Nat),l.length-n=d→l[eW l n]?≠some 32
|0,n,h=>by rw[oe];rw[dF o];simp;rw[dF o];simp
|d+1,n,h=>by by_cases a:l[n]?=some 32;rw[BH a];exact De l d (n+1) o;rw[oe a];exact a
def lV(l:List UInt8)(n:Nat):eW l (eW l n)=eW l n:=oe (De l _ n rfl)
def VE{l:List UInt8}{n:Nat}(s:St)(f:n≤l.length)(h:∀w:Wd,(l[eW l n]?=none→w=(46,[],l.length))→(∀c,l[eW l n]?=some c→(aJ c=true→w.1=48)∧(aJ c=false→w.1=c)∧w.2.2<l.length)→fH l.length s w=none):RR l s n=.inl (eW l n):=by
 rw[pD s f];have m:=qK f;cases hc:l[eW l n]? with
 |none=>(have g:eW l n=l.length:=by rcases aX (eW l n) l.length with h|h;rw[cj h]at hc;cases hc;omega);rw[GO s g,h _ (fun _=>rfl) (fun c i=>by rw[hc]at i;cases i),g]
 |some c=>
  have j:=(eQ.1 hc).1;have k:c≠32:=by intro e;subst e;exact De l _ n rfl hc
  cases d:aJ c with
  |true=>rw[Gr s hc d,h];intro a;rw[hc]at a;cases a;intro c' a;rw[hc]at a;cases a;exact⟨fun _=>rfl,fun b=>(by rw[d]at b;cases b),j⟩
  |false=>rw[GA s hc k d,h];intro a;rw[hc]at a;cases a;intro c' a;rw[hc]at a;cases a;exact⟨fun b=>(by rw[d]at b;cases b),fun _=>rfl,j⟩
def D7{l:List UInt8}{n:Nat}{c:UInt8}{s s':St}(a:n≤l.length)(h:l[eW l n]?=some c)(b:aJ c=false)(d:fH l.length s (c,[],eW l n)=some s'):RR l s n=RR l s' (eW l n+1):=by(have f:c≠32:=by intro e;subst e;exact De l _ n rfl h);rw[pD s a,GA s h f b,d]
def VI{l:List UInt8}{n:Nat}{s s':St}(d:n≤l.length)(h:(rdNum l n).1=true)(f:fH l.length s (48,ez (l.drop (eW l n)),eW l n)=some s'):RR l s n=RR l s' (rdNum l n).2.2:=by
 have b:ez (l.drop (eW l n))≠ []:=by intro e;unfold rdNum at h;rw[e]at h;simp at h
 obtain⟨c,hc,a⟩:∃c,l[eW l n]?=some c∧aJ c=true:=by
  cases hc:l[eW l n]? with
  |none=>exact absurd (qC fun c h=>by rw[hc]at h;cases h) b
  |some c=>
   refine⟨c,rfl,?_⟩;cases a:aJ c with
   |true=>rfl
   |false=>exact absurd (qC fun c' h=>by rw[hc]at h;cases h;exact a) b
 rw[pD s d,Gr s hc a,f];rfl
def Ke{l:List UInt8}{n:Nat}(h:¬(rdNum l n).1=true):(rdNum l n).2.2=eW l n∧∀c,l[eW l n]?=some c→aJ c=false:=by
 have a:ez (l.drop (eW l n))=[]:=by unfold rdNum at h;simp at h;exact h
 refine⟨by unfold rdNum;rw[a];rfl,fun c hc=>?_⟩;cases b:aJ c with
 |false=>rfl
 |true=>rw[ny hc b]at a;cases a
def qI{l:List UInt8}{n:Nat}{c:UInt8}(h:(dK l c n).1=true):l[eW l n]?=some c∧(dK l c n).2=eW l n+1:=by unfold dK at h ⊢;split;rename_i a;exact⟨a,rfl⟩;rename_i a;rw[U a]at h;cases h
def vO{l:List UInt8}{n:Nat}{c:UInt8}(h:¬(dK l c n).1=true):l[eW l n]?≠some c∧(dK l c n).2=eW l n:=by unfold dK at h ⊢;split;rename_i a;rw[V a]at h;exact absurd rfl h;rename_i a;exact⟨a,rfl⟩
def yS{l:List UInt8}{c:UInt8}{n:Nat}(h:n≤l.length):(dK l c n).2≤l.length:=by by_cases a:(dK l c n).1=true;obtain⟨b,d⟩:=qI a;have:=(eQ.1 b).1;omega;rw[(vO a).2];exact qK h
def BD{l:List UInt8}{n:Nat}(h:n≤l.length):(rdNum l n).2.2≤l.length:=T49
def sU{l:List UInt8}{n:Nat}{c:UInt8}{w:Wd}(hc:l[eW l n]?≠some c)(g:c≠48)(a:c≠46)(i:l[eW l n]?=none→w=(46,[],l.length))(b:∀c,l[eW l n]?=some c→(aJ c=true→w.1=48)∧(aJ c=false→w.1=c)∧w.2.2<l.length):w.1≠c:=by
 cases h:l[eW l n]? with
 |none=>rw[i h];exact fun e=>a e.symm
 |some d=>
  cases f:aJ d with
  |true=>rw[((b d h).1 f)];exact fun e=>g e.symm
  |false=>rw[((b d h).2.1 f)];intro e;rw[h,e]at hc;exact hc rfl
def Dj{l:List UInt8}{n:Nat}{w:Wd}(hc:∀c,l[eW l n]?=some c→aJ c=false)(b:l[eW l n]?=none→w=(46,[],l.length))(f:∀c,l[eW l n]?=some c→(aJ c=true→w.1=48)∧(aJ c=false→w.1=c)∧w.2.2<l.length):w.1≠48:=by
 cases h:l[eW l n]? with
 |none=>rw[b h];show(46:UInt8)≠48;decide
 |some d=>have a:=hc d h;rw[((f d h).2.1 a)];intro e;subst e;simp[aJ]at a
def WY{l:List UInt8}{n:Nat}(ms:List (Int×Nat))(c:Int)(i:Nat)(neg:Bool)(st:Nat)(j:n≤l.length)(t:st=3∨(st=1∧∀c,l[eW l n]?=some c→aJ c=false)):((dp l n).1=true→∃k,(k=4∧l[eW l (dp l n).2.2]?≠some 94∨k=6)∧RR l ⟨ms,c,i,neg,st⟩ n=RR l ⟨ms,c,(dp l n).2.1,neg,k⟩ (dp l n).2.2∧(dp l n).2.2≤l.length∧n<(dp l n).2.2)∧(¬(dp l n).1=true→RR l ⟨ms,c,i,neg,st⟩ n=.inl (dp l n).2.2):=by
 have C:=pC l n;by_cases a:(dK l 120 n).1=true;obtain⟨m,p⟩:=qI a;have d:=yS (c:=120) j;have u:RR l ⟨ms,c,i,neg,st⟩ n=RR l ⟨ms,c,1,neg,4⟩ (dK l 120 n).2:=by rw[p];refine D7 j m J ?_;unfold fH;rcases t with rfl|⟨rfl,_⟩<;>simp
 rw[u];have v:=pC l (dK l 120 n).2;by_cases e:(dK l 94 (dK l 120 n).2).1=true;obtain⟨q,f⟩:=qI e;have r:=yS (c:=94) d;have b:dp l n=rdNum l (dK l 94 (dK l 120 n).2).2:=by unfold dp;rw[V a,V e]
 rw[b];have x:RR l ⟨ms,c,1,neg,4⟩ (dK l 120 n).2=RR l ⟨ms,c,1,neg,5⟩ (dK l 94 (dK l 120 n).2).2:=by rw[f];exact D7 d q J V7
 rw[x];refine⟨fun s=>⟨6,.inr rfl,?_,BD r,?_⟩,fun s=>?_⟩;exact VI r s (by unfold fH;simp[rdNum]);show n<eW l _+_;have:=pC l (dK l 94 (dK l 120 n).2).2;omega;obtain⟨y,z⟩:=Ke s;rw[y];refine VE _ r fun w g w2=>?_;have:=Dj z g w2;unfold fH;simp[this,jc];obtain⟨q,f⟩:=vO e;have b:dp l n=(true,1,(dK l 94 (dK l 120 n).2).2):=by unfold dp;rw[V a,U e]
 rw[b];refine⟨fun _=>⟨4,.inl ⟨rfl,?_⟩,?_,?_,?_⟩,fun h=>absurd rfl h⟩;show l[eW l (dK l 94 (dK l 120 n).2).2]?≠_;rw[f,lV];exact q;show _=RR l _ (dK l 94 (dK l 120 n).2).2;rw[f,←pD _ d];show(dK l 94 (dK l 120 n).2).2≤_;exact yS d;show n<(dK l 94 (dK l 120 n).2).2;omega;obtain⟨m,p⟩:=vO a;have b:dp l n=(false,0,(dK l 120 n).2):=by unfold dp;rw[U a]
 rw[b];refine⟨fun h=>cT,fun _=>?_⟩;show _=Sum.inl (dK l 120 n).2;rw[p];refine VE _ j fun w g w2=>?_;have hw:=sU m J J g w2;rcases t with rfl|⟨rfl,A⟩;unfold fH;simp[hw,jc];have B:=Dj A g w2;unfold fH;simp[hw,B,jc]
def abO{l:List UInt8}{n:Nat}(ms:List (Int×Nat))(neg:Bool)(g:n≤l.length):((aQ l n).1=true→∃a,(a=2∧l[eW l (aQ l n).2.2.2]?≠some 42∨a=4∧l[eW l (aQ l n).2.2.2]?≠some 94∨a=6)∧RR l ⟨ms,1,0,neg,1⟩ n=RR l ⟨ms,((aQ l n).2.1:Int),(aQ l n).2.2.1,neg,a⟩ (aQ l n).2.2.2∧(aQ l n).2.2.2≤l.length∧n<(aQ l n).2.2.2)∧(¬(aQ l n).1=true→RR l ⟨ms,1,0,neg,1⟩ n=.inl (aQ l n).2.2.2):=by
 have y:=pC l n;by_cases b:(rdNum l n).1=true;have i:=BD g;have z:n<(rdNum l n).2.2:=by unfold rdNum at b ⊢;simp at b;have:=bR.2 b;simp only;omega
 have s:RR l ⟨ms,1,0,neg,1⟩ n=RR l ⟨ms,((rdNum l n).2.1:Int),0,neg,2⟩ (rdNum l n).2.2:=VI g b (by unfold fH;simp[rdNum]);rw[s];have t:=pC l (rdNum l n).2.2;by_cases j:(dK l 42 (rdNum l n).2.2).1=true;obtain⟨m,k⟩:=qI j;have u:=yS (c:=42) i;have e:aQ l n=((dp l (dK l 42 (rdNum l n).2.2).2).1,(rdNum l n).2.1,(dp l (dK l 42 (rdNum l n).2.2).2).2.1,(dp l (dK l 42 (rdNum l n).2.2).2).2.2):=by unfold aQ;rw[V b,V j]
 rw[e];have v:RR l ⟨ms,((rdNum l n).2.1:Int),0,neg,2⟩ (rdNum l n).2.2=RR l ⟨ms,((rdNum l n).2.1:Int),0,neg,3⟩ (dK l 42 (rdNum l n).2.2).2:=by rw[k];exact D7 i m J V7
 rw[v];obtain⟨g1,g2⟩:=WY ms ((rdNum l n).2.1:Int) 0 neg 3 u (.inl rfl);refine⟨fun d=>?_,g2⟩;obtain⟨a,p,q,r,w⟩:=g1 d;exact⟨a,.inr p,q,r,aho⟩;obtain⟨m,k⟩:=vO j;have e:aQ l n=(true,(rdNum l n).2.1,0,(dK l 42 (rdNum l n).2.2).2):=by unfold aQ;rw[V b,U j]
 rw[e];refine⟨fun _=>⟨2,.inl ⟨rfl,?_⟩,?_,?_,?_⟩,fun h=>absurd rfl h⟩;show l[eW l (dK l 42 (rdNum l n).2.2).2]?≠_;rw[k,lV];exact m;show _=RR l _ (dK l 42 (rdNum l n).2.2).2;rw[k,←pD _ i];show(dK l 42 (rdNum l n).2.2).2≤_;exact yS i;show n<(dK l 42 (rdNum l n).2.2).2;omega;obtain⟨f,x⟩:=Ke b;have e:aQ l n=((dp l (rdNum l n).2.2).1,1,(dp l (rdNum l n).2.2).2.1,(dp l (rdNum l n).2.2).2.2):=by unfold aQ;rw[U b]
 rw[e];obtain⟨g1,g2⟩:=WY (l:=l) (n:=(rdNum l n).2.2) ms 1 0 neg 1 (BD g) (.inr ⟨rfl,by rw[f,lV];exact x⟩);rw[f,←pD _ g]at g1 g2;refine⟨fun d=>?_,fun d=>?_⟩;rw[f]at d;obtain⟨a,p,q,r,w⟩:=g1 d;rw[f];exact⟨a,.inr p,by rw[q];rfl,r,aho⟩;rw[f]at d ⊢;exact g2 d
def Ka(ms:List (Int×Nat))(q:Int×Nat):dX (ms++[q]) []=iD q.1 q.2 (dX ms []):=by unfold dX;rw[C0];rfl
def Gz{len:Nat}{s:St}{w:Wd}(a:jc s.st=true)(b:¬(s.st=2∧w.1=42))(c:¬(s.st=4∧w.1=94)):fH len s w=if w.1=43∨w.1=45∨(w.1=46∧w.2.2=len)then some ⟨s.ms++[(if s.neg then -s.c else s.c,s.e)],1,0,decide (w.1=45),1⟩else none:=by unfold fH;(have d:s.st=2∨s.st=4∨s.st=6:=by unfold jc at a;simp at a;omega);rw[U o,U o,U o,U b,U c,U o];simp[a]
def Ms(l:List UInt8):∀(f:Nat) (m:Bool) (n:Nat) (ms:List (Int×Nat)),n≤l.length→l.length+1-n≤f→
  match RR l ⟨ms,1,0,m,1⟩ n with
  |.inl p=>(mK l f m n (dX ms [])).1=false∧(mK l f m n (dX ms [])).2.1=p
  |.inr ms'=>(mK l f m n (dX ms [])).1=true∧(mK l f m n (dX ms [])).2.2=dX ms' []
 |0,m,n,ms,u,y=>o
 |f+1,m,n,ms,u,y=>by
  obtain⟨g1,g2⟩:=abO ms m u
  by_cases a:(aQ l n).1=true
  ·obtain⟨v,r,z,b,H⟩:=g1 a
   rw[z]
   have A:jE l m n (dX ms [])=dX (ms++[(if m then -((aQ l n).2.1:Int)else((aQ l n).2.1:Int),(aQ l n).2.2.1)]) []:=by
    rw[Ka]
    unfold jE
    rw[V a]
    rfl
   have hse:jc v=true:=by rcases r with⟨rfl,_⟩|⟨rfl,_⟩|rfl<;>rfl
   have B:=qK b
   have C:=pC l (aQ l n).2.2.2
   unfold mK
   rw[V a,A]
   by_cases x:l.length≤eW l (aQ l n).2.2.2
   ·rw[V x,pD _ b,GO _ o,Gz hse Y Y]
    simp
   ·rw[U x]
    obtain⟨c,hc⟩:∃c,l[eW l (aQ l n).2.2.2]?=some c:=⟨_,cj o⟩
    by_cases i:(dK l 45 (eW l (aQ l n).2.2.2)).1=true
    ·obtain⟨d,s⟩:=qI i
     rw[V i,s]
     rw[lV]at d ⊢
     rw[D7 (s':=⟨ms++[(if m then -((aQ l n).2.1:Int)else((aQ l n).2.1:Int),(aQ l n).2.2.1)],1,0,true,1⟩) b d J agW]
     exact Ms l f true _ _ o o
    ·obtain⟨d,s⟩:=vO i
     rw[U i,s]
     rw[lV]at d ⊢
     by_cases j:(dK l 43 (eW l (aQ l n).2.2.2)).1=true
     ·obtain⟨e,t⟩:=qI j
      rw[V j,t]
      rw[lV]at e ⊢
      rw[D7 (s':=⟨ms++[(if m then -((aQ l n).2.1:Int)else((aQ l n).2.1:Int),(aQ l n).2.2.1)],1,0,false,1⟩) b e J agW]
      exact Ms l f false _ _ o o
     ·obtain⟨e,t⟩:=vO j
      rw[U j,t]
      rw[lV]at e ⊢
      have D:RR l ⟨ms,((aQ l n).2.1:Int),(aQ l n).2.2.1,m,v⟩ (aQ l n).2.2.2=.inl (eW l (aQ l n).2.2.2):=by
       refine VE _ b fun w q w2=>?_
       have E:=sU d J J q w2
       have F:=sU e J J q w2
       have I:=(w2 c hc).2.2
       have G:¬(w.1=43∨w.1=45∨(w.1=46∧w.2.2=l.length)):=by
        rintro(h|h|⟨_,h⟩)
        ·exact F h
        ·exact E h
        ·omega
       rw[Gz hse,U G]
       ·rintro⟨g,q2⟩
        rcases r with⟨_,k⟩|⟨rfl,_⟩|rfl
        ·exact sU k J J q w2 q2
        ·simp at g
        ·simp at g
       ·rintro⟨g,q2⟩
        rcases r with⟨rfl,_⟩|⟨_,k⟩|rfl
        ·simp at g
        ·exact sU k J J q w2 q2
        ·simp at g
      rw[D]
      exact⟨rfl,rfl⟩
  ·rw[g2 a]
   unfold mK
   rw[U a]
   exact⟨rfl,rfl⟩
def setAt(p:ae)(e:Nat)(c:Int):ae:=(p++List.replicate (e+1-p.length) 0).set e c
def P4(p:ae)(e:Nat)(c:Int):(setAt p e c).length=max p.length (e+1):=by unfold setAt;simp;omega
def Bn(p:ae)(e:Nat)(c:Int)(k:Nat):(setAt p e c).getD k 0=if k=e then c else p.getD k 0:=by unfold setAt;have b:e<(p++List.replicate (e+1-p.length) (0:Int)).length:=aZ;by_cases a:k=e;subst a;rw[V rfl];simp only[List.getD,tM b,Option.getD_some];rw[U a];simp only[List.getD];rw[rP (fun h=>a h.symm)];rcases aX k p.length with h|h;rw[eo h];rw[iN h,dF h,vG];split<;>rfl
def Ir(all:List (Int×Nat)):List (Int×Nat)→ae→Option (ae)
| [],p=>some p
|q::ms,p=>if pM q.2 all=0 then Ir all ms p else if 10<q.2 then none else Ir all ms (setAt p q.2 (pM q.2 all))
def Tr.setAt{p:ae}(h:Tr p){e:Nat}{c:Int}(hc:c≠0):Tr (setAt p e c):=by intro _;rw[P4,Bn];split;exact hc;(have a:e+1<p.length+0:=by omega);rw[show max p.length (e+1)-1=p.length-1 by omega];refine h ?_;intro b;subst b;simp at a
def wP(all:List (Int×Nat)):∀(ms:List (Int×Nat)) (p:ae),Ir all ms p=none↔∃q,q∈ms∧pM q.2 all≠0∧10<q.2
| [],p=>by simp[Ir]
|q::ms,p=>by unfold Ir;split;rename_i h;rw[wP all ms p];constructor;rintro⟨r,a,b⟩;exact⟨r,eh _ a,b⟩;rintro⟨r,a,b⟩;rcases ep.1 a with rfl|a;exact absurd h b.1;exact⟨r,a,b⟩;rename_i h;split;rename_i c;simp only[true_iff];exact⟨q,dh ..,h,c⟩;rename_i c;rw[wP all ms _];constructor;rintro⟨r,a,b⟩;exact⟨r,eh _ a,b⟩;rintro⟨r,a,b⟩;rcases ep.1 a with rfl|a;exact absurd b.2 c;exact⟨r,a,b⟩
def Bl(all:List (Int×Nat)):∀(ms:List (Int×Nat)) (p P:ae),Ir all ms p=some P→Tr p→(∀k,p.getD k 0=pM k all∨(p.getD k 0=0∧((∃q,q∈ms∧q.2=k)∨pM k all=0)))→Tr P∧∀k,P.getD k 0=pM k all
| [],p,P,h,d,e=>by unfold Ir at h;cases h;refine⟨d,fun k=>?_⟩;rcases e k with h|⟨b,⟨q,a,_⟩|a⟩;exact h;simp at a;rw[b,a]
|q::ms,p,P,h,d,e=>by unfold Ir at h;split at h;rename_i f;refine Bl all ms p P h d fun k=>?_;rcases e k with h|⟨b,⟨r,a,c⟩|a⟩;exact .inl h;rcases ep.1 a with rfl|a;rw[c]at f;exact .inr ⟨b,.inr f⟩;exact .inr ⟨b,.inl ⟨r,a,c⟩⟩;exact .inr ⟨b,.inr a⟩;rename_i f;split at h;cases h;refine Bl all ms _ P h (d.setAt f) fun k=>?_;rw[Bn];by_cases he:k=q.2;rw[V he,he];exact .inl rfl;rw[U he];rcases e k with h|⟨b,⟨r,a,c⟩|a⟩;exact .inl h;rcases ep.1 a with rfl|a;exact absurd c.symm he;exact .inr ⟨b,.inl ⟨r,a,c⟩⟩;exact .inr ⟨b,.inr a⟩
def wT{k:Nat}:∀ {ms:List (Int×Nat)},(∀q,q∈ms→q.2≠k)→pM k ms=0
| [],_=>rfl
|q::ms,h=>by show(if q.2=k then q.1 else 0)+pM k ms=0;rw[U (h q (dh ..)),wT fun r a=>h r (eh _ a)];rfl
def J_{c:Int}{p:Nat}{q:Int×Nat}:∀ {ts:List (Int×Nat)},q∈iD c p ts→q.2=p∨∃r,r∈ts∧r.2=q.2
| [],h=>by simp[iD]at h;left;rw[h]
|(d,r)::ts,h=>by unfold iD at h;split at h;rename_i a;rcases ep.1 h with h|h;left;rw[h];exact a;exact .inr ⟨q,eh _ h,rfl⟩;rcases ep.1 h with h|h;exact .inr ⟨(d,r),dh ..,by rw[h]⟩;rcases J_ h with h|⟨s,b,e⟩;exact .inl h;exact .inr ⟨s,eh _ b,e⟩
def sj(ts:List (Int×Nat)):Prop:=ts.Pairwise fun a b=>a.2≠b.2
def sj.iD{c:Int}{p:Nat}:∀ {ts:List (Int×Nat)},sj ts→sj (iD c p ts)
| [],_=>by simp[Go.Proofs.YtldcjkhbiffdoaaGreatDoor.iD,sj]
|(d,q)::ts,h=>by unfold sj at h;rw[LC]at h;unfold Go.Proofs.YtldcjkhbiffdoaaGreatDoor.iD;split;unfold sj;rw[LC];exact⟨h.1,h.2⟩;rename_i b;unfold sj;rw[LC];refine⟨fun r e=>?_,sj.iD h.2⟩;rcases J_ e with a|⟨s,a,f⟩;rw[a];exact b;rw[←f];exact h.1 s a
def sj.sw:∀ {ts:List (Int×Nat)},sj ts→∀q,q∈ts→sw q.2 ts=q.1
| [],_,q,h=>cT
|(d,r)::ts,h,q,a=>by unfold sj at h;rw[LC]at h;unfold Go.Proofs.YtldcjkhbiffdoaaGreatDoor.sw;rcases ep.1 a with rfl|a;rw[V rfl];rw[U (h.1 q a),sj.sw h.2 q a]
def sj.dX:∀(tl:List (Int×Nat)) {ts:List (Int×Nat)},sj ts→sj (dX tl ts)
| [],_,h=>h
|q::tl,ts,h=>sj.dX tl (ts:=Go.Proofs.YtldcjkhbiffdoaaGreatDoor.iD q.1 q.2 ts) h.iD
def O8{k:Nat}:∀ {ts:List (Int×Nat)},sw k ts≠0→(sw k ts,k)∈ts
| [],h=>absurd rfl h
|(d,q)::ts,h=>by unfold sw at h ⊢;split;rename_i a;rw[a];exact dh ..;rename_i a;rw[U a]at h;exact eh _ (O8 h)
def AW(k:Nat)(ms:List (Int×Nat)):sw k (dX ms [])=pM k ms:=by rw[BS];show 0+pM k ms=pM k ms;omega
def ve(l:List UInt8):Nat×Nat×ae:=
 if 200<l.length then(1,0,[])
 else match RR l ⟨[],1,0,false,0⟩ 0 with
  |.inl p=>(2,p,[])
  |.inr ms=>match Ir ms ms []with
   |none=>(3,0,[])
   |some P=>if mo P then(0,0,P)else(3,0,[])
def F9(ms:List (Int×Nat)):(dX ms []).any sA=true↔∃q,q∈ms∧pM q.2 ms≠0∧10<q.2:=by rw[List.any_eq_true];constructor;rintro⟨q,d,a⟩;unfold sA at a;simp at a;have b:=sj.sw (sj.dX ms (ts:=[]) List.Pairwise.nil) q d;rw[AW]at b;by_cases c:∃r,r∈ms∧r.2=q.2;obtain⟨r,f,g⟩:=c;exact⟨r,f,by rw[g,b];exact a.1,o⟩;exact absurd (wT fun r h e=>c ⟨r,h,e⟩) (by rw[b];exact a.1);rintro⟨q,d,a,b⟩;have c:=O8 (k:=q.2) (ts:=dX ms []) (by rw[AW];exact a);refine⟨_,c,?_⟩;unfold sA;rw[AW];simp[a,b]
def JY(ts:List (Int×Nat))(n k:Nat):(fI ts n).getD k 0=if k<n then sw k ts else 0:=cB n (fun k=>sw k ts) k
def UZ(ms:List (Int×Nat)):(match Ir ms ms []with
   |none=>(3,0,[])
   |some P=>if mo P then(0,0,P)else(3,0,[]):Nat×Nat×ae)=if(dX ms []).any sA then(3,0,[])else if mo (tz (fI (dX ms []) 11))then(0,0,tz (fI (dX ms []) 11))else(3,0,[]):=by
 cases a:Ir ms ms []with
 |none=>rw[V ((F9 ms).2 ((wP ms ms []).1 a))]
 |some P=>
  have d:¬(dX ms []).any sA=true:=by
   intro h
   rw[(wP ms ms []).2 ((F9 ms).1 h)]at a
   cases a
  rw[U d]
  obtain⟨f,g⟩:=Bl ms ms [] P a Tr.nil fun k=>by
   by_cases h:∃q,q∈ms∧q.2=k
   ·exact .inr ⟨Y,.inl h⟩
   ·exact .inr ⟨Y,.inr (wT fun r b e=>h ⟨r,b,e⟩)⟩
  have i:tz (fI (dX ms []) 11)=P:=by
   refine CQ f fun k=>?_
   rw[JY,AW,g]
   split
   ·rfl
   ·rename_i m
    by_cases c:pM k ms=0
    ·exact c.symm
    ·exfalso
     apply d
     rw[F9]
     by_cases h:∃q,q∈ms∧q.2=k
     ·obtain⟨q,j,l⟩:=h
      exact⟨q,j,by rw[l];exact c,o⟩
     ·exact absurd (wT fun r b e=>h ⟨r,b,e⟩) c
  rw[i]
def KD(l:List UInt8):ve l=pread l:=by
 unfold ve pread;by_cases a:200<l.length;rw[V a,V a]
 ·rw[U a,U a];have r:=yS (l:=l) (c:=45) (n:=0) (aU _);have d:RR l ⟨[],1,0,false,0⟩ 0=RR l ⟨[],1,0,(dK l 45 0).1,1⟩ (dK l 45 0).2:=by
   by_cases h1:(dK l 45 0).1=true;obtain⟨f,g⟩:=qI h1;rw[h1,g];exact D7 (aU _) f J V7
   ·obtain⟨f,g⟩:=vO h1;have s:(dK l 45 0).1=false:=l9;rw[s,g,←pD _ (aU _)];rw[pD _ (aU _),pD ⟨[],1,0,false,1⟩ (aU _)];(have i:∀w:Wd,w.1≠45→fH l.length ⟨[],1,0,false,0⟩ w=fH l.length ⟨[],1,0,false,1⟩ w:=by intro w hw;unfold fH;simp[hw,jc]);have hle:=qK (l:=l) (n:=0) (aU _);cases hc:l[eW l 0]? with
    |none=>(have k:eW l 0=l.length:=by rcases aX (eW l 0) l.length with h|h;rw[cj h]at hc;cases hc;omega);rw[GO _ k,GO _ k,i _ (by show(46:UInt8)≠45;decide)]
    |some c=>
     (have m:c≠32:=by intro e;subst e;exact De l _ 0 rfl hc);(have j:c≠45:=by intro e;subst e;exact f hc);cases b:aJ c with
     |true=>rw[Gr _ hc b,Gr _ hc b,i _ (by show(48:UInt8)≠45;decide)]
     |false=>rw[GA _ hc m b,GA _ hc m b,i _ j]
  have hm:=Ms l (l.length+1) (dK l 45 0).1 (dK l 45 0).2 [] r o;rw[←d]at hm;have he:dX [] []=[]:=rfl;rw[he]at hm;have t:mK l (l.length+1) (dK l 45 0).1 (dK l 45 0).2 []=wJ l:=rfl;rw[t]at hm;cases q:RR l ⟨[],1,0,false,0⟩ 0 with
  |inl p=>rw[q]at hm;simp only at hm;rw[hm.1,hm.2];simp
  |inr ms=>rw[q]at hm;simp only at hm;rw[hm.1,hm.2,V rfl];exact UZ ms
end Go.Proofs.YtldcjkhbiffdoaaGreatDoor
