import Derived.Test.YtldcjkhbiffdoaaGreatDoorS00
import Derived.Lib.ItoaNum
set_option maxRecDepth 100000
set_option maxHeartbeats 40000000
set_option linter.unusedSimpArgs false
set_option linter.defProp false
namespace Go.Proofs.YtldcjkhbiffdoaaGreatDoor
open Go.RowKit Go.Proofs.Tryz
def ev(B:Int):ae→Int
| []=>0
|x::l=>x+B*ev B l
def rI(B:Int)(l:ae)(x:Int):ev B (l++[x])=ev B l+x*B^l.length:=by
 induction l with
 |nil=>simp[ev]
 |cons a l b=>simp only[zq,ev,b,kO,bW];rw[dE,Int.add_assoc,←bB,bm B x,bB,bm (B^l.length) B]
def bj(B:Int)(l:ae):Prop:=∀x,x∈l→0≤x∧x<B
def bj.nil(B:Int):bj B []:=fun x h=>cT
def bj.snoc{B:Int}{l:ae}{x:Int}(h:bj B l)(b:0≤x)(c:x<B):bj B (l++[x]):=by intro y a;rcases fo.1 a with a|a;exact h y a;simp at a;subst a;exact⟨b,c⟩
def bj.tail{B a:Int}{l:ae}(h:bj B (a::l)):bj B l:=fun x b=>h x (eh _ b)
def bj.head{B a:Int}{l:ae}(h:bj B (a::l)):0≤a∧a<B:=h a (dh ..)
def dJ{B:Int}(b:0<B){l:ae}(h:bj B l):0≤ev B l:=by
 induction l with
 |nil=>simp[ev]
 |cons a l c=>have d:=c h.tail;have e:=h.head;have f:=fO (eC b) d;simp only[ev];omega
def sZ{B:Int}(b:0<B){l:ae}(h:bj B l):ev B l<B^l.length:=by
 induction l with
 |nil=>simp[ev]
 |cons a l c=>have e:=c h.tail;have f:=h.head;have d:B*(ev B l+1)≤B*B^l.length:=mQ o (eC b);rw[dE,kJ]at d;simp only[ev,kO,bW];rw[bm (B^l.length) B];omega
def Trim(l:ae):Prop:=∀x,l.getLast?=some x→x≠0
def pow_pos{B:Int}(a:0<B)(n:Nat):0<B^n:=ky a
def xO{B:Int}(a:0<B){l:ae}(h:bj B l)(c:Trim l)(b:l≠ []):B^(l.length-1)≤ev B l:=by obtain⟨m,x,rfl⟩:∃m x,l=m++[x]:=⟨l.dropLast,l.getLast b,(MX b).symm⟩;rw[rI];have e:0≤ev B m:=dJ a (fun y d=>h y (yu _ d));have f:=h x Y;have g:x≠0:=c x Y;have:1*B^m.length≤x*B^m.length:=l_ o (eC (pow_pos a _));simp only[ri,kO,List.length_nil,pH,lu];omega
def bQ{l:ae}{i:Nat}(h:i<l.length):l.getD i 0=l[i]:=S6
def dC(B:Int)(l:ae)(i:Nat):ev B (l.take (i+1))=ev B (l.take i)+l.getD i 0*B^i:=by by_cases h:i<l.length;rw[j4 h,rI];simp[h,mN,FR (jU h)];rw[gT o,gT o];simp[List.getD,dF (yM h)]
def bj.getD{B:Int}(a:0<B){l:ae}(h:bj B l)(i:Nat):0≤l.getD i 0∧l.getD i 0<B:=by by_cases hi:i<l.length;rw[bQ hi];exact h _ (jl hi);simp[List.getD,dF (yM hi)];exact a
def bj.take{B:Int}{l:ae}(h:bj B l)(n:Nat):bj B (l.take n):=fun x a=>h x (s8 a)
def bj.drop{B:Int}{l:ae}(h:bj B l)(n:Nat):bj B (l.drop n):=fun x a=>h x (Ia a)
def RX{B:Int}(s:ae)(i:Nat)(d:s.length=i)(c x y a b:Int)(he:ev B s+c*B^i=a+b):ev B (s++[(x+y+c)%B])+(x+y+c)/B*B^(i+1)=(a+x*B^i)+(b+y*B^i):=by
 rw[rI,d,bW];have h:=aeQ (x+y+c) B;have e:(x+y+c)/B*(B^i*B)=B*((x+y+c)/B)*B^i:=by rw[bm (B^i) B,←bB,bm ((x+y+c)/B) B]
 have f:(x+y+c)%B*B^i+B*((x+y+c)/B)*B^i=x*B^i+y*B^i+c*B^i:=by rw[←c_,h,c_,c_]
 rw[e];omega
def yF{B:Int}(s:ae)(i:Nat)(d:s.length=i)(c x y a b t c':Int)(he:ev B s-c*B^i=a-b)(e:t-c'*B=x-y-c):ev B (s++[t])-c'*B^(i+1)=(a+x*B^i)-(b+y*B^i):=by
 rw[rI,d,bW];have f:c'*(B^i*B)=c'*B*B^i:=by rw[bm (B^i) B,bB]
 have g:t*B^i-c'*B*B^i=x*B^i-y*B^i-c*B^i:=by rw[←im,e,im,im]
 rw[f];omega
def Pg{B:Int}(d:0<B)(s:ae)(e:bj B s)(c:Int)(hc:c=0∨c=1)(a b:Int)(he:ev B s-c*B^s.length=a-b)(hle:b≤a):ev B s=a-b:=by rcases hc with rfl|rfl;simpa using he;have:=sZ d e;omega
def ur(B:Int)(l m:ae):ev B (l++m)=ev B l+B^l.length*ev B m:=by
 induction l with
 |nil=>simp[ev]
 |cons a l b=>simp only[zq,ev,b,kO,bW,dE];rw[bm (B^l.length) B,bB];omega
def Ks(B:Int)(l:ae)(i:Nat)(h:i≤l.length):ev B l=ev B (l.take i)+B^i*ev B (l.drop i):=by have:=ur B (l.take i) (l.drop i);rw[xT,mN,FR h]at this;exact this
def df{B:Int}(d:1<B){l m:ae}(a:bj B l)(hm:bj B m)(b:Trim m)(h:l.length<m.length):ev B l<ev B m:=by have f:=sZ o a;have g:=xO o hm b aij;(have i:B^l.length≤B^(m.length-1):=by obtain⟨k,c⟩:∃k,m.length-1=l.length+k:=⟨m.length-1-l.length,o⟩;rw[c,iF];have j:(0:Int)<B^k:=ky o;have:=mQ (show(1:Int)≤B^k by omega) (eC (pow_pos (show 0<B by omega) l.length));omega);omega
def vd{B:Int}(a:0<B){l m:ae}(b:bj B l)(hm:bj B m)(hlen:l.length=m.length)(i:Nat)(hi:i<l.length)(heq:l.drop (i+1)=m.drop (i+1))(e:l.getD i 0<m.getD i 0):ev B l<ev B m:=by rw[Ks B l (i+1) o,Ks B m (i+1) o,heq,dC,dC];have c:=sZ a (b.take i);have f:=dJ a (hm.take i);rw[mN,FR o]at c;have d:(l.getD i 0+1)*B^i≤m.getD i 0*B^i:=l_ o (eC (pow_pos a _));rw[c_]at d;omega
def xI{l m:ae}(i:Nat)(a:i<l.length)(hm:i<m.length)(heq:l.drop (i+1)=m.drop (i+1))(b:l.getD i 0=m.getD i 0):l.drop i=m.drop i:=by rw[gV a,gV hm,heq];rw[bQ a,bQ hm]at b;rw[b]
def yP(B:Int)(l:ae)(k:Nat)(y:Int)(h:k<l.length):ev B (l.set k y)=ev B l+(y-l.getD k 0)*B^k:=by
 induction l generalizing k with
 |nil=>simp at h
 |cons a l b=>
  cases k with
  |zero=>simp[ev];omega
  |succ k=>simp only[BT,ev,sW,bW];rw[b k dN,dE,←bB,←bB,bm B (y-l.getD k 0),bB,bB,bm B (B^k)];omega
def bj.set{B:Int}{l:ae}(h:bj B l)(k:Nat){y:Int}(b:0≤y)(c:y<B):bj B (l.set k y):=by intro x a;rcases List.mem_or_eq_of_mem_set a with a|a;exact h x a;subst a;exact⟨b,c⟩
def bj.tI{B:Int}(b:0<B)(n:Nat):bj B (List.replicate n 0):=by intro x a;rw[List.mem_replicate]at a;omega
def nX(B:Int)(n:Nat):ev B (List.replicate n 0)=0:=by
 induction n with
 |zero=>rfl
 |succ n a=>simp[List.replicate_succ,ev,a]
def D6{B:Int}(P:ae)(i j:Nat)(d:i+j<P.length)(x y c t b a:Int)(he:ev B P+c*B^(i+j)=b+x*a*B^i)(g:t=P.getD (i+j) 0+x*y+c):ev B (P.set (i+j) (t%B))+t/B*B^(i+(j+1))=b+x*(a+y*B^j)*B^i:=by
 rw[yP B P _ _ d];have h:=aeQ t B;have e:t/B*B^(i+(j+1))=B*(t/B)*B^(i+j):=by rw[←rM,bW,bm (B^(i+j)) B,←bB,bm (t/B) B]
 have k:(t%B-P.getD (i+j) 0)*B^(i+j)+B*(t/B)*B^(i+j)=x*y*B^(i+j)+c*B^(i+j):=by rw[←c_,←c_];congr 1;omega
 have f:x*(a+y*B^j)*B^i=x*a*B^i+x*y*B^(i+j):=by rw[dE,c_,iF,←bB,bB (x*y) (B^j),bm (B^j)]
 rw[e,f];omega
def Ra{B:Int}(d:0<B)(p x y c:Int)(e:0≤p∧p<B)(b:0≤x∧x<B)(a:0≤y∧y<B)(hc:0≤c∧c<B):0≤p+x*y+c∧p+x*y+c<B*B:=by have f:x*y≤(B-1)*(B-1):=rB o o a.1 o;(have g:(B-1)*(B-1)=B*B-2*B+1:=by rw[im,ek,kJ,lC];omega);have h:=fO b.1 a.1;omega
def rZ:(∀a b c:Int,a*(b+c)=a*b+a*c)∧(∀a b c:Int,(a+b)*c=a*c+b*c)∧(∀a b c:Int,a*(b-c)=a*b-a*c)∧(∀a b c:Int,(a-b)*c=a*c-b*c)∧(∀a b:Int,-a*b=-(a*b))∧(∀a b:Int,a*-b=-(a*b))∧(∀a b c:Int,a*b*c=a*(b*c))∧(∀a b:Int,a*b=b*a)∧(∀a b c:Int,a*(b*c)=b*(a*c))∧(∀a:Int,a*1=a)∧(∀a:Int,1*a=a):=⟨dE,c_,ek,im,jk,kT,bB,bm,gy,kJ,lC⟩
open Go
def xS:Nat→Nat→List UInt8
|0,_=> []
|k+1,n=>xS k (n/10)++[UInt8.ofNat (48+n%10)]
def AP{n:Nat}(h:¬n<10):Lib.decDigits n=Lib.decDigits (n/10)++[UInt8.ofNat (48+n%10)]:=by rw[Lib.decDigits,dif_neg h]
def OS(q:Nat)(a:0<q):∀(k x:Nat),x<10^k→Lib.decDigits (q*10^k+x)=Lib.decDigits q++xS k x
|0,x,h=>by(have:x=0:=by simp at h;exact h);subst this;simp[xS]
|k+1,x,h=>by rw[e_]at h;have b:0<10^k:=du o;(have c:q*10^(k+1)=q*10^k*10:=by rw[e_,Nat.mul_assoc]);have e:1*1≤q*10^k:=dt a b;rw[c];generalize d:q*10^k=p at*;rw[AP o,show(p*10+x)/10=p+x/10 by omega,show(p*10+x)%10=x%10 by omega,←d,OS q a k (x/10) o];simp[xS]
def TU:∀(k n:Nat),n<10^(k+1)→xS (k+1) n=List.replicate (k+1-Lib.nDigits n) 48++Lib.decDigits n
|0,n,h=>by have h:n<10:=dN;rw[H9 h,yK h];simp[xS,wm h]
|k+1,n,h=>by rw[e_]at h;show xS (k+1) (n/10)++[UInt8.ofNat (48+n%10)]=_;rw[TU k (n/10) o];by_cases a:n<10;(have b:n/10=0:=by omega);rw[b,H9 a,H9 o,yK a,yK o,wm a];rw[show k+1+1-1=(k+1-1)+1 by omega,FD];rfl;rw[Lib.nDigits_big a,AP a,show k+1+1-(Lib.nDigits (n/10)+1)=k+1-Lib.nDigits (n/10) by omega,yC]
def Tw(q x:Int)(a:0<q)(b:0≤x)(c:x<1000000000):Lib.decDigits (x+1000000000*q).toNat=Lib.decDigits q.toNat++xS 9 x.toNat:=by rw[show(x+1000000000*q).toNat=q.toNat*10^9+x.toNat by omega];exact OS q.toNat o 9 x.toNat o
def atn(x:Int)(a:0≤x)(b:x<1000000000):List.replicate (9-Lib.nDigits x.toNat) 48++Lib.decDigits x.toNat=xS 9 x.toNat:=(TU 8 x.toNat o).symm
def Jl(u:Nat):10^(Lib.nDigits u-1)≤u∨u=0:=by
 induction u using Nat.strongRecOn with
 |_ u a=>by_cases hu:u<10;rw[H9 hu];simp;omega;left;rw[Lib.nDigits_big hu];rcases a (u/10) o with b|b;have:=Lib.nDigits_pos (u/10);rw[show Lib.nDigits (u/10)+1-1=(Lib.nDigits (u/10)-1)+1 by omega,e_];omega;omega
def iP{u k:Nat}(h:u<10^k)(c:1≤k):Lib.nDigits u≤k:=by rcases aX k (Lib.nDigits u)with a|a;exfalso;rcases Jl u with b|b;have d:10^k≤10^(Lib.nDigits u-1):=cI o o;omega;rw[b,H9 o]at a;omega;exact a
def zJ(x:Int)(a:x<1000000000):Lib.nDigits x.toNat≤9:=iP o o
def KN{l:ae}(d:bj 1000000000 l):(ev 1000000000 l).toNat<10^(9*l.length):=by have h:=sZ o d;have a:=dJ o d;(have b:((10^(9*l.length):Nat):Int)=1000000000^l.length:=by rw[Nat.pow_mul,Gl];rfl);omega
def OX{l:ae}(d:bj 1000000000 l):(Lib.decDigits (ev 1000000000 l).toNat).length≤9*l.length+1:=by rw[rH];refine iP (dy (KN d) (cI o o)) o
def iq(a b:List UInt8):((⟨a.toArray⟩:ByteArray)++⟨b.toArray⟩)=⟨(a++b).toArray⟩:=by apply ByteArray.ext;simp
def itoa_nonneg{x:Int}(h:0≤x):Lib.itoa x=Lib.decDigits x.toNat:=by unfold Lib.itoa;rw[U o]
def wN(l:ae):Nat→Nat
|0=>0
|k+1=>if l.getD k 0=0 then wN l k else k+1
def nP(l:ae):∀k,wN l k≤k
|0=>Z _
|k+1=>by unfold wN;split;exact Nat.le_succ_of_le (nP l k);exact Z _
def tz(l:ae):ae:=l.take (wN l l.length)
def Jh(l:ae):∀k i,wN l k≤i→i<k→l.getD i 0=0
|0,i,_,h=>o
|k+1,i,a,c=>by unfold wN at a;split at a;(·rcases(show i=k∨i<k by omega)with rfl|b;(·assumption);exact Jh l k i a b);omega
def au{l:ae}{k:Nat}(h:l.length≤k):l.getD k 0=0:=by simp[List.getD,dF h]
def bN(L:ae)(k:Nat):(tz L).getD k 0=L.getD k 0:=by have hle:=nP L L.length;rcases aX k (wN L L.length)with h|h;unfold tz;simp[List.getD,mP h];rw[au (by unfold tz;rw[mN];omega)];rcases aX k L.length with a|a;rw[Jh L _ k h a];rw[au a]
def gY(l:ae):(tz l).length=wN l l.length:=by have:=nP l l.length;unfold tz;rw[List.length_take];omega
def Iw(l:ae):∀k,0<wN l k→l.getD (wN l k-1) 0≠0
|0,h=>by simp[wN]at h
|k+1,h=>by unfold wN at h ⊢;split;rename_i a;rw[V a]at h;exact Iw l k h;·assumption
def Tr(l:ae):Prop:=l≠ []→l.getD (l.length-1) 0≠0
def eS(l:ae):Tr (tz l):=by intro h;rw[bN,gY];refine Iw l _ ?_;rw[←gY];exact bR.2 h
def Tr.nil:Tr []:=fun h=>absurd rfl h
def Tr.len{l m:ae}(b:Tr l)(h:∀k,m.length≤k→l.getD k 0=0):l.length≤m.length:=by rcases aX m.length l.length with a|a;(have c:l≠ []:=by intro e;subst e;simp at a);exact absurd (h (l.length-1) o) (b c);exact a
def Tr.Ua{l:ae}{n:Nat}(b:Tr l)(h:∀k,n≤k→l.getD k 0=0):l.length≤n:=by rcases aX n l.length with a|a;(have c:l≠ []:=by intro e;subst e;simp at a);exact absurd (h (l.length-1) o) (b c);exact a
def BA{l m:ae}(hlen:l.length=m.length)(h:∀k,l.getD k 0=m.getD k 0):l=m:=by refine Wz hlen fun i a b=>?_;have:=h i;simpa[List.getD,cj a,cj b]using this
def Tr.ext{l m:ae}(b:Tr l)(hm:Tr m)(h:∀k,l.getD k 0=m.getD k 0):l=m:=by
 refine BA ?_ h;have c:=b.len (m:=m) fun k a=>by rw[h,au a]
 have d:=hm.len (m:=l) fun k a=>by rw[←h,au a]
 omega
def ah1{l m:ae}(h:∀k,l.getD k 0=m.getD k 0):tz l=tz m:=(eS l).ext (eS m) fun k=>by rw[bN,bN,h]
def KF{l:ae}(h:Tr l):tz l=l:=(eS l).ext h fun k=>bN l k
def CQ{l m:ae}(hm:Tr m)(h:∀k,l.getD k 0=m.getD k 0):tz l=m:=(eS l).ext hm fun k=>by rw[bN,h]
def fY{l:ae}{n:Nat}(h:∀k,n≤k→l.getD k 0=0):(tz l).length≤n:=(eS l).Ua fun k a=>by rw[bN];exact h k a
def eg(n:Nat)(f:Nat→Int):ae:=(List.range n).map f
def jC(n:Nat)(f:Nat→Int):eg (n+1) f=eg n f++[f n]:=by unfold eg;rw[List.range_succ,List.map_append];rfl
def eJ(n:Nat)(f:Nat→Int):(eg n f).length=n:=by simp[eg]
def cB(n:Nat)(f:Nat→Int)(k:Nat):(eg n f).getD k 0=if k<n then f k else 0:=by split;rename_i h;simp[eg,List.getD,q_,List.getElem?_range h];rename_i h;rw[au BY]
def uT(xs ys:ae)(k:Nat):Nat→Int
|0=>0
|n+1=>uT xs ys k n+xs.getD n 0*ys.getD (k-n) 0
def pk(xs ys:ae)(k:Nat):Int:=uT xs ys k (k+1)
def bH(xs ys:ae)(n:Nat):ae:=eg n (pk xs ys)
def xV(xs a:ae)(k d:Nat):∀n,(∀i,i<n→i≠d→xs.getD i 0*a.getD (k-i) 0=0)→uT xs a k n=if d<n then xs.getD d 0*a.getD (k-d) 0 else 0
|0,_=>MG
|n+1,h=>by unfold uT;rw[xV xs a k d n fun i b f=>h i o f];by_cases c:d=n;subst c;simp;rw[h n o (fun e=>c e.symm)];by_cases b:d<n;rw[V b,V o];omega;rw[U b,U o];omega
def ph(xs a:ae)(k:Nat)(h:xs.length+a.length-1≤k):pk xs a k=0:=by unfold pk;(have c:∀i,i<k+1→xs.getD i 0*a.getD (k-i) 0=0:=by intro i hi;rcases aX i xs.length with b|b;rw[au (show a.length≤k-i by omega)];simp;rw[au b];simp);rw[xV xs a k (k+1) (k+1) fun i b _=>c i b];simp
def dY(xs a:ae)(k:Nat):(bH xs a (xs.length+a.length-1)).getD k 0=pk xs a k:=by unfold bH;rw[cB];split;rfl;rw[ph];omega
def mono(d:Nat)(c:Int):ae:=List.replicate d 0++[c]
def jb(d:Nat)(c:Int)(k:Nat):(mono d c).getD k 0=if k=d then c else 0:=by unfold mono;rcases Mo k d with h|h|h;rw[U o];simp[List.getD,eo (show k<(List.replicate d (0:Int)).length by simpa using h),h];subst h;simp[List.getD];rw[U o,au];simp;omega
def xR(d:Nat)(c:Int):(mono d c).length=d+1:=by simp[mono]
def Gw(d:Nat)(c:Int)(a:ae)(k:Nat):pk (mono d c) a k=if d≤k then c*a.getD (k-d) 0 else 0:=by unfold pk;rw[xV _ _ k d (k+1)];rw[jb,V rfl];by_cases h:d≤k;rw[V h,V o];rw[U h,U o];intro i _ h;rw[jb,U h];simp
def eR(c:Int)(k:Nat): [c].getD k 0=if k=0 then c else 0:=by
 cases k with
 |zero=>rfl
 |succ k=>simp[List.getD]
def BP(xs:ae)(c:Int)(k:Nat):pk xs [c] k=xs.getD k 0*c:=by unfold pk;rw[xV _ _ k k (k+1)];rw[V o,eR,V o];intro i a b;rw[eR,U o];simp
def uy(s t:Int)(k:Nat): [s,t].getD k 0=if k=0 then s else if k=1 then t else 0:=by rcases k with _|_|k;rfl;rfl;simp[List.getD]
def MV(xs:ae)(s:Int)(k:Nat):pk xs [s,1] k=xs.getD k 0*s+(if k=0 then 0 else xs.getD (k-1) 0):=by
 unfold pk;cases k with
 |zero=>simp[uT]
 |succ j=>show uT xs [s,1] (j+1) (j+1)+xs.getD (j+1) 0*[s,1].getD (j+1-(j+1)) 0=_;rw[xV _ _ (j+1) j (j+1)];rw[V o,uy,uy,U o,V o,V o,U o];simp;omega;intro i a b;rw[uy,U o,U o];simp
def zp:List UInt8→Nat
| []=>0
|c::l=>if c==32 then zp l+1 else 0
def aJ(c:UInt8):Bool:=48≤c&&c≤57
def ez:List UInt8→List UInt8
| []=> []
|c::l=>if aJ c then c::ez l else[]
def numOf(n:Nat):List UInt8→Nat
| []=>n
|c::l=>numOf (10*n+(c.toNat-48)) l
def eW(s:List UInt8)(n:Nat):Nat:=n+zp (s.drop n)
def dK(s:List UInt8)(c:UInt8)(n:Nat):Bool×Nat:=
 if s[eW s n]?=some c then(true,eW s n+1)else(false,eW s n)
def rdNum(s:List UInt8)(n:Nat):Bool×Nat×Nat:=(!(ez (s.drop (eW s n))).isEmpty,numOf 0 (ez (s.drop (eW s n))),eW s n+(ez (s.drop (eW s n))).length)
def dp(s:List UInt8)(n:Nat):Bool×Nat×Nat:=
 if(dK s 120 n).1 then
  if(dK s 94 (dK s 120 n).2).1 then rdNum s (dK s 94 (dK s 120 n).2).2
  else(true,1,(dK s 94 (dK s 120 n).2).2)
 else(false,0,(dK s 120 n).2)
def aQ(s:List UInt8)(n:Nat):Bool×Nat×Nat×Nat:=
 if(rdNum s n).1 then
  if(dK s 42 (rdNum s n).2.2).1 then
   ((dp s (dK s 42 (rdNum s n).2.2).2).1,(rdNum s n).2.1,(dp s (dK s 42 (rdNum s n).2.2).2).2.1,(dp s (dK s 42 (rdNum s n).2.2).2).2.2)
  else(true,(rdNum s n).2.1,0,(dK s 42 (rdNum s n).2.2).2)
 else((dp s (rdNum s n).2.2).1,1,(dp s (rdNum s n).2.2).2.1,(dp s (rdNum s n).2.2).2.2)
def iD(c:Int)(p:Nat):List (Int×Nat)→List (Int×Nat)
| []=> [(c,p)]
|(d,q)::l=>if q=p then(d+c,q)::l else(d,q)::iD c p l
def sgn(m:Bool)(c:Nat):Int:=if m then -(c:Int)else c
def Hm{l:List UInt8}{k:Nat}{c:UInt8}(h:l[k]?=some c):l.drop k=c::l.drop (k+1):=by obtain⟨a,rfl⟩:=eQ.1 h;exact gV a
def BH{l:List UInt8}{k:Nat}(h:l[k]?=some 32):eW l k=eW l (k+1):=by unfold eW;rw[Hm h];simp[zp];omega
def oe{l:List UInt8}{k:Nat}(h:l[k]?≠some 32):eW l k=k:=by
 unfold eW;cases a:l.drop k with
 |nil=>rfl
 |cons c r=>(have hc:l[k]?=some c:=by have:=rk (xs:=l) (i:=k) (j:=0);rw[a]at this;simpa using this.symm);(have:¬c=32:=by intro e;subst e;exact h hc);simp[zp,this]
def Fh:∀l:List UInt8,zp l≤l.length
| []=>Z _
|c::l=>by unfold zp;split;have:=Fh l;simp;omega;simp
def qK{l:List UInt8}{n:Nat}(h:n≤l.length):eW l n≤l.length:=by have:=Fh (l.drop n);rw[rR]at this;unfold eW;omega
def pC(l:List UInt8)(n:Nat):n≤eW l n:=by unfold eW;omega
def rN:∀l:List UInt8,(ez l).length≤l.length
| []=>Z _
|c::l=>by unfold ez;split;have:=rN l;simp;omega;simp
def ny{l:List UInt8}{k:Nat}{c:UInt8}(h:l[k]?=some c)(hc:aJ c=true):ez (l.drop k)=c::ez (l.drop (k+1)):=by rw[Hm h];simp[ez,hc]
def qC{l:List UInt8}{k:Nat}(h:∀c,l[k]?=some c→aJ c=false):ez (l.drop k)=[]:=by
 cases a:l.drop k with
 |nil=>rfl
 |cons c r=>(have hc:l[k]?=some c:=by have:=rk (xs:=l) (i:=k) (j:=0);rw[a]at this;simpa using this.symm);simp[ez,h c hc]
def sR{c:UInt8}(h:aJ c=true):c.toNat≤57:=by unfold aJ at h;simp[nU]at h;exact h.2
def BL(l:List UInt8):∀(n k:Nat),n<10^k→(∀c,c∈l→aJ c=true)→numOf n l<10^(k+l.length):=by
 induction l with
 |nil=>intro n k h _;unfold numOf;exact h
 |cons c l a=>intro n k h hc;have i:=sR (hc c (dh ..));generalize hm:10*n+(c.toNat-48)=m;have b:m<10^(k+1):=Yc;have e:=a m (k+1) b (fun d f=>hc d (eh _ f));unfold numOf;have g:k+(c::l).length=k+1+l.length:=aZ;rw[g,hm];exact e
def Cj:∀(l:List UInt8)(c:UInt8),c∈ez l→aJ c=true
| [],c,h=>by simp[ez]at h
|d::l,c,h=>by unfold ez at h;split at h;rename_i a;rcases ep.1 h with h|h;rw[h];exact a;exact Cj l c h;simp at h
def jm(R b:ae)(c:Int)(n:Nat):ae:=tz (eg (max R.length (n+b.length)) fun k=>R.getD k 0-(if n≤k then c*b.getD (k-n) 0 else 0))
def lN(R b:ae)(c:Int)(n k:Nat):(jm R b c n).getD k 0=R.getD k 0-(if n≤k then c*b.getD (k-n) 0 else 0):=by unfold jm;rw[bN,cB];split;rfl;rw[au (show R.length≤k by omega),V (show n≤k by omega),au (show b.length≤k-n by omega)];simp
def pY(R b:ae)(c:Int)(n:Nat):Tr (jm R b c n):=eS _
def NH{R:ae}(b:ae)(n:Nat)(h:Tr R):jm R b 0 n=R:=(pY _ _ _ _).ext h fun k=>by rw[lN];simp
def lead(b:ae):Int:=b.getD (b.length-1) 0
def jN(b:ae):Nat→ae→Option (ae)
|0,R=>if R=[]then some []else none
|n+1,R=>
 if(R.getD (n+b.length-1) 0).tmod (lead b)=0 then
  (jN b n (jm R b ((R.getD (n+b.length-1) 0).tdiv (lead b)) n)).map (fun q=>q++[(R.getD (n+b.length-1) 0).tdiv (lead b)])
 else none
def xE{b R:ae}{n:Nat}(h:(R.getD (n+b.length-1) 0).tmod (lead b)≠0):jN b (n+1) R=none:=by unfold jN;rw[if_neg h]
def qu{b R:ae}{n:Nat}(h:(R.getD (n+b.length-1) 0).tmod (lead b)=0):jN b (n+1) R=(jN b n (jm R b ((R.getD (n+b.length-1) 0).tdiv (lead b)) n)).map (fun q=>q++[(R.getD (n+b.length-1) 0).tdiv (lead b)]):=by rw[jN];rw[V h]
def oQ{b:ae}:∀ {n:Nat} {R q:ae},jN b n R=some q→q.length=n
|0,R,q,h=>by unfold jN at h;split at h;cases h;rfl;cases h
|n+1,R,q,h=>by
 by_cases c:(R.getD (n+b.length-1) 0).tmod (lead b)=0
 ·rw[qu c]at h;cases a:jN b n (jm R b ((R.getD (n+b.length-1) 0).tdiv (lead b)) n)with
  |none=>rw[a]at h;cases h
  |some d=>rw[a]at h;cases h;simp[oQ a]
 rw[xE c]at h;cases h
def Ti{b R:ae}(a:Tr R){n:Nat}(h:R.getD (n+b.length-1) 0=0):jN b (n+1) R=(jN b n R).map (fun q=>q++[0]):=by rw[qu GF,h];simp only[Int.zero_tdiv];rw[NH b n a]
def oF(o:Option (ae))(p q:ae):(o.map (fun x=>x++p)).map (fun x=>x++q)=o.map (fun x=>x++(p++q)):=by
 cases o with
 |none=>rfl
 |some x=>simp
def uh{b R:ae}(a:Tr R)(n:Nat)(c:0<b.length):∀d,R.length≤n+b.length-1→jN b (n+d) R=(jN b n R).map (fun q=>q++List.replicate d 0)
|0,_=>by
 cases h:jN b n R with
 |none=>simp
 |some q=>simp
|d+1,h=>by rw[show n+(d+1)=n+d+1 by omega,Ti a (au o),uh a n c d h,oF];rw[FD]
structure DR(b a0:ae)(A q:ae)(n:Nat):Prop where
 tr:Tr A
 len:A.length≤n+b.length-1
 res:∃Q,jN b (a0.length+1-b.length) a0=(jN b n A).map (fun x=>x++Q)∧q=tz (List.replicate n 0++Q)
 le:n≤a0.length+1-b.length
def DR.start{b a0:ae}(h:Tr a0):DR b a0 a0 [] (a0.length+1-b.length):=by refine⟨h,o,⟨[],?_,?_⟩,?_⟩;simp;rw[CQ Tr.nil];intro k;rw[tU];rcases aX k (a0.length+1-b.length)with h|h;simp[List.getD,h];rw[au dN,au Y];exact Z _
def dH(n:Nat)(Q:ae)(k:Nat):(List.replicate n 0++Q).getD k 0=if k<n then 0 else Q.getD (k-n) 0:=by split;rename_i h;simp[List.getD,eo (show k<(List.replicate n (0:Int)).length by simpa using h),h];rename_i h;simp[List.getD,iN (show(List.replicate n (0:Int)).length≤k by simp;omega)]
def DR.next{b a0 A q:ae}{n:Nat}(h:DR b a0 A q n)(l:0<b.length)(y:b.length≤A.length)(hm:(lead A).tmod (lead b)=0):DR b a0 (jm A b ((lead A).tdiv (lead b)) (A.length-b.length)) (tz (eg (max q.length (A.length-b.length+1)) fun k=>q.getD k 0+(mono (A.length-b.length) ((lead A).tdiv (lead b))).getD k 0)) (A.length-b.length)∧A.length-b.length<n:=by
 obtain⟨m,hlen,⟨Q,p,r⟩,hle⟩:=h;obtain⟨d,s⟩:∃d,A.length-b.length=d:=⟨_,rfl⟩;rw[s];have g:d<n:=o;have i:A.length=d+b.length:=o;have a:lead A=A.getD (d+b.length-1) 0:=by unfold lead;rw[i]
 obtain⟨e,he⟩:∃e,n=d+1+e:=⟨n-(d+1),o⟩;have t:jN b n A=(jN b (d+1) A).map (fun x=>x++List.replicate e 0):=by rw[he];exact uh m (d+1) l e o
 rw[a]at hm;refine⟨⟨pY _ _ _ _,?_,?_,o⟩,g⟩;refine(pY _ _ _ _).Ua fun k z=>?_;rw[lN];rcases aX k (d+b.length)with c|c;have u:k=d+b.length-1:=by omega
 rw[V o,a];have v:b.getD (k-d) 0=lead b:=by unfold lead;rw[show k-d=b.length-1 by omega]
 rw[v,u];have:=aeX (A.getD (d+b.length-1) 0) (lead b);rw[hm,bm]at this;omega;rw[au (show A.length≤k by omega),V o,au (show b.length≤k-d by omega)];simp;refine⟨[(lead A).tdiv (lead b)]++(List.replicate e 0++Q),?_,?_⟩;rw[p,t,qu hm,oF,oF,a];refine ah1 fun k=>?_;have j:q.getD k 0=if k<n then 0 else Q.getD (k-n) 0:=by rw[r,bN,dH]
 rw[cB,jb,dH];split;rw[j];rcases Mo k d with c|c|c;rw[V o,U o,V c];simp;subst c;rw[V g,V rfl,U o];simp;rw[U (show ¬k=d by omega),U (show ¬k<d by omega)];rw[show k-d=(k-d-1)+1 by omega];simp only[aez,sW,nY];rw[dH];by_cases f:k<n;rw[V f,V o];rw[U f,U o];congr 1;omega;rename_i c;have f:q.getD k 0=0:=au o;rw[j]at f;rw[U (show ¬k<d by omega)];rw[show k-d=(k-d-1)+1 by omega];simp only[aez,sW];rw[dH];by_cases w:k<n;rw[V o];rw[U o];rw[U w]at f;rw[show k-d-1-e=k-n by omega];exact f.symm
def DR.WG{b a0 A q:ae}{n:Nat}(h:DR b a0 A q n)(c:0<b.length)(j:b.length≤A.length)(hm:(lead A).tmod (lead b)≠0):jN b (a0.length+1-b.length) a0=none:=by obtain⟨f,hlen,⟨Q,g,k⟩,hle⟩:=h;obtain⟨d,i⟩:∃d,A.length=d+b.length:=⟨A.length-b.length,o⟩;(have a:lead A=A.getD (d+b.length-1) 0:=by unfold lead;rw[i]);obtain⟨e,he⟩:∃e,n=d+1+e:=⟨n-(d+1),o⟩;rw[g,he,uh f (d+1) c e o];rw[a]at hm;rw[xE hm];rfl
def DR.ends{b a0 A q:ae}{n:Nat}(h:DR b a0 A q n)(e:0<b.length)(i:A.length<b.length):(A=[]∧∃Q,jN b (a0.length+1-b.length) a0=some Q∧q=tz Q)∨(A≠ []∧jN b (a0.length+1-b.length) a0=none):=by obtain⟨f,hlen,⟨Q,c,g⟩,hle⟩:=h;have d:=uh f 0 e n o;rw[pH]at d;rw[d]at c;by_cases a:A=[];left;refine⟨a,List.replicate n 0++Q,?_,g⟩;rw[c];subst a;simp[jN];right;refine⟨a,?_⟩;rw[c];simp[jN,a]
def Bd(l:ae)(e:Nat):Prop:=∀k,(l.getD k 0).natAbs<10^e
def Bd.mono{l:ae}{e f:Nat}(h:Bd l e)(a:e≤f):Bd l f:=fun k=>dy (h k) (cI o a)
def Cr{e f:Nat}{x y c:Int}(d:x.natAbs<10^e)(a:y.natAbs<10^f)(hc:c.natAbs<10^e):(x-c*y).natAbs<10^(e+f+1):=by have b:(x-c*y).natAbs≤x.natAbs+(c*y).natAbs:=o;rw[eX]at b;have g:c.natAbs*y.natAbs≤10^e*10^f:=dt (jU hc) (jU a);have h:10^e≤10^e*10^f:=Wi _ (du o);exact T90
def Bd.jm{A b:ae}{e f:Nat}(a:Bd A e)(d:Bd b f){c:Int}(hc:c.natAbs<10^e)(n:Nat):Bd (jm A b c n) (e+f+1):=by intro k;rw[lN];split;exact Cr (a k) (d _) hc;rw[pq];exact dy (a k) (cI o o)
def kH(a b:Int):(a.tdiv b).natAbs≤a.natAbs:=by rw[Int.natAbs_tdiv];exact Wg _ _
def cont(l:ae):Nat:=l.foldl (fun g c=>Int.gcd g c) 0
def vz:∀(l:ae)(g:Nat),(l.foldl (fun g c=>Int.gcd g c) g)∣g∧∀c,c∈l→((l.foldl (fun g c=>Int.gcd (g:Int) c) g:Nat):Int)∣c
| [],g=>⟨Nat.dvd_refl _,fun c h=>cT⟩
|x::l,g=>by obtain⟨d,e⟩:=vz l (Int.gcd g x);refine⟨Nat.dvd_trans d ?_,fun c hc=>?_⟩;have:=Int.gcd_dvd_left (a:=(g:Int)) (b:=x);exact zM.1 this;rcases ep.1 hc with rfl|hc;exact gH (zM.2 d) (Int.gcd_dvd_right (a:=(g:Int)) (b:=c));exact e c hc
def UB{l:ae}{c:Int}(h:c∈l):((cont l:Nat):Int)∣c:=(vz l 0).2 c h
def KJ{l:ae}{k:Nat}(h:l.getD k 0≠0):l.getD k 0∈l:=by rcases aX k l.length with a|a;rw[show l.getD k 0=l[k] by simp[List.getD,cj a]];exact jl a;exact absurd (au a) h
def l4(l:ae)(k:Nat):((cont l:Nat):Int)∣l.getD k 0:=by by_cases h:l.getD k 0=0;rw[h];exact WD _;exact UB (KJ h)
def Cb{l:ae}{k:Nat}(h:l.getD k 0≠0):0<cont l:=by rcases j5 (cont l)with a|a;have:=l4 l k;rw[a]at this;exact absurd (vS.1 this) h;exact a
def vm(c:Int):∀(l:ae)(g:Nat),(l.map (fun x=>c*x)).foldl (fun g x=>Int.gcd (g:Int) x) (c.natAbs*g)=c.natAbs*l.foldl (fun g x=>Int.gcd (g:Int) x) g
| [],g=>rfl
|x::l,g=>by show(l.map (fun x=>c*x)).foldl (fun g x=>Int.gcd (g:Int) x) (Int.gcd ((c.natAbs*g:Nat):Int) (c*x))=_;(have h:Int.gcd ((c.natAbs*g:Nat):Int) (c*x)=c.natAbs*Int.gcd (g:Int) x:=by unfold Int.gcd;rw[eX,mv,mv,Nat.gcd_mul_left]);rw[h,vm c l];rfl
def TX(c:Int)(l:ae):cont (l.map fun x=>c*x)=c.natAbs*cont l:=by have:=vm c l 0;rw[GJ]at this;exact this
def bD(l:ae):Int:=if lead l<0 then -(cont l:Int)else(cont l:Int)
def aH(l:ae):ae:=l.map fun x=>x.tdiv (bD l)
def bV(l:ae):(aH l).length=l.length:=by simp[aH]
def yB(l:ae)(k:Nat):(aH l).getD k 0=(l.getD k 0).tdiv (bD l):=by unfold aH;exact T46
def PX(l:ae)(k:Nat):bD l∣l.getD k 0:=by unfold bD;split;exact Int.neg_dvd.2 (l4 l k);exact l4 l k
def nT(l:ae)(k:Nat):l.getD k 0=bD l*(aH l).getD k 0:=by rw[yB];exact(Int.mul_tdiv_cancel' (PX l k)).symm
def sO{l:ae}(h:Tr l)(a:l≠ []):bD l≠0:=by have:=Cb (h a);unfold bD;split<;>omega
def Tr.aH{l:ae}(h:Tr l):Tr (aH l):=by intro aF;have a:l≠ []:=agf;intro b;have:=nT l ((Go.Proofs.YtldcjkhbiffdoaaGreatDoor.aH l).length-1);rw[b,jw,bV]at this;exact h a this
def aS(c:Int)(l:ae)(k:Nat):(l.map fun x=>c*x).getD k 0=c*l.getD k 0:=T46
def Tr.aO{c:Int}(hc:c≠0){l:ae}(h:Tr l):Tr (l.map fun x=>c*x):=by intro aF;have a:l≠ []:=agf;rw[aS,mT];exact tN hc (h a)
def Q_(c:Int)(l:ae):lead (l.map fun x=>c*x)=c*lead l:=by unfold lead;rw[aS,mT]
def Ly{c:Int}(hc:c≠0){l:ae}(f:Tr l)(g:l≠ []):bD (l.map fun x=>c*x)=c*bD l:=by
 have e:lead l≠0:=f g;unfold bD;rw[Q_,TX,kI];rcases Vq hc with b|b;have d:((c.natAbs:Nat):Int)=-c:=by omega
 rcases Vq e with a|a;have:0<c*lead l:=Int.mul_pos_of_neg_of_neg b a;rw[U o,V a,d];simp[jk,kT];have:c*lead l<0:=Int.mul_neg_of_neg_of_pos b a;rw[V this,U o,d];simp[jk];have d:((c.natAbs:Nat):Int)=c:=by omega
 rcases Vq e with a|a;have:c*lead l<0:=Int.mul_neg_of_pos_of_neg b a;rw[V this,V a,d];simp[kT];have:0<c*lead l:=BV b a;rw[U o,U o,d]
def Rq{c:Int}(hc:c≠0){l:ae}(b:Tr l):aH (l.map fun x=>c*x)=aH l:=by by_cases a:l=[];subst a;rfl;refine BA (by simp[bV]) fun k=>?_;have e:=sO b a;have f:=nT l k;have d:=nT (l.map fun x=>c*x) k;rw[aS,Ly hc b a,f,←bB]at d;exact(zo (tN hc e) d).symm
def oR{c:Int}(hc:c≠0){l m:ae}(a:Tr l)(hm:Tr m)(h:∀k,m.getD k 0=c*l.getD k 0):aH m=aH l:=by(have:m=l.map fun x=>c*x:=hm.ext (Tr.aO hc a) fun k=>by rw[h,aS]);rw[this,Rq hc a]
def jY{l:ae}(h:Tr l):aH (aH l)=aH l:=by by_cases a:l=[];subst a;rfl;exact(oR (sO h a) h.aH h fun k=>nT l k).symm
def Bd.aH{l:ae}{e:Nat}(h:Bd l e):Bd (aH l) e:=by intro k;rw[yB];exact fe (kH _ _) (h k)
def elim(A B:ae):ae:=tz (eg (max A.length (A.length-B.length+B.length)) fun k=>A.getD k 0*lead B-(if A.length-B.length≤k then lead A*B.getD (k-(A.length-B.length)) 0 else 0))
def qf(A B:ae)(k:Nat):(elim A B).getD k 0=A.getD k 0*lead B-(if A.length-B.length≤k then lead A*B.getD (k-(A.length-B.length)) 0 else 0):=by unfold elim;rw[bN,cB];split;rfl;rw[au (show A.length≤k by omega),V (show A.length-B.length≤k by omega),au (show B.length≤k-(A.length-B.length) by omega)];simp
def ir(A B:ae):Tr (elim A B):=eS _
def iI{A B:ae}(e:0<B.length)(h:B.length≤A.length):(elim A B).length<A.length:=by(have:(elim A B).length≤A.length-1:=by refine(ir A B).Ua fun k f=>?_;rw[qf];rcases aX k A.length with a|a;(have b:k=A.length-1:=by omega);rw[V o];(have c:B.getD (k-(A.length-B.length)) 0=lead B:=by unfold lead;rw[show k-(A.length-B.length)=B.length-1 by omega]);(have d:A.getD k 0=lead A:=by unfold lead;rw[b]);rw[c,d];omega;rw[au a,V o,au (show B.length≤k-(A.length-B.length) by omega)];simp);omega
def qL{e f:Nat}{x y c d:Int}(a:x.natAbs<10^e)(b:y.natAbs<10^f)(hc:c.natAbs<10^e)(g:d.natAbs<10^f):(x*d-c*y).natAbs<10^(e+f+1):=by have h:(x*d-c*y).natAbs≤(x*d).natAbs+(c*y).natAbs:=o;rw[eX,eX]at h;have i:c.natAbs*y.natAbs≤10^e*10^f:=dt (jU hc) (jU b);have j:x.natAbs*d.natAbs≤10^e*10^f:=dt (jU a) (jU g);exact T90
def Bd.lead{l:ae}{e:Nat}(h:Bd l e):(lead l).natAbs<10^e:=h _
def Bd.elim{A B:ae}{e f:Nat}(a:Bd A e)(b:Bd B f):Bd (elim A B) (e+f+1):=by intro k;rw[qf];split;exact qL (a k) (b _) a.lead b.lead;have:=qL (y:=0) (a k) (by have:=b 0;omega) a.lead b.lead;rwa[jw]at this
def gW:Nat→ae→ae→ae
|0,A,B=>if A=[]then B else A
|n+1,A,B=>
 if A=[]then B else if B=[]then A
 else if A.length<B.length then gW n (aH (elim B A)) A else gW n (aH (elim A B)) B
def gX(n:Nat)(B:ae):gW n [] B=B:=by cases n<;>simp[gW]
def iL(n:Nat)(A:ae):gW n A []=A:=by
 cases n with
 |zero=>by_cases h:A=[]<;>simp[gW,h]
 |succ n=>by_cases h:A=[]<;>simp[gW,h]
def oY(n:Nat){A B:ae}(a:B≠ [])(h:B.length≤A.length):gW (n+1) A B=gW n (aH (elim A B)) B:=by
 have b:A≠ []:=by intro e;subst e;exact a (ij.1 dN)
 conv=>lhs;unfold gW
 rw[U b,U a,U o]
def uE(n:Nat){A B:ae}(a:A≠ [])(h:A.length<B.length):gW (n+1) A B=gW n (aH (elim B A)) A:=by have b:B≠ []:=aij;(conv=>lhs;unfold gW);rw[U a,U b,V h]
def EN(n:Nat){A B:ae}(h:A.length≠B.length)(d:0<n):gW n A B=gW n B A:=by obtain⟨m,rfl⟩:∃m,n=m+1:=⟨n-1,o⟩;by_cases a:A=[];subst a;rw[gX,iL];by_cases b:B=[];subst b;rw[gX,iL];rcases Nat.lt_or_gt_of_ne h with c|c;rw[uE m a c,oY m a o];rw[uE m b c,oY m b o]
def pW:∀(n:Nat) {A B:ae},A.length+B.length≤n→gW (n+1) A B=gW n A B
|0,A,B,h=>by obtain rfl:A=[]:=ij.1 o;rw[gX,gX]
|n+1,A,B,h=>by by_cases b:A=[];subst b;rw[gX,gX];by_cases c:B=[];subst c;rw[iL,iL];have d:=bR.2 b;have e:=bR.2 c;rcases aX A.length B.length with a|a;rw[uE _ b a,uE _ b a];have:=iI d (jU a);exact pW n Eo;rw[oY _ c a,oY _ c a];have:=iI e a;exact pW n Eo
def qM(a b:ae):ae:=gW (a.length+b.length) (aH a) (aH b)
def oU(R b:ae)(n:Nat):ae:=eg (max R.length (n+b.length)) fun k=>R.getD k 0*lead b-(if n≤k then b.getD (k-n) 0*R.getD (n+b.length-1) 0 else 0)
def vJ(R b:ae)(n k:Nat):(oU R b n).getD k 0=R.getD k 0*lead b-(if n≤k then b.getD (k-n) 0*R.getD (n+b.length-1) 0 else 0):=by unfold oU;rw[cB];split;rfl;rw[au (show R.length≤k by omega),V (show n≤k by omega),au (show b.length≤k-n by omega)];simp
def RO(b A0 R:ae)(n:Nat):Prop:=∃A c,c≠0∧(∀k,R.getD k 0=c*A.getD k 0)∧Tr A∧aH A=A∧A.length≤n+b.length-1∧A.length≤A0.length∧gW (A0.length+b.length) A0 b=gW (A0.length+b.length) A b
def RO.start{b a:ae}(h:Tr a)(c:aH a=a):RO b a a (a.length+1-b.length):=⟨a,1,o,fun k=>by rw[lC],h,c,o,Z _,rfl⟩
def RO.next{b a R:ae}{n:Nat}(h:RO b a R (n+1))(t:Tr b)(e:b≠ []):RO b a (oU R b n) n:=by
 obtain⟨A,c,hc,d,p,g,hlen,hle,q⟩:=h;have u:=bR.2 e;have v:lead b≠0:=t e;by_cases i:A.getD (n+b.length-1) 0=0;refine⟨A,c*lead b,tN hc v,fun k=>?_,p,g,?_,hle,q⟩;rw[vJ,d (n+b.length-1),i,jw];simp only[jw,ite_self,pq];rw[d k,bB,bB,bm (lead b)];refine p.Ua fun k y=>?_;rcases(show k=n+b.length-1∨n+b.length≤k by omega)with rfl|j;exact i;exact au o;have l:A.length=n+b.length:=by rcases aX (n+b.length-1) A.length with j|j;omega;exact absurd (au j) i
 have m:A.getD (n+b.length-1) 0=lead A:=by unfold lead;rw[l]
 have r:∀k,(oU R b n).getD k 0=c*(elim A b).getD k 0:=by intro k;rw[vJ,qf,d k,d (n+b.length-1),m,show A.length-b.length=n by omega];split;rw[ek,bB];congr 1;rw[gy,bm (b.getD (k-n) 0)];rw[pq,pq,bB]
 have w:=iI u (show b.length≤A.length by omega);have s:gW (a.length+b.length) a b=gW (a.length+b.length) (aH (elim A b)) b:=by rw[q];obtain⟨f,x⟩:∃f,a.length+b.length=f+1:=⟨a.length+b.length-1,o⟩;rw[x,oY f e o];exact(pW f Eo).symm
 by_cases he:elim A b=[];refine⟨[],1,o,fun k=>?_,Tr.nil,rfl,Y,Y,?_⟩;rw[r,he];simp;rw[s,he];rfl;refine⟨aH (elim A b),c*bD (elim A b),tN hc (sO (ir _ _) he),fun k=>?_,(ir _ _).aH,jY (ir _ _),?_,?_,s⟩;rw[r,bB,←nT];rw[bV];omega;rw[bV];omega
def RO.ends{b d R:ae}(h:RO b d R 0)(f:b≠ []):(aH (tz R)).length<b.length∧Tr (aH (tz R))∧aH (aH (tz R))=aH (tz R)∧gW (d.length+b.length) d b=gW (d.length+b.length) b (aH (tz R)):=by obtain⟨A,c,hc,g,e,a,hlen,hle,i⟩:=h;have l:=bR.2 f;(have j:aH (tz R)=A:=by rw[oR hc e (eS R) fun k=>by rw[bN,g],a]);rw[j];refine⟨o,e,a,?_⟩;rw[i];exact EN _ o o
def Bd.oU{R b:ae}{e f:Nat}(a:Bd R e)(c:Bd b f)(n:Nat):Bd (oU R b n) (e+f+1):=by intro k;rw[vJ];split;rw[bm (b.getD (k-n) 0)];exact qL (a k) (c _) (a _) c.lead;have:=qL (y:=0) (a k) (by have:=c 0;omega) (a 0) c.lead;rwa[jw]at this
def Ok{m n:Nat}{A B:ae}(hm:A.length+B.length≤m)(b:A.length+B.length≤n):gW m A B=gW n A B:=by
 have:∀d,gW (A.length+B.length+d) A B=gW (A.length+B.length) A B:=by
  intro d;induction d with
  |zero=>rfl
  |succ d a=>rw[←rM,pW _ o,a]
 obtain⟨d,rfl⟩:∃d,m=A.length+B.length+d:=⟨m-(A.length+B.length),o⟩;obtain⟨d',rfl⟩:∃d',n=A.length+B.length+d':=⟨n-(A.length+B.length),o⟩;rw[this,this]
def RV(s:Int)(f:Nat→Int):Nat→Int:=fun k=>f k*s+(if k=0 then 0 else f (k-1))
def wy(s:Int):Nat→Nat→Int
|0=>fun k=>if k=0 then 1 else 0
|n+1=>RV s (wy s n)
def Sf(s:Int)(zs:ae):Nat→Nat→Int
|0=>fun _=>0
|n+1=>fun k=>Sf s zs n k+wy s n k*zs.getD n 0
def Sj(s:Int)(zs:ae)(n:Nat):Nat→Nat→Int
|0=>fun _=>0
|d+1=>fun k=>RV s (Sj s zs (n+1) d) k+(if k=0 then zs.getD n 0 else 0)
def aby(s:Int)(f g:Nat→Int)(k:Nat):RV s (fun j=>f j+g j) k=RV s f k+RV s g k:=by show(f k+g k)*s+(if k=0 then 0 else f (k-1)+g (k-1))=(f k*s+(if k=0 then 0 else f (k-1)))+(g k*s+(if k=0 then 0 else g (k-1)));split;rw[c_];omega;rw[c_];omega
def aaX(s:Int)(f:Nat→Int)(c:Int)(k:Nat):RV s (fun j=>f j*c) k=RV s f k*c:=by unfold RV;split;rw[c_,lr,bB,bB,bm c];rw[c_,bB,bB,bm c]
def PD(s:Int)(zs:ae)(n m:Nat):Nat→Nat→Int
|0=>fun _=>0
|d+1=>fun k=>wy s m k*zs.getD n 0+PD s zs (n+1) (m+1) d k
def adT(s:Int)(zs:ae):∀d n m k,PD s zs n (m+1) d k=RV s (PD s zs n m d) k
|0,n,m,k=>by unfold PD RV;simp
|d+1,n,m,k=>by show wy s (m+1) k*zs.getD n 0+PD s zs (n+1) (m+1+1) d k=RV s (fun j=>wy s m j*zs.getD n 0+PD s zs (n+1) (m+1) d j) k;rw[aby,aaX,adT s zs d];rfl
def adp(s:Int)(zs:ae):∀d n k,Sj s zs n d k=PD s zs n 0 d k
|0,n,k=>rfl
|d+1,n,k=>by show RV s (Sj s zs (n+1) d) k+(if k=0 then zs.getD n 0 else 0)=wy s 0 k*zs.getD n 0+PD s zs (n+1) (0+1) d k;rw[adT,show Sj s zs (n+1) d=PD s zs (n+1) 0 d from funext fun k=>adp s zs d (n+1) k];(have:(if k=0 then zs.getD n 0 else 0)=wy s 0 k*zs.getD n 0:=by show _=(if k=0 then 1 else 0)*zs.getD n 0;split<;>simp);rw[this];omega
def Iy(s:Int)(zs:ae):∀d n m k,PD s zs n m (d+1) k=PD s zs n m d k+wy s (m+d) k*zs.getD (n+d) 0
|0,n,m,k=>by show wy s m k*zs.getD n 0+0=0+_;rw[LX,LX];omega
|d+1,n,m,k=>by show wy s m k*zs.getD n 0+PD s zs (n+1) (m+1) (d+1) k=wy s m k*zs.getD n 0+PD s zs (n+1) (m+1) d k+_;rw[Iy s zs d (n+1) (m+1) k,show m+1+d=m+(d+1) by omega,show n+1+d=n+(d+1) by omega];omega
def adH(s:Int)(zs:ae):∀d k,Sf s zs d k=PD s zs 0 0 d k
|0,k=>rfl
|d+1,k=>by rw[Iy];show Sf s zs d k+wy s d k*zs.getD d 0=_;rw[adH s zs d k,pH]
def amg(s:Int)(zs:ae)(d k:Nat):Sf s zs d k=Sj s zs 0 d k:=by rw[adH,adp]
def AT(s:Int):∀n k,n<k→wy s n k=0
|0,k,h=>by show(if k=0 then(1:Int)else 0)=0;rw[U o]
|n+1,k,h=>by show wy s n k*s+(if k=0 then 0 else wy s n (k-1))=0;rw[AT s n k o,U o,AT s n (k-1) o];simp
def OW(s:Int)(zs:ae):∀n k,n≤k→Sf s zs n k=0
|0,_,_=>rfl
|n+1,k,h=>by show Sf s zs n k+wy s n k*zs.getD n 0=0;rw[OW s zs n k o,AT s n k o];simp
def F5{s:Int}(a:s.natAbs≤99):∀n k,(wy s n k).natAbs≤100^n
|0,k=>by show(if k=0 then(1:Int)else 0).natAbs≤1;split<;>simp
|n+1,k=>by show(wy s n k*s+(if k=0 then 0 else wy s n (k-1))).natAbs≤100^(n+1);have b:=F5 a n k;(have d:(if k=0 then 0 else wy s n (k-1)).natAbs≤100^n:=by split;exact aU _;exact F5 a n (k-1));have c:(wy s n k*s+(if k=0 then 0 else wy s n (k-1))).natAbs≤(wy s n k*s).natAbs+(if k=0 then 0 else wy s n (k-1)).natAbs:=vU _ _;rw[eX]at c;have e:(wy s n k).natAbs*s.natAbs≤100^n*99:=dt b a;rw[e_];omega
def VQ{s:Int}(a:s.natAbs≤99){zs:ae}{M:Nat}(b:∀k,(zs.getD k 0).natAbs≤M):∀n k,(Sf s zs n k).natAbs≤n*(100^n*M)
|0,k=>by simp[Sf]
|n+1,k=>by show(Sf s zs n k+wy s n k*zs.getD n 0).natAbs≤_;have e:=VQ a b n k;have c:=vU (Sf s zs n k) (wy s n k*zs.getD n 0);rw[eX]at c;have f:(wy s n k).natAbs*(zs.getD n 0).natAbs≤100^n*M:=dt (F5 a n k) (b n);have d:100^n*M≤100^(n+1)*M:=kh _ (cI o o);have g:n*(100^n*M)≤n*(100^(n+1)*M):=Gp _ d;rw[nN];omega
def Mj{s:Int}(a:s.natAbs≤99){zs:ae}{M:Nat}(b:∀k,(zs.getD k 0).natAbs≤M):∀d n k,(Sj s zs n d k).natAbs≤101^d*M
|0,n,k=>by simp[Sj]
|d+1,n,k=>by show(Sj s zs (n+1) d k*s+(if k=0 then 0 else Sj s zs (n+1) d (k-1))+(if k=0 then zs.getD n 0 else 0)).natAbs≤_;have e:=Mj a b d (n+1) k;have c:(Sj s zs (n+1) d k).natAbs*s.natAbs≤101^d*M*99:=dt e a;have g:=b n;have h:M≤101^d*M:=YE _ (du o);(have f:101^(d+1)*M=101^d*M*101:=by rw[e_,Nat.mul_right_comm]);rw[←eX]at c;rw[f];split;omega;have i:=Mj a b d (n+1) (k-1);omega
def Vy{B:Int}(a:ae)(n:Nat):ev B a=ev B (a.take n)+ev B (a.drop n)*B^n:=by
 induction n generalizing a with
 |zero=>simp[ev]
 |succ n b=>
  cases a with
  |nil=>simp[ev]
  |cons x a=>simp only[C1,Hv,ev];rw[b a,bW,dE];(have:B*(ev B (a.drop n)*B^n)=ev B (a.drop n)*(B^n*B):=by rw[bm B,bB]);omega
def Xb{B:Int}{a:ae}{n:Nat}(h:a.length≤n+2):ev B (a.drop n)=a.getD n 0+B*a.getD (n+1) 0:=by
 have b:a.getD n 0=(a.drop n).getD 0 0:=ags;have c:a.getD (n+1) 0=(a.drop n).getD 1 0:=ags;have d:(a.drop n).length≤2:=VX;rw[b,c];match a.drop n,d with
 | [],_=>simp[ev]
 | [x],_=>simp[ev]
 | [x,y],_=>simp[ev]
 |x::y::z::t,h=>simp at h
def WK{B q:Int}{a b:ae}(c:0<B)(i:bj B a)(j:bj B b){n:Nat}(x:b.length=n+1)(l:a.length≤n+2)(m:0<b.getD n 0)(p:0≤q)(hle:q*ev B b≤ev B a):q≤(a.getD (n+1) 0*B+a.getD n 0)/b.getD n 0:=by
 have r:0<B^n:=pow_pos c n;have e:=Vy (B:=B) a n;rw[Xb l]at e;have f:=Vy (B:=B) b n;rw[Xb (show b.length≤n+2 by omega),show b.getD (n+1) 0=0 by simp[List.getD,dF (show b.length≤n+1 by omega)],jw,nY]at f;have y:=sZ o (i.take n);have s:=dJ o (j.take n);have z:B^(a.take n).length≤B^n:=by obtain⟨k,g⟩:∃k,n=(a.take n).length+k:=⟨n-(a.take n).length,mI⟩;rw[g,iF,←g];have A:0<B^k:=pow_pos c k;have t:0<B^(a.take n).length:=pow_pos c _;have:=mQ (show 1≤B^k by omega) (eC t);omega
 generalize u:a.getD n 0+B*a.getD (n+1) 0=X at e;have v:a.getD (n+1) 0*B+a.getD n 0=X:=by rw[←u,bm];omega
 rw[v];generalize b.getD n 0=d at*;rw[Int.le_ediv_iff_mul_le m];rcases nS X (q*d)with h|h;exfalso;have w:(X+1)*B^n≤q*d*B^n:=l_ o (eC r);have C:q*ev B b=q*ev B (b.take n)+q*d*B^n:=by rw[f,dE,bB]
 have D:0≤q*ev B (b.take n):=fO p s;rw[c_,lC]at w;omega;exact h
def Q3{B q c x y t bo':Int}{a b s:ae}{k:Nat}(d:s.length=k)(h:ev B s-c*B^k=ev B (a.take k)-q*ev B (b.take k))(e:a.getD k 0=x)(f:b.getD k 0=y)(g:t-bo'*B=x-q*y-c):ev B (s++[t])-bo'*B^(k+1)=ev B (a.take (k+1))-q*ev B (b.take (k+1)):=by rw[dC,dC,e,f,dE,←bB];exact yF s k d c x (q*y) _ _ t bo' h g
def XX{B q c:Int}{a b s:ae}(e:a.length≤b.length+1)(h:ev B s-c*B^b.length=ev B (a.take b.length)-q*ev B (b.take b.length)):ev B a-q*ev B b=ev B s+(a.getD b.length 0-c)*B^b.length:=by rw[cY]at h;have d:=dC B a b.length;rw[gT e]at d;rw[im,d];omega
def JD{B q c:Int}(d:0<B){a b s:ae}(i:s.length=b.length)(ds:bj B s)(h:ev B a-q*ev B b=ev B s+(a.getD b.length 0-c)*B^b.length):(c≤a.getD b.length 0↔q*ev B b≤ev B a)∧(q*ev B b≤ev B a→ev B a<q*ev B b+ev B b→bj B b→ev B s=ev B a-q*ev B b):=by
 have n:=dJ d ds;have j:=sZ d ds;rw[i]at j;have e:0<B^b.length:=pow_pos d _;have key:(c≤a.getD b.length 0↔q*ev B b≤ev B a):=by constructor;intro f;have:=fO (show 0≤a.getD b.length 0-c by omega) (eC e);omega;intro f;rcases nS (a.getD b.length 0) c with g|g;have:=l_ (show a.getD b.length 0-c≤-1 by omega) (eC e);omega;exact g
 refine⟨key,fun f g k=>?_⟩;have p:=key.2 f;have r:=sZ d k;have l:a.getD b.length 0-c=0:=by rcases nS 0 (a.getD b.length 0-c)with m|m;have:=l_ (show 1≤a.getD b.length 0-c by omega) (eC e);omega;omega
 rw[l,lr]at h;omega
end Go.Proofs.YtldcjkhbiffdoaaGreatDoor
