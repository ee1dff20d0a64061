import Derived.Test.YtldcjkhbiffdoaaGreatDoorS31
set_option maxRecDepth 100000
set_option maxHeartbeats 40000000
set_option linter.unusedSimpArgs false
set_option linter.defProp false
namespace Go.Proofs.YtldcjkhbiffdoaaGreatDoor
open Go.RowKit Go.Proofs.Tryz
def sA(q:Int×Nat):Bool:=decide (q.1≠0)&&decide (10<q.2)
def fI(ts:List (Int×Nat))(n:Nat):ae:=(List.range n).map (fun k=>sw k ts)
def EP{p k:Nat}:∀ {ts:List (Int×Nat)},(∀q,q∈ts→q.1.natAbs≤k)→(sw p ts).natAbs≤k
| [],_=>by simp[sw]
|(d,q)::l,h=>by unfold sw;split;exact h _ (dh ..);exact EP (fun r a=>h r (eh _ a))
def uV.sw{ts:List (Int×Nat)}{k:Nat}(h:uV ts k)(c:k≤1000)(p:Nat):Fit (sw p ts):=by have h1:(Go.Proofs.YtldcjkhbiffdoaaGreatDoor.sw p ts).natAbs≤k*10^200:=EP (fun q a=>by obtain⟨j,b,e⟩:=Bi (z:=(0,0)) a;have:=(h.2 j b).1;rw[e]at this;exact this);refine⟨204,o,?_⟩;exact T31
def XF{α:Type}(f:α→Bool)(ts:List α)(z:α){k:Nat}(a:k<ts.length):(ts.take (k+1)).any f=((ts.take k).any f||f (ts.getD k z)):=by rw[j4 a,BI];simp[List.getD,a]
def any_true{α:Type}(f:α→Bool)(ts:List α)(z:α){k:Nat}(a:k<ts.length)(h:f (ts.getD k z)=true):ts.any f=true:=by rw[List.any_eq_true];exact⟨_,JS a,h⟩
def TD(w':World)(ts:List (Int×Nat))(e:Ending):Prop:=(ts.any sA=true∧e=.returned (.tuple #[.pointer none,.int .i64 3]))∨(ts.any sA=false∧Bounded w' (tz (fI ts 11)) e)
section
variable{P:Program}{ops:Array Oper}{C:World→Prop}{Q:Act→Prop}{o:Oper}{rest:List Oper}{a:Act}
def bI{v:Value}(hw:Region.wanted o (yielded ops a.tmps)=true)(b:∀w,C w→(execOp a.eval o).run P w=.ok (.value v) w)(h:wpQuiet P ops C Q rest (a.put o.dst v)):wpQuiet P ops C Q (o::rest) a:=by unfold wpQuiet;rw[V hw];refine⟨v,fun w hc=>?_,h⟩;unfold Oper.quietAt;rw[b w hc];exact⟨rfl,rfl⟩
def akH(hw:Region.wanted o (yielded ops a.tmps)=false)(h:wpQuiet P ops C Q rest (a.put o.dst undef)):wpQuiet P ops C Q (o::rest) a:=by unfold wpQuiet;rw[U (by rw[hw];simp)];exact h
def BZ{v:Value}{f:Nat}{args:Array Value}(hw:Region.wanted o (yielded ops a.tmps)=true)(c:∀w,(execOp a.eval o).run P w=.ok (.enter f args) w)(hc:∀w,C w→Calls P f args w (fun e b=>e=.returned v∧C b))(h:wpQuiet P ops C Q rest (a.put o.dst v)):wpQuiet P ops C Q (o::rest) a:=by unfold wpQuiet;rw[V hw];refine⟨v,fun w d=>?_,h⟩;unfold Oper.quietAt;rw[c w];exact⟨rfl,hc w d⟩
end
def Rx{o:Oper}{ops:Array Oper}{tmps:Array Value}{g d:Nat}{b want:Bool}(a:o.guard=some (g,want))(c:(ops[g]?).bind (·.dst)=some d)(e:tmps[d]?=some (.bool b))(f:b≠want):Region.wanted o (yielded ops tmps)=false:=by simp[Region.wanted,a,yielded,c,e,f]
def OA{P:Program}{ops:Array Oper}{C:World→Prop}{Q:Act→Prop}{g d:Nat}(c:(ops[g]?).bind (·.dst)=some d)(rest:List Oper):∀(os:List Oper)(a:Act),a.tmps[d]?=some (.bool false)→(∀o,o∈os→o.guard=some (g,true)∧o.dst≠some d)→wpQuiet P ops C Q rest (os.foldl (fun a o=>a.put o.dst undef) a)→wpQuiet P ops C Q (os++rest) a
| [],_,_,_,h=>h
|o::os,a,b,f,h=>by
 have i:=f o (dh ..);refine akH (Rx i.1 c b J) (OA c rest os _ ?_ (fun x j=>f x (eh _ j)) h);cases k:o.dst with
 |none=>exact b
 |some t=>have l:t≠d:=fun e=>i.2 (by rw[k,e]);show(a.tmps.setIfInBounds t undef)[d]?=_;rw[Array.getElem?_setIfInBounds_ne l];exact b
def qZ{P:Program}{ops:Array Oper}{C:World→Prop}{Q:Act→Prop}{o:Oper}{l:List Oper}{a:Act}{v:Value}(n g d:Nat)(hw:Region.wanted o (yielded ops a.tmps)=true)(c:∀w,C w→(execOp a.eval o).run P w=.ok (.value v) w)(e:(ops[g]?).bind (·.dst)=some d)(f:(a.put o.dst v).tmps[d]?=some (.bool false))(i:∀b,b∈l.take n→b.guard=some (g,true)∧b.dst≠some d)(h:wpQuiet P ops C Q (l.drop n) ((l.take n).foldl (fun a o=>a.put o.dst undef) (a.put o.dst v))):wpQuiet P ops C Q (o::l) a:=by refine bI hw c ?_;have:=OA (P:=P) (C:=C) (Q:=Q) e (l.drop n) (l.take n) _ f i h;rwa[xT]at this
def cW{o:Oper}{ops:Array Oper}{tmps:Array Value}{g d:Nat}{b:Bool}(a:o.guard=some (g,b))(c:(ops[g]?).bind (·.dst)=some d)(e:tmps[d]?=some (.bool b)):Region.wanted o (yielded ops tmps)=true:=by simp[Region.wanted,a,yielded,c,e]
def fi{P:Program}{id:Nat}{Q:Exit→Act→World→Prop}{a:Act}{w:World}{l:List Oper}(hm:P.follows .mixedOrders=true)(b:Region.lexB .any l.toArray=true)(h:wpQuiet P l.toArray (fun w'=>Below w.heap.size w w') (fun c=>∀w',Below w.heap.size w w'→Q .normal c w') l a):(Code.region id l.toArray true).wp P Q a w:=wp_region_quiet (C:=fun w'=>Below w.heap.size w w') hm b ⟨rfl,rfl,rfl,Z _,fun _ _=>rfl⟩ dN
def MK(tv:Value)(ts:List (Int×Nat))(w:World)(B:Nat)(P:eD B w tv ts)(X:uV ts 201)(ht:ow w):Calls prog 50 #[tv] w fun e w'=>TD w' ts e∧Below w.heap.size w w':=by have hl:=X.1;have ft:=X.fit o;obtain⟨ta,tcp,rfl⟩:=P.val;go_enter func50,ntmps50;go_wp2_with fail;refine(ei 10 o o w).mono ?_;rintro e w1 ⟨v1,rfl,bC,ay⟩;obtain⟨gb,ga,gn,gc,rfl⟩:=bC.form;go_wp2_with fail;generalize hW:w1.alloc (Obj.cells #[.bool gb,.slice ga gn gc] 105)=W2;obtain⟨aC,X2⟩:=aG hW;clear hW;have c:Below w.heap.size w W2:=ay.tr aC;have kC:ee W2 w1.heap.size 10:=⟨_,_,X2,bC.E aC⟩;have zX:=P.E c;have Ov:=ay.size;clear X2 bC ay aC;generalize w1.heap.size=b4 at*;go_loopw [5] (fun i wr=>∃(k:Nat),k≤ts.length∧i=.int .i64 k∧ee wr b4 10∧Hid ((ts.take k).any sA=false)∧Below w.heap.size w wr) (fun i _=>ts.length-(intOf i).toNat);(case atStart=>exact⟨0,aU _,rfl,kC,rfl,c⟩);case round=>clear zX kC c;obtain⟨k,hk,rfl,kC,x,af⟩:=hrel;have Sh:=P.E af;by_cases Q:k<ts.length;(·obtain⟨g,b,j,l,m,d,D,F,G,rfl,eL,ff,hg,YL,e0,e1,e2,e3,ef,r,H⟩:=Sh.at k Q;obtain⟨I,K,L,M,Q1,J1⟩:=kC.open;have q0:=Q1.c0;have q1:=Q1.c1;have hq:=Q1.lt;have Le:=ft k Q;have y:=XF sA ts (0,0) Q;have R:=any_true sA ts (0,0) Q;rw[x.O]at y;generalize ts.getD k (0,0)=q at*;obtain⟨t,A⟩:=q;have hS:=fun(W:World) (g1:bK W (.agg #[.bool b,.slice j l m]) t)=>n_ _ t W g1 Le.1;have C:=fun(W:World) (g1:bK W (.agg #[.bool d,.slice D F G]) (A:Int)) (g2:bK W (.agg #[.bool I,.slice K L M]) 10)=>j9 _ _ (A:Int) 10 W g1 g2 Le.2 (nh (n:=10) (k:=2) o o);by_cases hz:t=0;(·subst hz;have h0:fA 0=0:=rfl;simp only[h0]at hS;(have gE:Hid ((ts.take (k+1)).any sA=false):=by rw[y];rfl);have HS:Hid _:=hS;clear hS C y R h0 x;go_wp2_with fail;refine fi aw aw ?_;refine bI (v:=.slice (some ⟨g,0,none⟩) ts.length tcp) rfl (fun _ _=>rfl) ?_;refine bI (v:=.int .i64 (k:Int)) rfl (fun _ _=>rfl) ?_;refine bI (v:=.pointer (some ⟨g,k*4,none⟩)) rfl (fun w' cQ=>a_) ?_;refine bI (v:=.pointer (some ⟨g,k*4,none⟩)) rfl (fun w' cQ=>a_) ?_;refine bI (v:=.agg #[.bool b,.slice j l m]) rfl (fun w' cQ=>aco) ?_;refine BZ (v:=.int .i64 0) (f:=90) (args:=#[.agg #[.bool b,.slice j l m]]) rfl (fun w'=>a_) (fun w' cQ=>?_) ?_;refine(HS.O w' (r.E cQ)).mono ?_;rintro e w3 ⟨rfl,aK⟩;exact⟨rfl,cQ.tr aK⟩;simp only[tZ];refine bI (v:=.bool false) rfl (fun w' cQ=>a_) ?_;simp only[tZ];refine qZ (v:=.bool false) 8 7 22 rfl (fun _ _=>rfl) rfl rfl ?_ ?_;intro o' Up;simp at Up;rcases Up with rfl|rfl|rfl|rfl|rfl|rfl|rfl|rfl<;>exact⟨rfl,Y⟩;simp only[Hv,lJ,C1,tu,vW,L_,Act.put,F_,BT,NW];exact T77);·(have mx:(fA t !=0)=true:=by unfold fA;rcases(show t<0∨0<t by omega)with h|h;rw[V h];rfl;rw[U o,U o];rfl);generalize fA t=sz at*;have HS:Hid _:=hS;by_cases S:10<A;(·have h1:cV (A:Int) 10=1:=l7 o;simp only[h1]at C;have HC:Hid _:=C;have hT:Hid (ts.any sA=true):=R (by simp[sA,hz,S]);clear hS C y R h1 x;go_wp2_with fail;refine fi aw aw ?_;refine bI (v:=.slice (some ⟨g,0,none⟩) ts.length tcp) rfl (fun _ _=>rfl) ?_;refine bI (v:=.int .i64 (k:Int)) rfl (fun _ _=>rfl) ?_;refine bI (v:=.pointer (some ⟨g,k*4,none⟩)) rfl (fun w' cQ=>a_) ?_;refine bI (v:=.pointer (some ⟨g,k*4,none⟩)) rfl (fun w' cQ=>a_) ?_;refine bI (v:=.agg #[.bool b,.slice j l m]) rfl (fun w' cQ=>aco) ?_;refine BZ (v:=.int .i64 sz) (f:=90) (args:=#[.agg #[.bool b,.slice j l m]]) rfl (fun w'=>a_) (fun w' cQ=>?_) ?_;refine(HS.O w' (r.E cQ)).mono ?_;rintro e w3 ⟨rfl,aK⟩;exact⟨rfl,cQ.tr aK⟩;refine bI (v:=.bool true) rfl (fun w' cQ=>a_) ?_;simp only[tZ];refine bI (v:=.bool true) rfl (fun _ _=>rfl) ?_;simp only[tZ];refine bI (v:=.slice (some ⟨g,0,none⟩) ts.length tcp) ?_ (fun _ _=>rfl) ?_;exact cW (g:=7) (d:=22) (b:=true) rfl rfl rfl;simp only[tZ];refine bI (v:=.int .i64 (k:Int)) ?_ (fun _ _=>rfl) ?_;exact cW (g:=7) (d:=22) (b:=true) rfl rfl rfl;simp only[tZ];refine bI (v:=.pointer (some ⟨g,k*4,none⟩)) ?_ (fun w' cQ=>a_) ?_;exact cW (g:=7) (d:=22) (b:=true) rfl rfl rfl;simp only[tZ];refine bI (v:=.pointer (some ⟨g,k*4+2,none⟩)) ?_ (fun w' cQ=>a_) ?_;exact cW (g:=7) (d:=22) (b:=true) rfl rfl rfl;simp only[tZ];refine bI (v:=.agg #[.bool d,.slice D F G]) ?_ (fun w' cQ=>aky) ?_;exact cW (g:=7) (d:=22) (b:=true) rfl rfl rfl;simp only[tZ];refine bI (v:=.agg #[.bool I,.slice K L M]) ?_ (fun w' cQ=>amE) ?_;exact cW (g:=7) (d:=22) (b:=true) rfl rfl rfl;simp only[tZ];refine BZ (v:=.int .i64 1) (f:=91) (args:=#[.agg #[.bool d,.slice D F G],.agg #[.bool I,.slice K L M]]) ?_ (fun w'=>a_) (fun w' cQ=>?_) ?_;exact cW (g:=7) (d:=22) (b:=true) rfl rfl rfl;refine(HC.O w' (H.E cQ) (J1.E cQ)).mono ?_;rintro e w3 ⟨rfl,aK⟩;exact⟨rfl,cQ.tr aK⟩;simp only[tZ];refine bI (v:=.bool true) ?_ (fun w' cQ=>a_) ?_;exact cW (g:=7) (d:=22) (b:=true) rfl rfl rfl;simp only[tZ];refine bI (v:=.bool true) rfl (fun w' cQ=>a_) ?_;simp only[tZ];refine FG ?_;intro w3 aK;go_wp2_with fail;go_ret2;exact⟨.inl ⟨hT.O,rfl⟩,af.tr aK⟩);·(have h1:¬0<cV (A:Int) 10:=by unfold cV;split;omega;rw[U o];omega);generalize cV (A:Int) 10=cz at*;have HC:Hid _:=C;(have gE:Hid ((ts.take (k+1)).any sA=false):=by rw[y];simp only[Bool.false_or,sA,S,decide_false,Bool.and_false];exact trivial);clear hS C y R x;go_wp2_with fail;refine fi aw aw ?_;refine bI (v:=.slice (some ⟨g,0,none⟩) ts.length tcp) rfl (fun _ _=>rfl) ?_;refine bI (v:=.int .i64 (k:Int)) rfl (fun _ _=>rfl) ?_;refine bI (v:=.pointer (some ⟨g,k*4,none⟩)) rfl (fun w' cQ=>a_) ?_;refine bI (v:=.pointer (some ⟨g,k*4,none⟩)) rfl (fun w' cQ=>a_) ?_;refine bI (v:=.agg #[.bool b,.slice j l m]) rfl (fun w' cQ=>aco) ?_;refine BZ (v:=.int .i64 sz) (f:=90) (args:=#[.agg #[.bool b,.slice j l m]]) rfl (fun w'=>a_) (fun w' cQ=>?_) ?_;refine(HS.O w' (r.E cQ)).mono ?_;rintro e w3 ⟨rfl,aK⟩;exact⟨rfl,cQ.tr aK⟩;refine bI (v:=.bool true) rfl (fun w' cQ=>a_) ?_;simp only[tZ];refine bI (v:=.bool true) rfl (fun _ _=>rfl) ?_;simp only[tZ];refine bI (v:=.slice (some ⟨g,0,none⟩) ts.length tcp) ?_ (fun _ _=>rfl) ?_;exact cW (g:=7) (d:=22) (b:=true) rfl rfl rfl;simp only[tZ];refine bI (v:=.int .i64 (k:Int)) ?_ (fun _ _=>rfl) ?_;exact cW (g:=7) (d:=22) (b:=true) rfl rfl rfl;simp only[tZ];refine bI (v:=.pointer (some ⟨g,k*4,none⟩)) ?_ (fun w' cQ=>a_) ?_;exact cW (g:=7) (d:=22) (b:=true) rfl rfl rfl;simp only[tZ];refine bI (v:=.pointer (some ⟨g,k*4+2,none⟩)) ?_ (fun w' cQ=>a_) ?_;exact cW (g:=7) (d:=22) (b:=true) rfl rfl rfl;simp only[tZ];refine bI (v:=.agg #[.bool d,.slice D F G]) ?_ (fun w' cQ=>aky) ?_;exact cW (g:=7) (d:=22) (b:=true) rfl rfl rfl;simp only[tZ];refine bI (v:=.agg #[.bool I,.slice K L M]) ?_ (fun w' cQ=>amE) ?_;exact cW (g:=7) (d:=22) (b:=true) rfl rfl rfl;simp only[tZ];refine BZ (v:=.int .i64 cz) (f:=91) (args:=#[.agg #[.bool d,.slice D F G],.agg #[.bool I,.slice K L M]]) ?_ (fun w'=>a_) (fun w' cQ=>?_) ?_;exact cW (g:=7) (d:=22) (b:=true) rfl rfl rfl;refine(HC.O w' (H.E cQ) (J1.E cQ)).mono ?_;rintro e w3 ⟨rfl,aK⟩;exact⟨rfl,cQ.tr aK⟩;simp only[tZ];refine bI (v:=.bool false) ?_ (fun w' cQ=>a_) ?_;exact cW (g:=7) (d:=22) (b:=true) rfl rfl rfl;simp only[tZ];exact T77);·(obtain rfl:k=ts.length:=by omega);have hE:=x.O;rw[cY]at hE;have gE:Hid _:=hE;clear x hE kC;obtain⟨T,a⟩:∃b,Hid (wr.heap.size=b):=⟨_,rfl⟩;(have hwB:w.heap.size≤T:=by rw[←a.O];exact af.size);go_wp2_with fail;go_loopw [6,7] (fun s i wq=>∃(k:Nat),k≤11∧i=.int .i64 k∧ak T wq s (fI ts k)∧T≤wq.heap.size∧Below w.heap.size w wq) (fun _ i _=>11-(intOf i).toNat);(case atStart=>exact⟨0,o,rfl,by rw[a.O];exact ak.lit a.O,by simp[a.O],af.alloc af.size _⟩);case round=>obtain⟨k,l8,rfl,aj,SM,N⟩:=hrel;have hOq:=P.E N;(have hlen:(fI ts k).length=k:=by simp[fI]);by_cases i_:k<11;(·have hN:=fun(W:World) (u:Value) (g1:eD B W (.slice ta ts.length tcp) ts) (g2:bK W u (k:Int))=>F0 (.slice ta ts.length tcp) ts u k W B g1 g2 (nh (n:=k) (k:=2) o o) ft o;(have gR:fI ts (k+1)=fI ts k++[sw k ts]:=by unfold fI;rw[MO,rp];rfl);generalize sw k ts=z at*;have HN:Hid _:=hN;have ie:Hid _:=gR;clear hN gR;go_wp2_with fail;refine(ei (k:Int) o o _).mono ?_;rintro e w3 ⟨v3,rfl,cU,aK⟩;go_wp2_with fail;refine(HN.O w3 v3 (hOq.E aK) cU).mono ?_;rintro e w4 ⟨v4,rfl,ZL,bU⟩;obtain⟨zb,za,zn,zc,rfl⟩:=ZL.form;have cS:=(aj.E aK).E bU;have Z4:=aW (aW SM aK.size) bU.size;go_wp2_with(at_builtin;refine dV rfl (.tmp 37) (.tmp 42) rfl T _ (fI ts k) _ _ z rfl cS ZL rfl o Z4 ?_);intro v' w5 iv aV _;rw[←ie.O]at iv;go_wp2;go_roundw;(case rel=>exact⟨k+1,o,by go_num,iv,aW Z4 aV.size,((N.tr aK).trans (bU.mono (aW N.size aK.size))).trans (aV.mono hwB)⟩);case measure=>simp[intOf];omega);·(obtain rfl:k=11:=by omega);have SN:=zF (fI ts 11) _ _ aj.nD o (fun i hi=>by(have:(fI ts 11).getD i 0=sw i ts:=by have hi':i<11:=o;simp[fI,List.getD,hi']);rw[this];exact X.sw o i) (ht.E N);go_wp2_with fail;refine SN.mono ?_;rintro e w3 ⟨KY,aK⟩;have Km:=N.tr aK;have O:Bounded w3 (tz (fI ts 11)) e:=KY;rcases KY with⟨vo,p,rfl,S⟩|⟨vo,rfl⟩;(·obtain⟨pk,pv,rfl,_⟩:=id S;go_wp2;go_ret2;exact⟨.inr ⟨gE.O,O⟩,Km⟩);·go_wp2;go_ret2;exact⟨.inr ⟨gE.O,O⟩,Km⟩
def wJ(l:List UInt8):Bool×Nat×List (Int×Nat):=mK l (l.length+1) (dK l 45 0).1 (dK l 45 0).2 []
def pread(l:List UInt8):Nat×Nat×ae:=
 if 200<l.length then(1,0,[])
 else if(wJ l).1 then
  if(wJ l).2.2.any sA then(3,0,[])
  else if mo (tz (fI (wJ l).2.2 11))then(0,0,tz (fI (wJ l).2.2 11))else(3,0,[])
 else(2,(wJ l).2.1,[])
def Answer(w':World)(r:Nat×Nat×ae)(e:Ending):Prop:=(r.1=0∧mo r.2.2=true∧∃p,e=.returned (.tuple #[p,.int .i64 0,.int .i64 0])∧Am w' p r.2.2)∨(r.1≠0∧e=.returned (.tuple #[.pointer none,.int .i64 (r.1:Int),.int .i64 (r.2.1:Int)]))
def Ve(s:ByteArray)(w:World)(y:ow w)(G:s.size≤9223372036854775807):Calls prog 23 #[.string s] w fun e w'=>Answer w' (pread s.data.toList) e∧Below w.heap.size w w':=by have i:=bJ s;obtain⟨r,a⟩:∃r,Hid (pread s.data.toList=r):=⟨_,rfl⟩;rw[a.O];by_cases H:200<s.size;(·(have b:r=(1,0,[]):=by rw[←a.O];unfold pread;rw[V o]);subst b;clear a i;go_enter func23,ntmps23;go_wp2;go_ret3;exact⟨.inr ⟨J,rfl⟩,aL _ _⟩);·(have z:s.size≤200:=by omega);(have b:(if(wJ s.data.toList).1 then(if(wJ s.data.toList).2.2.any sA then(3,0,[])else if mo (tz (fI (wJ s.data.toList).2.2 11))then(0,0,tz (fI (wJ s.data.toList).2.2 11))else(3,0,[]))else(2,(wJ s.data.toList).2.1,[]))=r:=by rw[←a.O];unfold pread;rw[U (c:=200<s.data.toList.length) o]);(have t:mK s.data.toList (s.size+1) (dK s.data.toList 45 0).1 (dK s.data.toList 45 0).2 []=wJ s.data.toList:=by unfold wJ;rw[i]);have d:=fun(W:World) (j:Nat) (g1:Rd W j s 0 (.slice none 0 0)) (g2:w.heap.size≤j) (g3:w.heap.size≤W.heap.size)=>JZ s j (.slice none 0 0) W w.heap.size g1 (eD.nil _ _) z g2 g3;simp only[t,exists_eq_left]at d;generalize wJ s.data.toList=R at*;obtain⟨ok,pos,ts⟩:=R;have k:Hid _:=d;have HP:Hid _:=b;clear d b t i a;go_enter func23,ntmps23;go_wp2_with fail;generalize hW:w.alloc (Obj.cells #[.string s,.int IntKind.i64 0,.slice none 0 0] 82)=l;have m:Rd l w.heap.size s 0 (.slice none 0 0):=ahk;have u:Below w.heap.size w l:=ak9;clear hW;refine(k.O l w.heap.size m (Z _) u.size).mono ?_;rintro e v ⟨rfl,I,A,⟨B,x,C⟩,D⟩;have n:Below w.heap.size w v:=u.trans D.mO;have c1:=x.c1;have c2:=x.c2;cases ok;(·(have f:r=(2,pos,[]):=by rw[←HP.O];rfl);clear HP;go_wp2_with fail;go_quiet(fail);go_wp2;go_ret3;subst f;exact⟨.inr ⟨by show(2:Nat)≠0;omega,rfl⟩,rL n nq⟩);·go_wp2_with fail;refine(MK B ts v w.heap.size C A (y.E n)).mono ?_;rintro e w2 ⟨E,F⟩;have q:=n.tr F;rcases E with⟨g,rfl⟩|⟨g,⟨h,p,rfl,b⟩|⟨h,rfl⟩⟩;(·have HB:Hid _:=g;clear g;go_wp2;go_ret3;(have f:r=(3,0,[]):=by rw[←HP.O];simp[HB.O]);subst f;exact⟨.inr ⟨by show(3:Nat)≠0;omega,rfl⟩,q⟩);(·have HB:Hid _:=g;have HI:Hid _:=h;clear g h;obtain⟨pk,K,rfl,_⟩:=id b;go_wp2;go_ret3;have f:r=(0,0,tz (fI ts 11)):=afu;subst f;exact⟨.inl ⟨rfl,HI.O,_,rfl,b⟩,q⟩);·have HB:Hid _:=g;have HI:Hid _:=h;clear g h;go_wp2;go_ret3;have f:r=(3,0,[]):=afu;subst f;exact⟨.inr ⟨by show(3:Nat)≠0;omega,rfl⟩,q⟩
def yT(b:List UInt8):∀(a:List UInt8)(n:Nat),numOf n (a++b)=numOf (numOf n a) b
| [],_=>rfl
|_::a,_=>yT b a _
def Gq{i:Nat}(h:i<10):(UInt8.ofNat (48+i)).toNat=48+i:=by simp[UInt8.toNat_ofNat'];omega
def Ta{i:Nat}(h:i<10):aJ (UInt8.ofNat (48+i))=true:=by have a:=Gq h;unfold aJ;rw[pL,rD,rD,nU,nU,a];exact⟨show 48≤48+i by omega,show 48+i≤57 by omega⟩
def rh(n:Nat):(∀c,c∈Lib.decDigits n→aJ c=true)∧numOf 0 (Lib.decDigits n)=n∧Lib.decDigits n≠ []:=by
 induction n using Nat.strongRecOn with
 |ind n a=>by_cases h:n<10;rw[yK h];refine⟨fun c hc=>?_,?_,Y⟩;rw[A9.1 hc];exact Ta h;show 10*0+((UInt8.ofNat (48+n)).toNat-48)=n;rw[Gq h];omega;rw[AP h];obtain⟨i1,i2,i3⟩:=a (n/10) o;have hm:n%10<10:=o;refine⟨fun c hc=>?_,?_,Y⟩;rcases fo.1 hc with hc|hc;exact i1 c hc;rw[A9.1 hc];exact Ta hm;rw[yT,i2];show 10*(n/10)+((UInt8.ofNat (48+n%10)).toNat-48)=n;rw[Gq hm];omega
def Un{c:UInt8}(h:aJ c=true):c≠32∧c≠45:=by constructor<;>(rintro rfl;exact absurd h J)
def Xu(n:Nat):∃b t,Lib.decDigits n=b::t∧aJ b=true:=by
 obtain⟨c,_,d⟩:=rh n;cases a:Lib.decDigits n with
 |nil=>exact absurd a d
 |cons b t=>exact⟨b,t,rfl,c b (by rw[a];exact dh ..)⟩
def Kk(k:Nat):∃t,uU k=120::t:=by unfold uU;split;exact⟨_,rfl⟩;exact⟨_,rfl⟩
def QT(c k:Nat):∃b t,gF c k=b::t∧b≠32∧b≠45:=by obtain⟨b,t,a,d⟩:=Xu c;obtain⟨e,f⟩:=Kk k;unfold gF;split;exact⟨b,t,a,Un d⟩;split;exact⟨120,e,f,J,J⟩;exact⟨b,_,by rw[a];rfl,Un d⟩
def more:List (Int×Nat)→List UInt8
| []=> []
|q::tl=>il (decide (q.1<0)) false++(gF q.1.natAbs q.2++more tl)
def Kd:∀(a b:List (Int×Nat)),more (a++b)=more a++more b
| [],_=>rfl
|q::a,b=>by show il _ false++(gF _ _++more (a++b))=_;rw[Kd a b];simp[more]
def dX(tl ts:List (Int×Nat)):List (Int×Nat):=tl.foldl (fun ts q=>iD q.1 q.2 ts) ts
def Ek(zs:ae)(n:Nat):Nat→List (Int×Nat)
|0=> []
|m+1=>Ek zs n m++(if zs.getD (n-1-m) 0=0 then[]else[(zs.getD (n-1-m) 0,n-1-m)])
def Ww:List (Int×Nat)→List UInt8
| []=> []
|q::tl=>il (decide (q.1<0)) true++(gF q.1.natAbs q.2++more tl)
def OQ{a:List (Int×Nat)}:Ww a=[]↔a=[]:=by
 cases a with
 |nil=>simp[Ww]
 |cons q a=>obtain⟨b,t,c,_⟩:=QT q.1.natAbs q.2;simp[Ww,c]
def Og(zs:ae)(n:Nat):∀m,DZ zs n m=Ww (Ek zs n m)
|0=>rfl
|m+1=>by
 unfold DZ Ek stepT;rw[Og zs n m];split;simp
 ·generalize Ek zs n m=a;cases a with
  |nil=>simp[Ww,more]
  |cons q a=>
   have:(Ww (q::a)).isEmpty=false:=by
    cases h:Ww (q::a)with
    |nil=>exact absurd (OQ.1 h) Y
    |cons _ _=>rfl
   rw[this];simp[Ww,Kd,more]
def pM(k:Nat):List (Int×Nat)→Int
| []=>0
|q::tl=>(if q.2=k then q.1 else 0)+pM k tl
def Gj(k:Nat):∀(a b:List (Int×Nat)),pM k (a++b)=pM k a+pM k b
| [],b=>by simp[pM]
|q::a,b=>by show _+pM k (a++b)=_+_+_;rw[Gj k a b];omega
def Jg(k:Nat)(c:Int)(p:Nat):∀ts:List (Int×Nat),sw k (iD c p ts)=sw k ts+(if p=k then c else 0)
| []=>by simp[iD,sw]
|(d,q)::ts=>by unfold iD;by_cases b:q=p;subst b;rw[V rfl];unfold sw;by_cases a:q=k;simp[a];simp[a];rw[U b];unfold sw;by_cases a:q=k;subst a;simp[Ne.symm b];simp only[U a];exact Jg k c p ts
def BS(k:Nat):∀(tl ts:List (Int×Nat)),sw k (dX tl ts)=sw k ts+pM k tl
| [],ts=>by simp[dX,pM]
|q::tl,ts=>by show sw k (dX tl (iD q.1 q.2 ts))=_;rw[BS k tl,Jg,pM];omega
def Gk(zs:ae)(n k:Nat):∀m,m≤n→pM k (Ek zs n m)=if n-m≤k∧k<n then zs.getD k 0 else 0
|0,_=>by rw[U o];rfl
|m+1,hm=>by unfold Ek;rw[Gj,Gk zs n k m o];by_cases a:n-1-m=k;subst a;rw[U (show ¬(n-m≤n-1-m∧n-1-m<n) by omega),V (show n-(m+1)≤n-1-m∧n-1-m<n by omega)];split;rename_i h;rw[h];rfl;simp[pM];(have:pM k (if zs.getD (n-1-m) 0=0 then[]else[(zs.getD (n-1-m) 0,n-1-m)])=0:=by split;rfl;simp[pM,a]);rw[this];by_cases b:n-m≤k∧k<n;rw[V b,V o];omega;rw[U b,U o];rfl
def OR(zs:ae)(n:Nat):∀m,∀q,q∈Ek zs n m→q.2≤n-1
|0,q,h=>by simp[Ek]at h
|m+1,q,h=>by unfold Ek at h;rcases fo.1 h with h|h;exact OR zs n m q h;split at h;simp at h;obtain rfl:=A9.1 h;show n-1-m≤n-1;omega
end Go.Proofs.YtldcjkhbiffdoaaGreatDoor
