import Derived.Test.YtldcjkhbiffdoaaGreatDoorS44
import Derived.Test.YtldcjkhbiffdoaaGreatDoorS45
set_option maxRecDepth 100000
set_option maxHeartbeats 40000000
set_option linter.unusedSimpArgs false
set_option linter.defProp false
namespace Go.Proofs.YtldcjkhbiffdoaaGreatDoor
open Go.ChangeShapes Go.WideShapes Go.ChangeAt Go.RowKit Go.Deep Go.Proofs.Tryz
def Ku(v:Value)(n:Nat)(w:World)(a:PL w v n)(d:ow w):Calls prog 11 #[v] w fun e w'=>e=.returned (.bool true)∧Below w.heap.size w w':=by have hS:=vK v n w a;have c:=fun(W:World) (hb:Below w.heap.size w W) (hn:n≤1048576)=>zh v n 9 W (a.E hb) hn J (d.E hb);obtain⟨f,g,rfl,_⟩:=a.val;have HU:Hid _:=c;clear c;go_enter func11,ntmps11;exact T33
def Qn(v:Value)(n:Nat)(w:World)(a:PL w v n)(d:ow w):Calls prog 12 #[v] w fun e w'=>e=.returned (.bool true)∧Below w.heap.size w w':=by have hS:=vK v n w a;have c:=fun(W:World) (hb:Below w.heap.size w W) (hn:n≤1048576)=>zh v n (-1) W (a.E hb) hn J (d.E hb);obtain⟨f,g,rfl,_⟩:=a.val;have HU:Hid _:=c;clear c;go_enter func12,ntmps12;exact T33
def aaZ(v:Value)(n:Nat)(w:World)(a:PL w v n)(d:ow w):Calls prog 14 #[v] w fun e w'=>e=.returned (.bool true)∧Below w.heap.size w w':=by have hS:=vK v n w a;have c:=fun(W:World) (hb:Below w.heap.size w W) (hn:n≤1048576)=>zh v n 0 W (a.E hb) hn J (d.E hb);obtain⟨f,g,rfl,_⟩:=a.val;have HU:Hid _:=c;clear c;go_enter func14,ntmps14;exact T33
end Go.Proofs.YtldcjkhbiffdoaaGreatDoor
