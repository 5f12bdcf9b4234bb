/- Terms of the program: values behind one interface; their texts, by a contract. -/
import Derived.Test.YtongjijkdjagdaaDoorTermM
import Derived.Test.YtongjijkdjagdaaDoorStrB
import Derived.Test.YtongjijkdjagdaaDoorBunA
import Derived.Lib.Strings
import Derived.Laws.EntriesVeiled
namespace Go.Proofs.YtongjijkdjagdaaDoor
open Go.RowKit

/-- A term's type, and what its interface value holds. -/
def Tm.ty : Tm → TypeId
  | .lone _ => 172
  | .sig _ _ => 174
  | .cpl _ _ _ => 204
def Tm.pay : Tm → Value
  | .lone c => .string (strB [c])
  | .sig s t => .agg #[.string (strB [s]), .iface t.ty t.pay]
  | .cpl a s b => .agg #[.iface a.ty a.pay, .string (strB [s]), .iface b.ty b.pay]
def Tm.val (t : Tm) : Value := .iface t.ty t.pay
def Tm.gridFn : Tm → Nat
  | .lone _ => 177
  | .sig _ _ => 179
  | .cpl _ _ _ => 199
end Go.Proofs.YtongjijkdjagdaaDoor
