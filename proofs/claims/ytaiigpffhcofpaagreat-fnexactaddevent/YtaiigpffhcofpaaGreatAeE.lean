/- An event: its key in a box, its agg in another. -/
import Derived.Test.YtaiigpffhcofpaaGreatAeW
namespace Go.Proofs.YtaiigpffhcofpaaGreat
set_option maxRecDepth 100000
open Go.RowKit
set_option linter.unusedSimpArgs false
set_option linter.unusedVariables false

/-- A key in the box D, the agg of v in the box B, its list in G; all else below D being kept. -/
structure EvB (w W : World) (D B G : Nat) (m : ByteArray) (sv : Value) (st v : Int) : Prop where
  K : KBx w W D m sv st
  A : AAt W B 1 v v v (.slice (some ⟨G, 0, none⟩) 8 8) false
  I : IOwn W G 0 8 (oA v).f
  hB : D < B
  hG : D < G
section
variable {w W W' : World} {D B G : Nat} {m : ByteArray} {sv : Value} {st v : Int}
/-- The same, without what is kept. -/
structure EvT (W : World) (D B G : Nat) (m : ByteArray) (sv : Value) (st v : Int) : Prop where
  K : KAt W D m sv st
  A : AAt W B 1 v v v (.slice (some ⟨G, 0, none⟩) 8 8) false
  I : IOwn W G 0 8 (oA v).f
theorem EvT.keep (h : EvT W D B G m sv st v) (hb : Below W.heap.size W W') : EvT W' D B G m sv st v := ⟨h.K.keep hb, h.A.keep hb, h.I.keep hb⟩
theorem EvB.t (h : EvB w W D B G m sv st v) : EvT W D B G m sv st v := ⟨h.K.A, h.A, h.I⟩
theorem EvB.keep (h : EvB w W D B G m sv st v) (hb : Below W.heap.size W W') : EvB w W' D B G m sv st v := ⟨h.K.keep hb, h.A.keep hb, h.I.keep hb, h.hB, h.hG⟩
theorem EvB.put (h : EvB w W D B G m sv st v) (m' : ByteArray) (sv' : Value) (st' : Int) : EvB w (((W.setCell ⟨D, 0, none⟩ (.string m')).setCell ⟨D, 1, none⟩ sv').setCell ⟨D, 2, none⟩ (.int .i64 st')) D B G m' sv' st' v := by
  have oth : Others D W (((W.setCell ⟨D, 0, none⟩ (.string m')).setCell ⟨D, 1, none⟩ sv').setCell ⟨D, 2, none⟩ (.int .i64 st')) := ((Others.setCell _ _ _ _).trans (Others.setCell _ _ _ _)).trans (Others.setCell _ _ _ _)
  have h1 := h.hB
  have h2 := h.hG
  exact ⟨h.K.put m' sv' st', h.A.others oth (by omega), iown_others h.I oth (by omega), h1, h2⟩
theorem EvB.set2 (h : EvB w W D B G m sv st v) (st' : Int) : EvB w (W.setCell ⟨D, 2, none⟩ (.int .i64 st')) D B G m sv st' v := by
  have oth : Others D W (W.setCell ⟨D, 2, none⟩ (.int .i64 st')) := Others.setCell _ _ _ _
  have h1 := h.hB
  have h2 := h.hG
  exact ⟨h.K.set2 st', h.A.others oth (by omega), iown_others h.I oth (by omega), h1, h2⟩
end
end Go.Proofs.YtaiigpffhcofpaaGreat
