/- How names agree: the reference's. -/
import Derived.Test.YtoinegfcodnjhaaGreatDoorClass
namespace Go.Proofs.YtoinegfcodnjhaaGreatDoor
open Go.RowKit

/-- Where the names behind the first one lie. -/
def tailA (A : Option Addr) (c : Nat) : Option Addr := if c = 1 then A else A.map (·.add 1)
theorem Strs.tail {w : World} {B : Nat} {A : Option Addr} {l : List ByteArray} {c : Nat} (h : Strs w B A l) (hc : l.length ≤ c) : Strs w B (tailA A c) l.tail := by
  intro k hk
  have hk' : k + 1 < l.length := by simp at hk; omega
  obtain ⟨b, off, rfl, hb, hcell, hs⟩ := h (k + 1) hk'
  have hc1 : ¬ c = 1 := by omega
  refine ⟨b, off + 1, by rw [tailA, if_neg hc1]; simp [Addr.add], hb, ?_, by simpa using hs⟩
  rw [show off + 1 + k = off + (k + 1) by omega, hcell]
  simp
theorem run_tail {P : Program} {t e : TypeId} (ht : P.underlying t = some (.slice e)) (hsz : (P.info? e).map (·.size) = some 1) (A : Option Addr) (l : List ByteArray) (c : Nat) (hl : 0 < l.length) (w : World) :
    (Instr.slice t (.slice A l.length c) (some (.int .i64 1)) none none).run P w = .ok (.slice (tailA A c) l.tail.length (c - 1)) w := by
  obtain ⟨i, hi, hs⟩ := Option.map_eq_some_iff.1 hsz
  have h1 : (1 : Int) ≤ (l.length : Int) := by omega
  simp [Instr.slice, Instr.sliceBounds, Instr.sliceBound, asIntOf, run_underlying ht, sizeOf, typeInfo, hi, hs, h1, tailA]

/-- How names agree: few names, and many. -/
def namesF (n : Int) (l m : List ByteArray) : Int :=
  if l.head? = m.head? ∧ subs (fitL (-1)) l.tail m.tail = true then 3
  else if (lev (l.head?.getD ByteArray.empty).data.toList (m.head?.getD ByteArray.empty).data.toList : Int) ≤ n ∧ subs (fitL n) l.tail m.tail = true then 2 else 0
def namesS (n : Int) (l m : List ByteArray) : Int := if m.length < l.length then namesF n m l else namesF n l m

theorem stringSize : (Tryz.prog.info? 9).map (·.size) = some 1 := by kernel_rfl

/-- What is answered, by what was found. -/
def namesV (x y : ByteArray) (s1 s2 : Bool) (v n : Int) : Int := if ((x.toList == y.toList) && s1) = true then 3 else if (decide (v ≤ n) && s2) = true then 2 else 0
theorem namesF_B (n : Int) (l m : List ByteArray) (pl : 0 < l.length) (pm : 0 < m.length) : namesF n l m = namesV l[0] m[0] (subs (fitL (-1)) l.tail m.tail) (subs (fitL n) l.tail m.tail) (lev l[0].data.toList m[0].data.toList) n := by
  have e1 : l.head? = some l[0] := by rw [List.head?_eq_getElem?]; exact List.getElem?_eq_getElem pl
  have e2 : m.head? = some m[0] := by rw [List.head?_eq_getElem?]; exact List.getElem?_eq_getElem pm
  have e3 : (l[0] = m[0]) ↔ (l[0].toList == m[0].toList) = true := by
    rw [beq_iff_eq, ByteArray.toList_eq, ByteArray.toList_eq]
    exact ⟨fun h => by rw [h], fun h => WideShapes.bytes_inj h⟩
  unfold namesF namesV
  rw [e1, e2]
  simp only [Option.some.injEq, Option.getD_some, Bool.and_eq_true, decide_eq_true_eq, e3]


end Go.Proofs.YtoinegfcodnjhaaGreatDoor
