/-
  Own work. The document's tokens: one token.
-/
import Derived.Test.YtbdffcjganlblaaGreatDoorHpAtoWalkB
namespace Go.Proofs.YtbdffcjganlblaaGreatDoor
open Go.RowKit
set_option linter.unusedVariables false
set_option linter.unusedSimpArgs false

theorem below_new (w : World) (o : Obj) : Below w.heap.size w (w.alloc o) := (Below.refl _ _).alloc (Nat.le_refl _) _

theorem tok_end (l : List UInt8) (i : Nat) (h : l.length ≤ i) : tokAt l i = ⟨101, [], i⟩ := by
  unfold tokAt; rw [List.drop_of_length_le h]
theorem dval_snoc (l : List UInt8) (c : UInt8) : dval (l ++ [c]) = 10 * dval l + (c.toNat - 48) := by
  simp [dval]
theorem dval_lt (l : List UInt8) (h : ∀ c ∈ l, c.toNat ≤ 57) : dval l < 10 ^ l.length := by
  have : ∀ r : List UInt8, (∀ c ∈ r, c.toNat ≤ 57) → dval r.reverse < 10 ^ r.length := by
    intro r
    induction r with
    | nil => intro _; simp [dval]
    | cons c r ih =>
      intro hr
      rw [List.reverse_cons, dval_snoc]
      have h1 := ih (fun x hx => hr x (List.mem_cons_of_mem _ hx))
      have h2 := hr c (List.mem_cons_self)
      simp only [List.length_cons, Nat.pow_succ]
      omega
  have := this l.reverse (by simpa using h)
  simpa using this
theorem take_more (s : ByteArray) (i k : Nat) (h1 : i ≤ k) (h2 : k < s.size) : (s.data.toList.drop i).take (k + 1 - i) = (s.data.toList.drop i).take (k - i) ++ [s[k]] := by
  rw [show k + 1 - i = (k - i) + 1 by omega, List.take_succ_eq_append_getElem (by simp; omega)]
  have e : (s.data.toList.drop i)[k - i]'(by simp; omega) = s[k] := by
    rw [List.getElem_drop]
    have h3 : i + (k - i) = k := by omega
    simp only [h3]
    rfl
  rw [e]

theorem mem_lead (P : Int → Bool) : ∀ (l : List UInt8) (n : Nat), n ≤ lead P l → ∀ c ∈ l.take n, P (c.toNat : Int) = true
  | [], n, _, c, h => by simp at h
  | d :: r, 0, _, c, h => by simp at h
  | d :: r, n + 1, hn, c, h => by
    simp only [lead] at hn
    split at hn
    · rename_i hd
      rcases List.mem_cons.1 (by simpa using h) with rfl | h'
      · exact hd
      · exact mem_lead P r n (by omega) c h'
    · omega

end Go.Proofs.YtbdffcjganlblaaGreatDoor

namespace Go.Proofs.YtbdffcjganlblaaGreatDoor
open Go.RowKit
set_option linter.unusedVariables false
set_option linter.unusedSimpArgs false

def allToks (l : List UInt8) : List PT := toks (l.length + 1) l 0
theorem grown_below {w w1 : World} (hb : Below w.heap.size w w1) : w.grownBy w1 none := ⟨hb.os, hb.tape, hb.output, hb.size, fun k hk _ => hb.block k hk⟩
theorem owns_below {w w1 : World} {base : Nat} {e : TypeId} {size : Nat} {v : Value} {n : Nat} {xs : List Value} (h : w.ownsRow base e size v n xs) (hb : Below w.heap.size w w1) : w1.ownsRow base e size v n xs :=
  h.kept (grown_below hb) (by cases h' : v.ownBlock <;> simp)
theorem cells_new (w : World) (c : Array Value) (t : TypeId) (n : Nat) (hn : n = w.heap.size) : ∀ j u, c.toList[j]? = some u → (w.alloc (.cells c t)).cell? ((⟨n, 0, none⟩ : Addr).add j) = some u := by
  intro j u hj
  have e : ((⟨n, 0, none⟩ : Addr).add j) = ⟨n, j, none⟩ := by simp [Addr.add]; intro h; exact h.symm
  rw [e, World.cell?_alloc_at c t n j hn]
  simpa using hj

end Go.Proofs.YtbdffcjganlblaaGreatDoor
