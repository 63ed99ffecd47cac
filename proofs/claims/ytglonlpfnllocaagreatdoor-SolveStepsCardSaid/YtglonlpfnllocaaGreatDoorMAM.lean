/-
  A map with whatever keys and whatever values: what it holds key by key; a look-up, a store.
-/
import Derived.Test.YtglonlpfnllocaaGreatDoorPMemM
import Derived.Maps.Own
import Derived.Maps.OwnOps
import Derived.Maps.Views
namespace Go.Proofs.YtglonlpfnllocaaGreatDoor
open Go.RowKit Go.Extern.Stop Go.Stop Go.Extern Go.Maps

/-- Each value reads as itself. -/
def heldR (v : Value) : Option (DataW Value × List MemPlace) := some (.held v, [])
/-- Keys of a kind: what they are as values, as what they read. -/
structure KeyFn (k : TypeId) (κ : Type) (val : κ → Value) (lit : κ → Lit) (ok : κ → Prop) : Prop where
  keyed : Keyed Tryz.prog k
  key : ∀ x, ok x → keyOf Tryz.prog k (val x) = some (lit x)
  inj : ∀ x y, ok x → ok y → lit x = lit y → x = y
/-- Block b is a map that holds f x at the key x (none: nothing is there). -/
def KMap (k : TypeId) {κ : Type} (lit : κ → Lit) (ok : κ → Prop) (w : World) (b n : Nat) (f : κ → Option Value) : Prop :=
  ∃ D : DataW Value, w.ownsMap Tryz.prog k heldR b n D ∧ IsMap D ∧ ∀ x, ok x → ∀ z, D.atKey (lit x) (.held z) = .held ((f x).getD z)
section
variable {k : TypeId} {κ : Type} {val : κ → Value} {lit : κ → Lit} {ok : κ → Prop}
theorem KMap.made (k : TypeId) (lit : κ → Lit) (ok : κ → Prop) (w : World) : KMap k lit ok (w.alloc (.map #[] 0)) w.heap.size 0 fun _ => none :=
  ⟨.map [], World.ownsMap_made w Tryz.prog k heldR, ⟨[], rfl⟩, fun _ _ _ => rfl⟩
theorem KMap.mono {w : World} {b n n' : Nat} {f : κ → Option Value} (h : KMap k lit ok w b n f) (hn : n ≤ n') : KMap k lit ok w b n' f := by
  obtain ⟨D, h1, h2⟩ := h
  exact ⟨D, h1.mono hn, h2⟩
theorem KMap.keep {w w' : World} {b n : Nat} {f : κ → Option Value} (h : KMap k lit ok w b n f) (hk : w'.heap[b]? = w.heap[b]?) : KMap k lit ok w' b n f := by
  obtain ⟨D, ⟨es, clock, hb, F, hs, hD⟩, h2⟩ := h
  exact ⟨D, ⟨es, clock, by rw [hk]; exact hb, F, hs, hD⟩, h2⟩
theorem KMap.lt {w : World} {b n : Nat} {f : κ → Option Value} (h : KMap k lit ok w b n f) : b < w.heap.size := by
  obtain ⟨D, h1, -⟩ := h
  exact h1.lt
theorem KMap.isMap {w : World} {b n : Nat} {f : κ → Option Value} (h : KMap k lit ok w b n f) : ∃ es clock, w.heap[b]? = some (.map es clock) := by
  obtain ⟨D, ⟨es, clock, hb, -⟩, -⟩ := h
  exact ⟨es, clock, hb⟩
theorem KMap.below {w w' : World} {b n : Nat} {f : κ → Option Value} (h : KMap k lit ok w b n f) (hb : Below w.heap.size w w') : KMap k lit ok w' b n f := h.keep (hb.block b h.lt)
theorem heldR_inv {v : Value} {d : DataW Value} {ps : List MemPlace} (h : heldR v = some (d, ps)) : d = .held v := by
  unfold heldR at h
  injection h with h
  injection h with h _
  exact h.symm
theorem held_inj {a b : Value} (h : (DataW.held a : DataW Value) = .held b) : a = b := by injection h
/-- 'm[k]'. -/
theorem KMap.look (K : KeyFn k κ val lit ok) {w : World} {b n : Nat} {f : κ → Option Value} (h : KMap k lit ok w b n f) {t e : TypeId} (ht : Tryz.prog.underlying t = some (.map k e)) {z : Value} (hz : (zeroValue e).run Tryz.prog w = .ok z w) (x : κ) (hx : ok x) :
    (Instr.lookup t (.map (some b)) (val x) false).run Tryz.prog w = .ok ((f x).getD z) w := by
  obtain ⟨D, h1, -, h2⟩ := h
  obtain ⟨v, ps, hr, hv⟩ := h1.lookup K.keyed ht hz (zd := .held z) (zp := []) rfl (K.key x hx)
  rw [h2 x hx z] at hv
  rw [hr, held_inj (heldR_inv hv)]
set_option maxRecDepth 100000 in
/-- 'v, ok := m[k]'. -/
theorem KMap.look2 (K : KeyFn k κ val lit ok) {w : World} {b n : Nat} {f : κ → Option Value} (h : KMap k lit ok w b n f) {t e : TypeId} (ht : Tryz.prog.underlying t = some (.map k e)) {z : Value} (hz : (zeroValue e).run Tryz.prog w = .ok z w) (x : κ) (hx : ok x) :
    (Instr.lookup t (.map (some b)) (val x) true).run Tryz.prog w = .ok (.tuple #[(f x).getD z, .bool (f x).isSome]) w := by
  obtain ⟨D, ⟨es, clock, hb, F, hs, hD⟩, -, h2⟩ := h
  have hl := h2 x hx
  rw [hD] at hl
  rcases Maps.fit_look true K.keyed ht hz hb F (K.key x hx) with ⟨hr, -, hat⟩ | ⟨e0, y, -, -, hr, hR, hat, -⟩
  · have hn : f x = none := by
      cases hf : f x with
      | none => rfl
      | some v =>
        have h3 := hl (.bool true)
        have h4 := hl (.bool false)
        rw [hat, hf] at h3 h4
        have h5 : Value.bool true = v := held_inj h3
        have h6 : Value.bool false = v := held_inj h4
        rw [← h5] at h6
        injection h6 with h6
        cases h6
    rw [hr, hn]
    simp
  · obtain ⟨d, ps⟩ := y
    have hd := heldR_inv hR
    have hs : ∃ v, f x = some v := by
      cases hf : f x with
      | some v => exact ⟨v, rfl⟩
      | none =>
        have h3 := hl (.bool true)
        have h4 := hl (.bool false)
        rw [hat, hf] at h3 h4
        have h3' : d = .held (.bool true) := h3
        have h4' : d = .held (.bool false) := h4
        rw [h3'] at h4'
        have h5 := held_inj h4'
        injection h5 with h5
        cases h5
    obtain ⟨v, hv⟩ := hs
    have h3 := hl z
    rw [hat, hv] at h3
    have h3' : d = .held v := h3
    rw [hd] at h3'
    rw [hr, hv, held_inj h3']
    simp
/-- What a map holds when x holds v besides. -/
def putM [DecidableEq κ] (f : κ → Option Value) (x : κ) (v : Value) : κ → Option Value := fun y => if y = x then some v else f y
theorem putM_same [DecidableEq κ] (f : κ → Option Value) (x : κ) (v : Value) : putM f x v x = some v := if_pos rfl
theorem putM_other [DecidableEq κ] (f : κ → Option Value) {x y : κ} (v : Value) (h : y ≠ x) : putM f x v y = f y := if_neg h
/-- 'm[k] = v'. -/
theorem KMap.put [DecidableEq κ] (K : KeyFn k κ val lit ok) {w : World} {b n : Nat} {f : κ → Option Value} (h : KMap k lit ok w b n f) {t e : TypeId} (ht : Tryz.prog.underlying t = some (.map k e)) (hn : n < maxLen) (x : κ) (hx : ok x) (v : Value) :
    ∃ w', (Instr.mapUpdate t (.map (some b)) (val x) v).run Tryz.prog w = .ok () w' ∧ KMap k lit ok w' b (n + 1) (putM f x v) ∧ w.grownBy w' (some b) := by
  obtain ⟨D, h1, hm, h2⟩ := h
  obtain ⟨w', hr, ho, hg⟩ := h1.update K.keyed ht hn (K.key x hx) (d := .held v) (ps := []) rfl
  have hm' : IsMap (D.put (lit x) (.held v)) := by
    obtain ⟨es, clock, hb, F, hs, hD⟩ := ho
    exact ⟨_, hD⟩
  refine ⟨w', hr, ⟨_, ho, hm', fun y hy z => ?_⟩, hg⟩
  by_cases e : y = x
  · subst e
    rw [putM_same, atKey_put_same hm (K.keyed.key (K.key y hx))]
    rfl
  · rw [putM_other _ _ e, atKey_put_other (fun q => e (K.inj _ _ hy hx q))]
    exact h2 y hy z
end
/-- Numbers as keys. -/
def okI (x : Int) : Prop := -9223372036854775808 ≤ x ∧ x ≤ 9223372036854775807
theorem intKeys : KeyFn 3 Int (fun x => .int .i64 x) (fun x => .int .i64 x) okI :=
  ⟨int_keyed Tryz.underlying3, fun x hx => keyOf_int_mk Tryz.underlying3 (WalkArith.wf_i64 hx), fun x y _ _ h => by injection h⟩
end Go.Proofs.YtglonlpfnllocaaGreatDoor
