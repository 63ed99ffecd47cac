/-
  plain.Code by contracts: nil; each of the eleven errors; an *api.Fault that wraps one of them; an error that is none of them.
-/
import Derived.Test.YtbppimahedbpoaaDoorAs
import Derived.WalkLawsBesides
import Derived.WalkSpells
import Derived.Below
import Derived.Outline
namespace Go.Proofs.YtbppimahedbpoaaDoor
open Go.RowKit Go.Extern.Stop Go.Stop Go.Extern

/-- Where the eleven errors of package api lie, and what errors.As reads. -/
structure Errs (w : World) (a : Nat → Addr) : Prop where
  c0 : w.cell? ⟨4, 0, none⟩ = some (.iface 106 (.pointer (some (a 0))))
  c1 : w.cell? ⟨1, 0, none⟩ = some (.iface 106 (.pointer (some (a 1))))
  c2 : w.cell? ⟨2, 0, none⟩ = some (.iface 106 (.pointer (some (a 2))))
  c3 : w.cell? ⟨0, 0, none⟩ = some (.iface 106 (.pointer (some (a 3))))
  c4 : w.cell? ⟨6, 0, none⟩ = some (.iface 106 (.pointer (some (a 4))))
  c5 : w.cell? ⟨7, 0, none⟩ = some (.iface 106 (.pointer (some (a 5))))
  c6 : w.cell? ⟨8, 0, none⟩ = some (.iface 106 (.pointer (some (a 6))))
  c7 : w.cell? ⟨3, 0, none⟩ = some (.iface 106 (.pointer (some (a 7))))
  c8 : w.cell? ⟨9, 0, none⟩ = some (.iface 106 (.pointer (some (a 8))))
  c9 : w.cell? ⟨10, 0, none⟩ = some (.iface 106 (.pointer (some (a 9))))
  c10 : w.cell? ⟨5, 0, none⟩ = some (.iface 106 (.pointer (some (a 10))))
  et : w.cell? ⟨11, 0, none⟩ = some (.iface 92 (.agg #[.pointer (some ⟨12, 30, none⟩)]))
  hp : ∀ i, i < 11 → ∃ c t, w.heap[(a i).block]? = some (.cells c t (0, 0))
  ne : ∀ i j, i < 11 → j < 11 → i ≠ j → a i ≠ a j

theorem lt_of_cell {w : World} {p : Addr} {v : Value} (h : w.cell? p = some v) : p.block < w.heap.size := by
  rcases Nat.lt_or_ge p.block w.heap.size with g | g
  · exact g
  · simp [World.cell?, Array.getElem?_eq_none g] at h
theorem cell_keep {w w' : World} (hb : Below w.heap.size w w') {p : Addr} {v : Value} (h : w.cell? p = some v) : w'.cell? p = some v := by
  rw [hb.cell (lt_of_cell h)]; exact h
theorem Errs.below {w w' : World} {a : Nat → Addr} (h : Errs w a) (hb : Below w.heap.size w w') : Errs w' a where
  c0 := cell_keep hb h.c0
  c1 := cell_keep hb h.c1
  c2 := cell_keep hb h.c2
  c3 := cell_keep hb h.c3
  c4 := cell_keep hb h.c4
  c5 := cell_keep hb h.c5
  c6 := cell_keep hb h.c6
  c7 := cell_keep hb h.c7
  c8 := cell_keep hb h.c8
  c9 := cell_keep hb h.c9
  c10 := cell_keep hb h.c10
  et := cell_keep hb h.et
  hp := fun i hi => by
    obtain ⟨c, t, e⟩ := h.hp i hi
    refine ⟨c, t, ?_⟩
    have hl : (a i).block < w.heap.size := by
      rcases Nat.lt_or_ge (a i).block w.heap.size with g | g
      · exact g
      · simp [Array.getElem?_eq_none g] at e
    rw [hb.block _ hl]; exact e
  ne := h.ne

/-- Code(nil). -/
theorem code_nil (w : World) : Calls Tryd.prog 22 #[.nilIface] w fun e w' => e = .returned (.tuple #[.int .i64 0, .int .i64 (-1)]) ∧ w' = w := by
  go_enter Tryd.func22, Tryd.ntmps22
  go_wp2
  go_ret2
  exact ⟨rfl, rfl⟩

/-- The eleven, as the list that Code makes. -/
def errCells (a : Nat → Addr) : Array Value := #[.iface 106 (.pointer (some (a 0))), .iface 106 (.pointer (some (a 1))), .iface 106 (.pointer (some (a 2))), .iface 106 (.pointer (some (a 3))), .iface 106 (.pointer (some (a 4))), .iface 106 (.pointer (some (a 5))), .iface 106 (.pointer (some (a 6))), .iface 106 (.pointer (some (a 7))), .iface 106 (.pointer (some (a 8))), .iface 106 (.pointer (some (a 9))), .iface 106 (.pointer (some (a 10)))]
theorem errCells_at (a : Nat → Addr) (k : Nat) (hk : k < 11) : (errCells a)[k]? = some (.iface 106 (.pointer (some (a k)))) := by
  match k, hk with
  | 0, _ => rfl
  | 1, _ => rfl
  | 2, _ => rfl
  | 3, _ => rfl
  | 4, _ => rfl
  | 5, _ => rfl
  | 6, _ => rfl
  | 7, _ => rfl
  | 8, _ => rfl
  | 9, _ => rfl
  | 10, _ => rfl
  | n + 11, h => exact absurd h (by omega)

theorem Errs.alloc {w : World} {a : Nat → Addr} (h : Errs w a) (o : Obj) : Errs (w.alloc o) a := h.below ((Below.refl _ _).alloc (Nat.le_refl _) o)

set_option maxHeartbeats 1000000 in
/-- Code of one of the eleven: its number; no place. -/
theorem code_err (a : Nat → Addr) (i : Nat) (w : World) (hi : i < 11) (h : Errs w a) :
    Calls Tryd.prog 22 #[.iface 106 (.pointer (some (a i)))] w fun e w' => e = .returned (.tuple #[.int .i64 (i + 1), .int .i64 (-1)]) ∧ Below w.heap.size w w' := by
  have H : Hid (Errs w a) := h
  have k0 := fun o1 o2 o3 o4 => ((((h.alloc o1).alloc o2).alloc o3).alloc o4).c0
  have k1 := fun o1 o2 o3 o4 => ((((h.alloc o1).alloc o2).alloc o3).alloc o4).c1
  have k2 := fun o1 o2 o3 o4 => ((((h.alloc o1).alloc o2).alloc o3).alloc o4).c2
  have k3 := fun o1 o2 o3 o4 => ((((h.alloc o1).alloc o2).alloc o3).alloc o4).c3
  have k4 := fun o1 o2 o3 o4 => ((((h.alloc o1).alloc o2).alloc o3).alloc o4).c4
  have k5 := fun o1 o2 o3 o4 => ((((h.alloc o1).alloc o2).alloc o3).alloc o4).c5
  have k6 := fun o1 o2 o3 o4 => ((((h.alloc o1).alloc o2).alloc o3).alloc o4).c6
  have k7 := fun o1 o2 o3 o4 => ((((h.alloc o1).alloc o2).alloc o3).alloc o4).c7
  have k8 := fun o1 o2 o3 o4 => ((((h.alloc o1).alloc o2).alloc o3).alloc o4).c8
  have k9 := fun o1 o2 o3 o4 => ((((h.alloc o1).alloc o2).alloc o3).alloc o4).c9
  have k10 := fun o1 o2 o3 o4 => ((((h.alloc o1).alloc o2).alloc o3).alloc o4).c10
  clear h
  go_enter Tryd.func22, Tryd.ntmps22
  go_wp2_with (go_at_call 37; refine (as_miss _ _ _ ?_).mono ?_; exact (Errs.alloc H.out _).et; rintro e w' ⟨rfl, rfl⟩)
  go_loopw [3, 29] (fun u t wr => ∃ k : Nat, k ≤ i ∧ u = .int .i64 (-1) ∧ t = .int .i64 k ∧ Errs wr a ∧ Below w.heap.size w wr ∧ (∀ j, j < 11 → wr.cell? ⟨w.heap.size + 1 + 1 + 1 + 1, j, none⟩ = some (.iface 106 (.pointer (some (a j)))))) (fun _ t _ => (11 - intOf t).toNat)
  case atStart =>
    refine ⟨0, Nat.zero_le _, rfl, rfl, ((((H.out.alloc _).alloc _).alloc _).alloc _).alloc _, ?_, ?_⟩
    · exact ((((((Below.refl _ _).alloc (Nat.le_refl _) _).alloc (by simp) _).alloc (by simp; omega) _).alloc (by simp; omega) _).alloc (by simp; omega) _)
    · intro j hj
      rw [World.cell?_alloc_at _ _ _ _ (by simp)]
      exact errCells_at a j hj
  case round =>
    obtain ⟨k, hk, rfl, rfl, hE, hB, hL⟩ := hrel
    have hl := hL k (by omega)
    have HE : Hid (Errs wr a) := hE
    have HL : Hid (∀ j, j < 11 → wr.cell? ⟨w.heap.size + 1 + 1 + 1 + 1, j, none⟩ = some (.iface 106 (.pointer (some (a j))))) := hL
    clear hE hL
    by_cases hki : k = i
    · subst hki
      go_wp2_with (go_at_call 38; refine (is_same _ _).mono ?_; rintro e w' ⟨rfl, rfl⟩)
      go_ret2
      exact ⟨rfl, hB⟩
    · have hne : a i ≠ a k := HE.out.ne i k hi (by omega) (fun e => hki e.symm)
      obtain ⟨ci, ti, hci⟩ := HE.out.hp i hi
      obtain ⟨ck, tk, hck⟩ := HE.out.hp k (by omega)
      have HN : Hid (a i ≠ a k) := hne
      have HI : Hid (wr.heap[(a i).block]? = some (.cells ci ti (0, 0))) := hci
      have HK : Hid (wr.heap[(a k).block]? = some (.cells ck tk (0, 0))) := hck
      have hlt : k < i := by omega
      clear hne hci hck hki
      go_wp2_with (go_at_call 38; refine (is_other _ _ ci ck ti tk _ ?_ ?_ ?_).mono ?_; exact HN.out; exact HI.out; exact HK.out; rintro e w' ⟨rfl, rfl⟩)
      go_roundw
      case rel => exact ⟨k + 1, hlt, rfl, by go_num, HE.out, hB, HL.out⟩
      case measure => simp [intOf]; omega
set_option maxHeartbeats 1000000 in
/-- Code of an error of errors.New that is none of the eleven: -1; no place. -/
theorem code_other (a : Nat → Addr) (b : Addr) (w : World) (hn : ∀ i, i < 11 → b ≠ a i) (cb : Array Value) (tb : TypeId) (hb : w.heap[b.block]? = some (.cells cb tb (0, 0))) (h : Errs w a) :
    Calls Tryd.prog 22 #[.iface 106 (.pointer (some b))] w fun e w' => e = .returned (.tuple #[.int .i64 (-1), .int .i64 (-1)]) ∧ Below w.heap.size w w' := by
  have H : Hid (Errs w a) := h
  have HN : Hid (∀ i, i < 11 → b ≠ a i) := hn
  have hbl : b.block < w.heap.size := by
    rcases Nat.lt_or_ge b.block w.heap.size with g | g
    · exact g
    · simp [Array.getElem?_eq_none g] at hb
  have HB : Hid (w.heap[b.block]? = some (.cells cb tb (0, 0))) := hb
  clear hn hb
  have k0 := fun o1 o2 o3 o4 => ((((h.alloc o1).alloc o2).alloc o3).alloc o4).c0
  have k1 := fun o1 o2 o3 o4 => ((((h.alloc o1).alloc o2).alloc o3).alloc o4).c1
  have k2 := fun o1 o2 o3 o4 => ((((h.alloc o1).alloc o2).alloc o3).alloc o4).c2
  have k3 := fun o1 o2 o3 o4 => ((((h.alloc o1).alloc o2).alloc o3).alloc o4).c3
  have k4 := fun o1 o2 o3 o4 => ((((h.alloc o1).alloc o2).alloc o3).alloc o4).c4
  have k5 := fun o1 o2 o3 o4 => ((((h.alloc o1).alloc o2).alloc o3).alloc o4).c5
  have k6 := fun o1 o2 o3 o4 => ((((h.alloc o1).alloc o2).alloc o3).alloc o4).c6
  have k7 := fun o1 o2 o3 o4 => ((((h.alloc o1).alloc o2).alloc o3).alloc o4).c7
  have k8 := fun o1 o2 o3 o4 => ((((h.alloc o1).alloc o2).alloc o3).alloc o4).c8
  have k9 := fun o1 o2 o3 o4 => ((((h.alloc o1).alloc o2).alloc o3).alloc o4).c9
  have k10 := fun o1 o2 o3 o4 => ((((h.alloc o1).alloc o2).alloc o3).alloc o4).c10
  clear h
  go_enter Tryd.func22, Tryd.ntmps22
  go_wp2_with (go_at_call 37; refine (as_miss _ _ _ ?_).mono ?_; exact (Errs.alloc H.out _).et; rintro e w' ⟨rfl, rfl⟩)
  go_loopw [3, 29] (fun u t wr => ∃ k : Nat, k ≤ 11 ∧ u = .int .i64 (-1) ∧ t = .int .i64 k ∧ Errs wr a ∧ Below w.heap.size w wr ∧ (∀ j, j < 11 → wr.cell? ⟨w.heap.size + 1 + 1 + 1 + 1, j, none⟩ = some (.iface 106 (.pointer (some (a j)))))) (fun _ t _ => (11 - intOf t).toNat)
  case atStart =>
    refine ⟨0, Nat.zero_le _, rfl, rfl, ((((H.out.alloc _).alloc _).alloc _).alloc _).alloc _, ?_, ?_⟩
    · exact ((((((Below.refl _ _).alloc (Nat.le_refl _) _).alloc (by simp) _).alloc (by simp; omega) _).alloc (by simp; omega) _).alloc (by simp; omega) _)
    · intro j hj
      rw [World.cell?_alloc_at _ _ _ _ (by simp)]
      exact errCells_at a j hj
  case round =>
    obtain ⟨k, hk, rfl, rfl, hE, hB, hL⟩ := hrel
    by_cases hlt : k < 11
    · have hl := hL k hlt
      have HE : Hid (Errs wr a) := hE
      have HL : Hid (∀ j, j < 11 → wr.cell? ⟨w.heap.size + 1 + 1 + 1 + 1, j, none⟩ = some (.iface 106 (.pointer (some (a j))))) := hL
      clear hE hL
      obtain ⟨ck, tk, hck⟩ := HE.out.hp k hlt
      have HK : Hid (wr.heap[(a k).block]? = some (.cells ck tk (0, 0))) := hck
      have HI : Hid (wr.heap[b.block]? = some (.cells cb tb (0, 0))) := by
        show wr.heap[b.block]? = some (.cells cb tb (0, 0))
        rw [hB.block _ hbl]; exact HB.out
      clear hck
      go_wp2_with (go_at_call 38; refine (is_other _ _ cb ck tb tk _ ?_ ?_ ?_).mono ?_; exact HN.out k hlt; exact HI.out; exact HK.out; rintro e w' ⟨rfl, rfl⟩)
      go_roundw
      case rel => exact ⟨k + 1, hlt, rfl, by go_num, HE.out, hB, HL.out⟩
      case measure => simp [intOf]; omega
    · clear hE hL
      go_wp2
      go_ret2
      exact ⟨rfl, hB⟩
set_option maxHeartbeats 1000000 in
/-- Code of an *api.Fault that wraps one of the eleven: its number, and the place. -/
theorem code_fault (a : Nat → Addr) (i : Nat) (pb po : Nat) (n : Int) (w : World) (hi : i < 11) (hat : w.cell? ⟨pb, po, none⟩ = some (.int .i64 n)) (hwr : w.cell? ⟨pb, po + 1, none⟩ = some (.iface 106 (.pointer (some (a i))))) (h : Errs w a) :
    Calls Tryd.prog 22 #[.iface 69 (.pointer (some ⟨pb, po, none⟩))] w fun e w' => e = .returned (.tuple #[.int .i64 (i + 1), .int .i64 n]) ∧ Below w.heap.size w w' := by
  have H : Hid (Errs w a) := h
  have HW : Hid (w.cell? ⟨pb, po + 1, none⟩ = some (.iface 106 (.pointer (some (a i))))) := hwr
  have hz : pb < w.heap.size := lt_of_cell hat
  have hat1 : ∀ o1 o2 o3 o4 o5, (((((w.alloc o1).alloc o2).alloc o3).alloc o4).alloc o5).cell? ⟨pb, po, none⟩ = some (.int .i64 n) := fun o1 o2 o3 o4 o5 => cell_keep (((((((Below.refl _ w).alloc (Nat.le_refl _) o1).alloc (by simp) o2).alloc (by simp; omega) o3).alloc (by simp; omega) o4).alloc (by simp; omega) o5)) hat
  clear hwr hat
  have k0 := fun o1 o2 o3 o4 o5 => (((((h.alloc o1).alloc o2).alloc o3).alloc o4).alloc o5).c0
  have k1 := fun o1 o2 o3 o4 o5 => (((((h.alloc o1).alloc o2).alloc o3).alloc o4).alloc o5).c1
  have k2 := fun o1 o2 o3 o4 o5 => (((((h.alloc o1).alloc o2).alloc o3).alloc o4).alloc o5).c2
  have k3 := fun o1 o2 o3 o4 o5 => (((((h.alloc o1).alloc o2).alloc o3).alloc o4).alloc o5).c3
  have k4 := fun o1 o2 o3 o4 o5 => (((((h.alloc o1).alloc o2).alloc o3).alloc o4).alloc o5).c4
  have k5 := fun o1 o2 o3 o4 o5 => (((((h.alloc o1).alloc o2).alloc o3).alloc o4).alloc o5).c5
  have k6 := fun o1 o2 o3 o4 o5 => (((((h.alloc o1).alloc o2).alloc o3).alloc o4).alloc o5).c6
  have k7 := fun o1 o2 o3 o4 o5 => (((((h.alloc o1).alloc o2).alloc o3).alloc o4).alloc o5).c7
  have k8 := fun o1 o2 o3 o4 o5 => (((((h.alloc o1).alloc o2).alloc o3).alloc o4).alloc o5).c8
  have k9 := fun o1 o2 o3 o4 o5 => (((((h.alloc o1).alloc o2).alloc o3).alloc o4).alloc o5).c9
  have k10 := fun o1 o2 o3 o4 o5 => (((((h.alloc o1).alloc o2).alloc o3).alloc o4).alloc o5).c10
  clear h
  go_enter Tryd.func22, Tryd.ntmps22
  go_wp2_with (go_at_call 37; refine (as_hit ⟨pb, po, none⟩ ⟨w.heap.size, 0, none⟩ (.pointer none) _ ?_ ?_ ?_).mono ?_; exact (Errs.alloc H.out _).et; simp; simp; rintro e w' ⟨rfl, rfl⟩)
  go_loopw [3, 29] (fun u t wr => ∃ k : Nat, k ≤ i ∧ u = .int .i64 n ∧ t = .int .i64 k ∧ Errs wr a ∧ Below w.heap.size w wr ∧ (∀ j, j < 11 → wr.cell? ⟨w.heap.size + 1 + 1 + 1 + 1 + 1, j, none⟩ = some (.iface 106 (.pointer (some (a j))))) ∧ wr.cell? ⟨pb, po + 1, none⟩ = some (.iface 106 (.pointer (some (a i))))) (fun _ t _ => (11 - intOf t).toNat)
  case atStart =>
    have hB0 := fun o1 o2 o3 o4 o5 o6 => (((((((Below.refl w.heap.size w).alloc (Nat.le_refl _) o1).alloc (by simp) o2).alloc (by simp; omega) o3).alloc (by simp; omega) o4).alloc (by simp; omega) o5).alloc (by simp; omega) o6)
    refine ⟨0, Nat.zero_le _, rfl, rfl, H.out.below (hB0 _ _ _ _ _ _), hB0 _ _ _ _ _ _, ?_, cell_keep (hB0 _ _ _ _ _ _) HW.out⟩
    intro j hj
    rw [World.cell?_alloc_at _ _ _ _ (by simp)]
    exact errCells_at a j hj
  case round =>
    obtain ⟨k, hk, rfl, rfl, hE, hB, hL, hV⟩ := hrel
    have hl := hL k (by omega)
    have HE : Hid (Errs wr a) := hE
    have HL : Hid (∀ j, j < 11 → wr.cell? ⟨w.heap.size + 1 + 1 + 1 + 1 + 1, j, none⟩ = some (.iface 106 (.pointer (some (a j))))) := hL
    clear hE hL
    have HV : Hid (wr.cell? ⟨pb, po + 1, none⟩ = some (.iface 106 (.pointer (some (a i))))) := hV
    clear hV
    by_cases hki : k = i
    · subst hki
      go_wp2_with (go_at_call 38; refine (is_fault_same _ _ _ _ ?_).mono ?_; exact HV.out; rintro e w' ⟨rfl, rfl⟩)
      go_ret2
      exact ⟨rfl, hB⟩
    · have hne : a i ≠ a k := HE.out.ne i k hi (by omega) (fun e => hki e.symm)
      obtain ⟨ci, ti, hci⟩ := HE.out.hp i hi
      obtain ⟨ck, tk, hck⟩ := HE.out.hp k (by omega)
      have HN : Hid (a i ≠ a k) := hne
      have HI : Hid (wr.heap[(a i).block]? = some (.cells ci ti (0, 0))) := hci
      have HK : Hid (wr.heap[(a k).block]? = some (.cells ck tk (0, 0))) := hck
      have hlt : k < i := by omega
      clear hne hci hck hki
      go_wp2_with (go_at_call 38; refine (is_fault_other _ _ _ (a i) ci ck ti tk _ ?_ ?_ ?_ ?_).mono ?_; exact HV.out; exact HN.out; exact HI.out; exact HK.out; rintro e w' ⟨rfl, rfl⟩)
      go_roundw
      case rel => exact ⟨k + 1, hlt, rfl, by go_num, HE.out, hB, HL.out, HV.out⟩
      case measure => simp [intOf]; omega
end Go.Proofs.YtbppimahedbpoaaDoor
