/-
  OwnInts, and an error's number, for the third package of statements.
-/
import Derived.Test.YtbppimahedbpoaaDoorFM
namespace Go.Proofs.YtbppimahedbpoaaDoor
open Go.RowKit Go.Extern.Stop Go.Stop Go.Extern

theorem own_row (w : World) (t e : TypeId) (z : Value) (by_ : Nat) (ht : Tryd.prog.underlying t = some (.slice e)) (hi : (Tryd.prog.info? e).map (fun i => (i.zero, i.size, i.bytes)) = some (some z, 1, by_)) (hby : by_ ≤ 1000) (hzc : z.cells.size = 1)
    (a : Option Addr) (c : Nat) (news : List Value) (hc : ∀ j, j < news.length → ∃ b o, a = some ⟨b, o, none⟩ ∧ w.cell? ⟨b, o + j, none⟩ = news[j]?) (hone : ∀ u ∈ news, u.oneCell' = true) (hl : news.length ≤ 1000000) (ty : TypeId) :
    ∃ v' w', (Builtin.append_ #[t, t] ty #[.slice none 0 0, .slice a news.length c]).run Tryd.prog w = .ok v' w' ∧ w'.ownsRow w.heap.size e 1 v' news.length news ∧ Below w.heap.size w w' := by
  obtain ⟨i0, hi', hz0, hz1, hz2⟩ := info_parts hi
  have hmul : (0 + news.length) * by_ ≤ 1000000 * 1000 := Nat.mul_le_mul (by omega) hby
  have some_case : ∀ ad, a = some ad → (∀ j u, news[j]? = some u → w.cell? (ad.add j) = some u) → ∃ v' w', (Builtin.append_ #[t, t] ty #[.slice none 0 0, .slice a news.length c]).run Tryd.prog w = .ok v' w' ∧ w'.ownsRow w.heap.size e 1 v' news.length news ∧ Below w.heap.size w w' := by
    intro ad ea hcc
    subst ea
    obtain ⟨v', w', h1, h2, h3, _⟩ := run_append_own (P := Tryd.prog) w w.heap.size t ty e i0 z 1 by_ ht hi' hz0 hz1 hz2 hzc (by decide) (.slice none 0 0) 0 [] (World.ownsRow_nil _ _ _ _) ad news.length c news (by simp) hcc hone (by unfold maxLen; omega) (by omega) (Nat.le_refl _)
    refine ⟨v', w', h1, by simpa using h2, below_of_grown h3 (Nat.le_refl _) (World.ownsRow_nil w w.heap.size e 1) (Nat.le_refl _)⟩
  cases a with
  | some ad =>
    refine some_case ad rfl (fun j u hj => ?_)
    have hjl : j < news.length := (List.getElem?_eq_some_iff.1 hj).1
    obtain ⟨b, o, ea, hcell⟩ := hc j hjl
    cases ea
    rw [Addr.add_lit, hcell, hj]
  | none =>
    clear some_case
    have hn : news = [] := by
      rcases news with _ | ⟨x, r⟩
      · rfl
      · obtain ⟨b, o, ea, _⟩ := hc 0 (by simp)
        cases ea
    subst hn
    refine ⟨.slice none 0 0, w, ?_, World.ownsRow_nil _ _ _ _, Below.refl _ _⟩
    simp [Builtin.append_, run_underlying ht, sizeOf, typeInfo, hi', Builtin.lenOf, Builtin.firstCells]

theorem isInts_row {w : World} {v : Value} {zs : List Int} (h : IsInts w v zs) : ∃ a c, v = .slice a (zs.map intV).length c ∧ ∀ j, j < (zs.map intV).length → ∃ b o, a = some ⟨b, o, none⟩ ∧ w.cell? ⟨b, o + j, none⟩ = (zs.map intV)[j]? := by
  obtain ⟨a, c, rfl⟩ := isInts_form h
  refine ⟨a, c, by simp, fun j hj => ?_⟩
  have hj' : j < zs.length := by simpa using hj
  obtain ⟨b, o, ha, e⟩ := isInts_at h j hj'
  exact ⟨b, o, ha, by rw [e]; simp [intV, List.getD, hj']⟩
theorem ownInts_row (zs : List Int) (v : Value) (w : World) (hm : zs.length ≤ 1000000) (h : IsInts w v zs) :
    Calls Tryd.prog 19 #[v] w fun e w' => ∃ pa pc, e = .returned (.slice pa zs.length pc) ∧ w'.ownsRow w.heap.size 3 1 (.slice pa zs.length pc) zs.length (zs.map intV) ∧ Below w.heap.size w w' := by
  obtain ⟨a, c, rfl, hc⟩ := isInts_row h
  obtain ⟨v', w', hr, ho, hb⟩ := own_row w 22 3 (.int .i64 0) 8 Tryd.underlying22 Tryd.infoInt (by decide) rfl a c (zs.map intV) hc (fun u hu => by obtain ⟨y, _, rfl⟩ := List.mem_map.1 hu; rfl) (by simpa using hm) 22
  have hl : (zs.map intV).length = zs.length := by simp
  rw [hl] at ho hr ⊢
  obtain ⟨pa, pc, rfl⟩ := owns_form ho
  have HX : Hid (w'.ownsRow w.heap.size 3 1 (.slice pa zs.length pc) zs.length (zs.map intV) ∧ Below w.heap.size w w') := ⟨ho, hb⟩
  obtain ⟨n, hn⟩ : ∃ n, n = zs.length := ⟨_, rfl⟩
  rw [← hn] at hr HX ⊢
  clear ho hb h hc hl hn hm
  go_enter Tryd.func19, Tryd.ntmps19
  go_wp2_with (at_builtin; refine Lib.wpList_append_run _ rfl _ _ _ _ rfl _ _ rfl rfl _ _ hr ?_)
  go_ret
  exact ⟨pa, pc, rfl, HX.out⟩

theorem coded3_nil (w : World) : Calls Tryd.prog 10 #[.nilIface, .int .i64 0] w fun e w' => e = .returned (.bool true) ∧ Below w.heap.size w w' := by
  go_enter Tryd.func10, Tryd.ntmps10
  go_wp2_with (go_at_call 22; refine (code_nil _).mono ?_; rintro e w' ⟨rfl, rfl⟩)
  go_ret
  exact ⟨rfl, Below.refl _ _⟩
theorem coded3_err (a : Nat → Addr) (i : Nat) (n : Int) (w : World) (hi : i < 11) (hn : n = i + 1) (h : Errs w a) :
    Calls Tryd.prog 10 #[.iface 106 (.pointer (some (a i))), .int .i64 n] w fun e w' => e = .returned (.bool true) ∧ Below w.heap.size w w' := by
  subst hn
  have H : Hid (Errs w a) := h
  clear h
  go_enter Tryd.func10, Tryd.ntmps10
  go_wp2_with (go_at_call 22; refine (code_err a i _ hi ?_).mono ?_; exact H.out; rintro e w' ⟨rfl, hB⟩)
  go_ret
  exact ⟨rfl, hB⟩
end Go.Proofs.YtbppimahedbpoaaDoor
