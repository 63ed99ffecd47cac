/-
  Package prog: all at names, numbers and functions, by contracts.
-/
import Derived.Test.YtimmkenmahagjaaGreatDoorPB
namespace Go.Proofs.YtimmkenmahagjaaGreatDoor
open Go.RowKit Go.Extern.Stop Go.Stop Go.Extern

theorem any_take {α : Type} (p : α → Bool) (l : List α) (d : α) (k : Nat) (h : k < l.length) (h0 : (l.take k).any p = false) : (l.take (k + 1)).any p = p (l.getD k d) := by
  rw [List.take_succ_eq_append_getElem h, List.any_append, h0]
  simp [List.getD, h]
theorem any_here {α : Type} (p : α → Bool) (l : List α) (d : α) (k : Nat) (h : k < l.length) (g : p (l.getD k d) = true) : l.any p = true :=
  List.any_eq_true.2 ⟨l[k], List.getElem_mem h, by simpa [List.getD, h] using g⟩
theorem not_any {α : Type} (p : α → Bool) (l : List α) : (!l.any fun x => !p x) = l.all p := by
  rw [List.not_any_eq_all_not]
  exact List.all_congr rfl (fun x => by rw [Bool.not_not])

set_option maxHeartbeats 2000000 in
theorem indexFuncI (p : Int → Bool) (ss : List Int) (v : Value) (pb : Nat) (w : World) (hm : ss.length ≤ 1000000) (h : IsInts w v ss)
    (hcl : ∀ wr x, Below w.heap.size w wr → Calls Tryz.prog 132 #[.int .i64 x, .pointer (some ⟨pb, 0, none⟩)] wr fun e w' => e = .returned (.bool (p x)) ∧ Below wr.heap.size wr w') :
    Calls Tryz.prog 91 #[v, .func (Fn.func 132) #[] #[.pointer (some ⟨pb, 0, none⟩)]] w fun e w' => ∃ r : Int, e = .returned (.int .i64 r) ∧ ((0 ≤ r ∧ ss.any p = true) ∨ (r = -1 ∧ ss.any p = false)) ∧ Below w.heap.size w w' := by
  have HCL : Hid (∀ wr x, Below w.heap.size w wr → Calls Tryz.prog 132 #[.int .i64 x, .pointer (some ⟨pb, 0, none⟩)] wr fun e w' => e = .returned (.bool (p x)) ∧ Below wr.heap.size wr w') := hcl
  clear hcl
  have HC : Hid (IsInts w v ss) := h
  obtain ⟨a, c, rfl⟩ := isInts_form h
  clear h
  generalize hn : ss.length = n at *
  have HN : Hid (ss.length = n) := hn
  clear hn
  go_enter Tryz.func91, Tryz.ntmps91
  go_wp2_with fail
  go_loopw [8] (fun t wr => ∃ k : Nat, k ≤ n ∧ t = .int .i64 k ∧ (ss.take k).any p = false ∧ Below w.heap.size w wr) (fun t _ => (n - intOf t).toNat)
  case atStart => exact ⟨0, Nat.zero_le _, rfl, rfl, Below.refl _ _⟩
  case round =>
    obtain ⟨k, hk, rfl, hall, hB⟩ := hrel
    have HA : Hid ((ss.take k).any p = false) := hall
    clear hall
    by_cases hlt : k < n
    · have hl : k < ss.length := by rw [HN.out]; exact hlt
      have HY : Hid ((ss.take (k + 1)).any p = p (ss.getD k 0) ∧ (p (ss.getD k 0) = true → ss.any p = true)) := ⟨any_take p ss 0 k hl HA.out, any_here p ss 0 k hl⟩
      clear hl
      obtain ⟨b, o, rfl, e0⟩ := isInts_at HC.out k (by rw [HN.out]; exact hlt)
      have e1 := cell_keep hB e0
      obtain ⟨z, hze⟩ : ∃ z, z = ss.getD k 0 := ⟨_, rfl⟩
      rw [← hze] at e1 HY
      clear hze e0
      go_wp2_with fail
      refine (HCL.out wr z hB).mono ?_
      rintro e w1 ⟨rfl, hB1⟩
      have hBw : Below w.heap.size w w1 := hB.trans (hB1.mono hB.size)
      clear hB1
      cases hpz : p z with
      | true =>
        have HP : Hid (ss.any p = true) := HY.out.2 hpz
        clear hpz
        go_wp2_with fail
        go_ret
        exact ⟨k, rfl, Or.inl ⟨by omega, HP.out⟩, hBw⟩
      | false =>
        have HP : Hid ((ss.take (k + 1)).any p = false) := by
          show (ss.take (k + 1)).any p = false
          rw [HY.out.1]; exact hpz
        clear hpz
        go_wp2_with fail
        go_roundw
        case rel => exact ⟨k + 1, hlt, by go_num, HP.out, hBw⟩
        case measure => simp [intOf]; omega
    · go_wp2_with fail
      go_ret
      refine ⟨-1, rfl, Or.inr ⟨rfl, ?_⟩, hB⟩
      have hkn : k = ss.length := by rw [HN.out]; omega
      have := HA.out
      rw [hkn, List.take_length] at this
      exact this

set_option maxHeartbeats 2000000 in
theorem indexFuncF (p : FunD → Bool) (ss : List FunD) (v : Value) (pb : Nat) (w : World) (hm : ss.length ≤ 1000000) (h : IsFuns w v ss)
    (hcl : ∀ wr x pv, Below w.heap.size w wr → x ∈ ss → IsCap wr pv x.params → Calls Tryz.prog 131 #[.agg #[.string (S x.name), pv, .int .i64 x.ret], .pointer (some ⟨pb, 0, none⟩)] wr fun e w' => e = .returned (.bool (p x)) ∧ Below wr.heap.size wr w') :
    Calls Tryz.prog 150 #[v, .func (Fn.func 131) #[] #[.pointer (some ⟨pb, 0, none⟩)]] w fun e w' => ∃ r : Int, e = .returned (.int .i64 r) ∧ ((0 ≤ r ∧ ss.any p = true) ∨ (r = -1 ∧ ss.any p = false)) ∧ Below w.heap.size w w' := by
  have HCL : Hid (∀ wr x pv, Below w.heap.size w wr → x ∈ ss → IsCap wr pv x.params → Calls Tryz.prog 131 #[.agg #[.string (S x.name), pv, .int .i64 x.ret], .pointer (some ⟨pb, 0, none⟩)] wr fun e w' => e = .returned (.bool (p x)) ∧ Below wr.heap.size wr w') := hcl
  clear hcl
  obtain ⟨a, c, rfl, hcp, hc⟩ := h
  clear hcp
  have HC : Hid (∀ j, j < ss.length → ∃ b o, a = some ⟨b, o, none⟩ ∧ FunAt w b (o + j * 3) (ss.getD j default)) := hc
  clear hc
  generalize hn : ss.length = n at *
  have HN : Hid (ss.length = n) := hn
  clear hn
  go_enter Tryz.func150, Tryz.ntmps150
  go_wp2_with fail
  go_loopw [8] (fun t wr => ∃ k : Nat, k ≤ n ∧ t = .int .i64 k ∧ (ss.take k).any p = false ∧ Below w.heap.size w wr) (fun t _ => (n - intOf t).toNat)
  case atStart => exact ⟨0, Nat.zero_le _, rfl, rfl, Below.refl _ _⟩
  case round =>
    obtain ⟨k, hk, rfl, hall, hB⟩ := hrel
    have HA : Hid ((ss.take k).any p = false) := hall
    clear hall
    by_cases hlt : k < n
    · have hl : k < ss.length := by rw [HN.out]; exact hlt
      have HY : Hid ((ss.take (k + 1)).any p = p (ss.getD k default) ∧ (p (ss.getD k default) = true → ss.any p = true)) := ⟨any_take p ss default k hl HA.out, any_here p ss default k hl⟩
      clear hl
      obtain ⟨b, o, rfl, e0⟩ := HC.out k hlt
      obtain ⟨z, hze⟩ : ∃ z, z = ss.getD k default := ⟨_, rfl⟩
      have HM : Hid (z ∈ ss) := by
        show z ∈ ss
        have hl2 : k < ss.length := by rw [HN.out]; exact hlt
        rw [hze]
        simp [List.getD, hl2]
      rw [← hze] at e0 HY
      clear hze
      obtain ⟨pv, c1, c2, hi, c3⟩ := e0.below hB
      have HI : Hid (IsCap wr pv z.params) := hi
      clear e0 hi
      go_wp2_with fail
      refine (HCL.out wr z pv hB HM.out HI.out).mono ?_
      rintro e w1 ⟨rfl, hB1⟩
      have hBw : Below w.heap.size w w1 := hB.trans (hB1.mono hB.size)
      clear hB1
      cases hpz : p z with
      | true =>
        have HP : Hid (ss.any p = true) := HY.out.2 hpz
        clear hpz
        go_wp2_with fail
        go_ret
        exact ⟨k, rfl, Or.inl ⟨by omega, HP.out⟩, hBw⟩
      | false =>
        have HP : Hid ((ss.take (k + 1)).any p = false) := by
          show (ss.take (k + 1)).any p = false
          rw [HY.out.1]; exact hpz
        clear hpz
        go_wp2_with fail
        go_roundw
        case rel => exact ⟨k + 1, hlt, by go_num, HP.out, hBw⟩
        case measure => simp [intOf]; omega
    · go_wp2_with fail
      go_ret
      refine ⟨-1, rfl, Or.inr ⟨rfl, ?_⟩, hB⟩
      have hkn : k = ss.length := by rw [HN.out]; omega
      have := HA.out
      rw [hkn, List.take_length] at this
      exact this

theorem containsFuncS (p : Bs → Bool) (ss : List Bs) (v : Value) (pb : Nat) (w : World) (hm : ss.length ≤ 1000000) (h : IsStrs w v ss)
    (hcl : ∀ wr x, Below w.heap.size w wr → Calls Tryz.prog 125 #[.string (S x), .pointer (some ⟨pb, 0, none⟩)] wr fun e w' => e = .returned (.bool (p x)) ∧ Below wr.heap.size wr w') :
    Calls Tryz.prog 124 #[v, .func (Fn.func 125) #[] #[.pointer (some ⟨pb, 0, none⟩)]] w fun e w' => e = .returned (.bool (ss.any p)) ∧ Below w.heap.size w w' := by
  have HK : Hid (Calls Tryz.prog 148 #[v, .func (Fn.func 125) #[] #[.pointer (some ⟨pb, 0, none⟩)]] w fun e w' => ∃ r : Int, e = .returned (.int .i64 r) ∧ ((0 ≤ r ∧ ss.any p = true) ∨ (r = -1 ∧ ss.any p = false)) ∧ Below w.heap.size w w') := indexFuncS p ss v pb w hm h hcl
  clear hcl h hm
  obtain ⟨B, hBe⟩ : ∃ B, B = ss.any p := ⟨_, rfl⟩
  rw [← hBe] at HK ⊢
  clear hBe
  go_enter Tryz.func124, Tryz.ntmps124
  go_wp2_with fail
  refine HK.out.mono ?_
  rintro e w1 ⟨r, rfl, hr, hB⟩
  rcases hr with ⟨h1, rfl⟩ | ⟨rfl, rfl⟩
  · go_wp2
    go_ret
    exact ⟨rfl, hB⟩
  · go_wp2
    go_ret
    exact ⟨rfl, hB⟩

theorem containsFuncI (p : Int → Bool) (ss : List Int) (v : Value) (pb : Nat) (w : World) (hm : ss.length ≤ 1000000) (h : IsInts w v ss)
    (hcl : ∀ wr x, Below w.heap.size w wr → Calls Tryz.prog 132 #[.int .i64 x, .pointer (some ⟨pb, 0, none⟩)] wr fun e w' => e = .returned (.bool (p x)) ∧ Below wr.heap.size wr w') :
    Calls Tryz.prog 68 #[v, .func (Fn.func 132) #[] #[.pointer (some ⟨pb, 0, none⟩)]] w fun e w' => e = .returned (.bool (ss.any p)) ∧ Below w.heap.size w w' := by
  have HK : Hid (Calls Tryz.prog 91 #[v, .func (Fn.func 132) #[] #[.pointer (some ⟨pb, 0, none⟩)]] w fun e w' => ∃ r : Int, e = .returned (.int .i64 r) ∧ ((0 ≤ r ∧ ss.any p = true) ∨ (r = -1 ∧ ss.any p = false)) ∧ Below w.heap.size w w') := indexFuncI p ss v pb w hm h hcl
  clear hcl h hm
  obtain ⟨B, hBe⟩ : ∃ B, B = ss.any p := ⟨_, rfl⟩
  rw [← hBe] at HK ⊢
  clear hBe
  go_enter Tryz.func68, Tryz.ntmps68
  go_wp2_with fail
  refine HK.out.mono ?_
  rintro e w1 ⟨r, rfl, hr, hB⟩
  rcases hr with ⟨h1, rfl⟩ | ⟨rfl, rfl⟩
  · go_wp2
    go_ret
    exact ⟨rfl, hB⟩
  · go_wp2
    go_ret
    exact ⟨rfl, hB⟩

theorem containsFuncF (p : FunD → Bool) (ss : List FunD) (v : Value) (pb : Nat) (w : World) (hm : ss.length ≤ 1000000) (h : IsFuns w v ss)
    (hcl : ∀ wr x pv, Below w.heap.size w wr → x ∈ ss → IsCap wr pv x.params → Calls Tryz.prog 131 #[.agg #[.string (S x.name), pv, .int .i64 x.ret], .pointer (some ⟨pb, 0, none⟩)] wr fun e w' => e = .returned (.bool (p x)) ∧ Below wr.heap.size wr w') :
    Calls Tryz.prog 130 #[v, .func (Fn.func 131) #[] #[.pointer (some ⟨pb, 0, none⟩)]] w fun e w' => e = .returned (.bool (ss.any p)) ∧ Below w.heap.size w w' := by
  have HK : Hid (Calls Tryz.prog 150 #[v, .func (Fn.func 131) #[] #[.pointer (some ⟨pb, 0, none⟩)]] w fun e w' => ∃ r : Int, e = .returned (.int .i64 r) ∧ ((0 ≤ r ∧ ss.any p = true) ∨ (r = -1 ∧ ss.any p = false)) ∧ Below w.heap.size w w') := indexFuncF p ss v pb w hm h hcl
  clear hcl h hm
  obtain ⟨B, hBe⟩ : ∃ B, B = ss.any p := ⟨_, rfl⟩
  rw [← hBe] at HK ⊢
  clear hBe
  go_enter Tryz.func130, Tryz.ntmps130
  go_wp2_with fail
  refine HK.out.mono ?_
  rintro e w1 ⟨r, rfl, hr, hB⟩
  rcases hr with ⟨h1, rfl⟩ | ⟨rfl, rfl⟩
  · go_wp2
    go_ret
    exact ⟨rfl, hB⟩
  · go_wp2
    go_ret
    exact ⟨rfl, hB⟩

/-- all's function, at isName. -/
theorem all1S (l : Bs) (pb : Nat) (w : World) (h : w.cell? ⟨pb, 0, none⟩ = some (.func (Fn.func 94) #[] #[])) :
    Calls Tryz.prog 125 #[.string (S l), .pointer (some ⟨pb, 0, none⟩)] w fun e w' => e = .returned (.bool (!isNm l)) ∧ w' = w := by
  have HK : Hid (Calls Tryz.prog 94 #[.string (S l)] w fun e w' => e = .returned (.bool (isNm l)) ∧ w' = w) := isName_any l w
  obtain ⟨B, hB⟩ : ∃ B, B = isNm l := ⟨_, rfl⟩
  rw [← hB] at HK ⊢
  clear hB
  go_enter Tryz.func125, Tryz.ntmps125
  go_wp2_with fail
  refine HK.out.mono ?_
  rintro e w1 ⟨rfl, hw⟩
  obtain rfl := hw.symm
  go_wp2_with fail
  go_ret
  exact ⟨rfl, rfl⟩
theorem allS (ss : List Bs) (v : Value) (w : World) (hm : ss.length ≤ 1000000) (h : IsStrs w v ss) :
    Calls Tryz.prog 93 #[v, .func (Fn.func 94) #[] #[]] w fun e w' => e = .returned (.bool (ss.all isNm)) ∧ Below w.heap.size w w' := by
  have H : Hid (IsStrs w v ss) := h
  obtain ⟨a, c, rfl, _, _⟩ := h
  have hB0 := fun o => (Below.refl w.heap.size w).alloc (Nat.le_refl _) o
  go_enter Tryz.func93, Tryz.ntmps93
  go_wp2_with fail
  refine (containsFuncS (fun x => !isNm x) ss _ w.heap.size _ hm (H.out.below (hB0 _)) (fun wr x hb => (all1S x w.heap.size wr (cell_keep hb (by simp))).mono ?_)).mono ?_
  · rintro e w' ⟨rfl, rfl⟩
    exact ⟨rfl, Below.refl _ _⟩
  rintro e w1 ⟨rfl, hB1⟩
  have hBw : Below w.heap.size w w1 := (hB0 _).trans (hB1.mono (by simp))
  have hq := not_any isNm ss
  obtain ⟨B, hB⟩ : ∃ B, B = (ss.any fun x => !isNm x) := ⟨_, rfl⟩
  rw [← hB] at hq ⊢
  have HQ : Hid ((!B) = ss.all isNm) := hq
  clear hB hq hB1
  go_wp2_with fail
  go_ret
  exact ⟨by rw [← HQ.out]; rfl, hBw⟩

/-- all's function, at below's. -/
theorem all1I (n : Nat) (k : Int) (pb nb : Nat) (w : World) (h : w.cell? ⟨pb, 0, none⟩ = some (.func (Fn.func 129) #[] #[.pointer (some ⟨nb, 0, none⟩)])) (hn : w.cell? ⟨nb, 0, none⟩ = some (.int .i64 (n : Int))) :
    Calls Tryz.prog 132 #[.int .i64 k, .pointer (some ⟨pb, 0, none⟩)] w fun e w' => e = .returned (.bool (!(decide (0 ≤ k) && decide (k < (n : Int))))) ∧ w' = w := by
  have HK : Hid (Calls Tryz.prog 129 #[.int .i64 k, .pointer (some ⟨nb, 0, none⟩)] w fun e w' => e = .returned (.bool (decide (0 ≤ k) && decide (k < (n : Int)))) ∧ w' = w) := below1_any n k nb w hn
  obtain ⟨B, hB⟩ : ∃ B, B = (decide (0 ≤ k) && decide (k < (n : Int))) := ⟨_, rfl⟩
  rw [← hB] at HK ⊢
  clear hB hn
  go_enter Tryz.func132, Tryz.ntmps132
  go_wp2_with fail
  refine HK.out.mono ?_
  rintro e w1 ⟨rfl, hw⟩
  obtain rfl := hw.symm
  go_wp2_with fail
  go_ret
  exact ⟨rfl, rfl⟩
theorem allI (n : Nat) (zs : List Int) (v : Value) (nb : Nat) (w : World) (hm : zs.length ≤ 1000000) (h : IsInts w v zs) (hn : w.cell? ⟨nb, 0, none⟩ = some (.int .i64 (n : Int))) :
    Calls Tryz.prog 100 #[v, .func (Fn.func 129) #[] #[.pointer (some ⟨nb, 0, none⟩)]] w fun e w' => e = .returned (.bool (zs.all fun k => decide (0 ≤ k) && decide (k < (n : Int)))) ∧ Below w.heap.size w w' := by
  have H : Hid (IsInts w v zs) := h
  have HN : Hid (w.cell? ⟨nb, 0, none⟩ = some (.int .i64 (n : Int))) := hn
  obtain ⟨a, c, rfl⟩ := isInts_form h
  clear h hn
  have hB0 := fun o => (Below.refl w.heap.size w).alloc (Nat.le_refl _) o
  go_enter Tryz.func100, Tryz.ntmps100
  go_wp2_with fail
  refine (containsFuncI (fun k => !(decide (0 ≤ k) && decide (k < (n : Int)))) zs _ w.heap.size _ hm (H.out.below (hB0 _)) (fun wr x hb => (all1I n x w.heap.size nb wr (cell_keep hb (by simp)) (cell_keep hb (cell_keep (hB0 _) HN.out))).mono ?_)).mono ?_
  · rintro e w' ⟨rfl, rfl⟩
    exact ⟨rfl, Below.refl _ _⟩
  rintro e w1 ⟨rfl, hB1⟩
  have hBw : Below w.heap.size w w1 := (hB0 _).trans (hB1.mono (by simp))
  have hq := not_any (fun k : Int => decide (0 ≤ k) && decide (k < (n : Int))) zs
  obtain ⟨B, hB⟩ : ∃ B, B = (zs.any fun k => !(decide (0 ≤ k) && decide (k < (n : Int)))) := ⟨_, rfl⟩
  rw [← hB] at hq ⊢
  have HQ : Hid ((!B) = zs.all fun k => decide (0 ≤ k) && decide (k < (n : Int))) := hq
  clear hB hq hB1
  go_wp2_with fail
  go_ret
  exact ⟨by rw [← HQ.out]; rfl, hBw⟩

/-- all's function at a function of functions. -/
theorem all1F (g : Nat) (lb : Array Value) (eg : ∀ args w, (callFunc g args).run Tryz.prog w = .ok (.enter g args) w) (p : FunD → Bool) (f : FunD) (pv : Value) (pb : Nat) (w : World) (h : w.cell? ⟨pb, 0, none⟩ = some (.func (Fn.func g) #[] lb)) (hi : IsCap w pv f.params)
    (hcl : ∀ wr, Below w.heap.size w wr → Calls Tryz.prog g (#[.agg #[.string (S f.name), pv, .int .i64 f.ret]] ++ lb) wr fun e w' => e = .returned (.bool (p f)) ∧ Below wr.heap.size wr w') :
    Calls Tryz.prog 131 #[.agg #[.string (S f.name), pv, .int .i64 f.ret], .pointer (some ⟨pb, 0, none⟩)] w fun e w' => e = .returned (.bool (!p f)) ∧ Below w.heap.size w w' := by
  have HC : Hid (∀ wr, Below w.heap.size w wr → Calls Tryz.prog g (#[.agg #[.string (S f.name), pv, .int .i64 f.ret]] ++ lb) wr fun e w' => e = .returned (.bool (p f)) ∧ Below wr.heap.size wr w') := hcl
  clear hcl
  obtain ⟨B, hB⟩ : ∃ B, B = p f := ⟨_, rfl⟩
  rw [← hB] at HC ⊢
  clear hB
  have hlt := lt_of_cell h
  have hB0 := fun o => (Below.refl w.heap.size w).alloc (Nat.le_refl _) o
  have h0 := fun o => cell_keep (hB0 o) h
  obtain ⟨pa, pc, rfl⟩ := isInts_form hi.1
  clear h hi
  go_enter Tryz.func131, Tryz.ntmps131
  go_wp2_with fail
  refine (HC.out _ (hB0 _)).mono ?_
  rintro e w1 ⟨rfl, hB1⟩
  have hBw : Below w.heap.size w w1 := (hB0 _).trans (hB1.mono (by simp))
  clear hB1
  go_wp2_with fail
  go_ret
  exact ⟨rfl, hBw⟩
theorem allF (g : Nat) (lb : Array Value) (eg : ∀ args w, (callFunc g args).run Tryz.prog w = .ok (.enter g args) w) (p : FunD → Bool) (fs : List FunD) (v : Value) (w : World) (hm : fs.length ≤ 1000000) (h : IsFuns w v fs)
    (hcl : ∀ wr f pv, Below w.heap.size w wr → f ∈ fs → IsCap wr pv f.params → Calls Tryz.prog g (#[.agg #[.string (S f.name), pv, .int .i64 f.ret]] ++ lb) wr fun e w' => e = .returned (.bool (p f)) ∧ Below wr.heap.size wr w') :
    Calls Tryz.prog 97 #[v, .func (Fn.func g) #[] lb] w fun e w' => e = .returned (.bool (fs.all p)) ∧ Below w.heap.size w w' := by
  have H : Hid (IsFuns w v fs) := h
  have HC : Hid (∀ wr f pv, Below w.heap.size w wr → f ∈ fs → IsCap wr pv f.params → Calls Tryz.prog g (#[.agg #[.string (S f.name), pv, .int .i64 f.ret]] ++ lb) wr fun e w' => e = .returned (.bool (p f)) ∧ Below wr.heap.size wr w') := hcl
  obtain ⟨a, c, rfl, _, _⟩ := h
  clear hcl
  have hB0 := fun o => (Below.refl w.heap.size w).alloc (Nat.le_refl _) o
  go_enter Tryz.func97, Tryz.ntmps97
  go_wp2_with fail
  refine (containsFuncF (fun f => !p f) fs _ w.heap.size _ hm (H.out.below (hB0 _)) (fun wr f pv hb hmem hi => all1F g lb eg p f pv w.heap.size wr (cell_keep hb (by simp)) hi (fun wr2 hb2 => HC.out wr2 f pv ((hB0 _).trans ((hb.trans (hb2.mono hb.size)).mono (by simp))) hmem (hi.below hb2)))).mono ?_
  rintro e w1 ⟨rfl, hB1⟩
  have hBw : Below w.heap.size w w1 := (hB0 _).trans (hB1.mono (by simp))
  have hq := not_any p fs
  obtain ⟨B, hB⟩ : ∃ B, B = (fs.any fun x => !p x) := ⟨_, rfl⟩
  rw [← hB] at hq ⊢
  have HQ : Hid ((!B) = fs.all p) := hq
  clear hB hq hB1
  go_wp2_with fail
  go_ret
  exact ⟨by rw [← HQ.out]; rfl, hBw⟩
end Go.Proofs.YtimmkenmahagjaaGreatDoor
