/-
  Package cons: the functions that Closed hands on, slices.ContainsFunc at rules and at edges, by contracts.
-/
import Derived.Test.YtimmkenmahagjaaGreatDoorCK
import Derived.Test.YtimmkenmahagjaaGreatDoorWithin
import Derived.Lib.QuietBelow
namespace Go.Proofs.YtimmkenmahagjaaGreatDoor
open Go.RowKit Go.Extern.Stop Go.Stop Go.Extern

/-- A rule that asks for an object which its node lacks. -/
def lackR (hs : List (List Int)) (r : RuleD) : Bool := (r.kind == kBase) && !(setAt hs r.a).contains r.b
/-- An edge from a node that has what the other one lacks. -/
def lackE (hs : List (List Int)) (p : Pair) : Bool := !((setAt hs p.1).all fun x => (setAt hs p.2).contains x)
theorem sets_at {w : World} {va : Option Addr} {vn vc : Nat} {hs : List (List Int)} (h : IsSets w (.slice va vn vc) hs) (j : Nat) (hj : j < hs.length) : ∃ b o xa xn xc, va = some ⟨b, o, none⟩ ∧ w.cell? ⟨b, o + j, none⟩ = some (.slice xa xn xc) ∧ IsInts w (.slice xa xn xc) (hs.getD j []) := by
  obtain ⟨a, c, e, q⟩ := h
  injection e with e1 e2 e3
  obtain ⟨b, o, x, h1, h2, h3⟩ := q j hj
  obtain ⟨xa, xc, rfl⟩ := isInts_form h3
  exact ⟨b, o, xa, _, xc, by rw [e1, h1], h2, h3⟩

set_option maxRecDepth 100000 in
set_option maxHeartbeats 4000000 in
theorem closed1_any (r : RuleD) (av : Value) (hs : List (List Int)) (va : Option Addr) (vc pb : Nat) (w : World) (hb : w.cell? ⟨pb, 0, none⟩ = some (.slice va hs.length vc)) (hH : IsSets w (.slice va hs.length vc) hs) (hr : r.kind = kBase → 0 ≤ r.a ∧ r.a.toNat < hs.length) (hl : ∀ j, j < hs.length → (hs.getD j []).length ≤ 1000000) :
    Calls Tryz.prog 52 #[.agg #[.string (S r.kind), .int .i64 r.a, .int .i64 r.b, .int .i64 r.stmt, av], .pointer (some ⟨pb, 0, none⟩)] w fun e w' => e = .returned (.bool (lackR hs r)) ∧ Below w.heap.size w w' := by
  obtain ⟨R, hR⟩ : ∃ R, R = lackR hs r := ⟨_, rfl⟩
  rw [← hR]
  obtain ⟨D, hD⟩ : ∃ D, D = (r.kind == kBase) := ⟨_, rfl⟩
  obtain ⟨kd, hkd⟩ : ∃ kd, kd = S r.kind := ⟨_, rfl⟩
  have hd : (kd.toList == [98, 97, 115, 101]) = D := by rw [hkd, S_toList, hD]; rfl
  rw [← hkd]
  clear hkd
  obtain ⟨W, hW⟩ : ∃ W, W = w.alloc (ruleBox kd r.a r.b r.stmt av) := ⟨_, rfl⟩
  have hBW : Below w.heap.size w W := by rw [hW]; exact below1 w _
  have hX : W.heap[w.heap.size]? = some (ruleBox kd r.a r.b r.stmt av) := by rw [hW]; exact heap_new w _
  have c0 : W.cell? ⟨w.heap.size, 0, none⟩ = some (.string kd) := by rw [Lib.cell_of_heap hX]; rfl
  have c1 : W.cell? ⟨w.heap.size, 1, none⟩ = some (.int .i64 r.a) := by rw [Lib.cell_of_heap hX]; rfl
  have c2 : W.cell? ⟨w.heap.size, 2, none⟩ = some (.int .i64 r.b) := by rw [Lib.cell_of_heap hX]; rfl
  have C0 := cell_regrown c0
  have C1 := cell_regrown c1
  have C2 := cell_regrown c2
  have H0 := cell_regrown (cell_keep hBW hb)
  clear hX c0 c1 c2
  cases D with
  | false =>
    have HR : Hid (R = false) := by show R = _; rw [hR]; unfold lackR; rw [← hD]; rfl
    clear hR hD hr hl hH
    go_enter Tryz.func52, Tryz.ntmps52
    go_upto_region 1 with fail
    rw [← hW]
    clear hW
    refine wp_region_quiet_below (by kernel_rfl) (by kernel_rfl) ?_
    repeat (quiet_step (fail))
    refine wpQuiet_nil ?_
    intro _ hw'
    obtain ⟨⟨dq, osq⟩, hw''⟩ := hw'
    subst hw''
    have hBQ : Below w.heap.size w (Go.Sort.grow (redrawn W dq) osq) := hBW.trans ((below_regrown W dq osq).mono hBW.size)
    go_wp2_with fail
    go_ret
    exact ⟨by rw [HR.out]; rfl, hBQ⟩
  | true =>
    have hk : r.kind = kBase := by simpa using hD.symm
    obtain ⟨h0, h1⟩ := hr hk
    obtain ⟨k, hk2⟩ : ∃ k : Nat, r.a = (k : Int) := ⟨r.a.toNat, by omega⟩
    rw [hk2] at h0 h1 C1
    rw [Int.toNat_natCast] at h1
    obtain ⟨b, o, xa, xn, xc, rfl, e0, hx⟩ := sets_at hH k h1
    have E0 := cell_regrown (cell_keep hBW e0)
    obtain ⟨n, hn⟩ : ∃ n, n = hs.length := ⟨_, rfl⟩
    rw [← hn] at H0
    have hki : (k : Int) < n := by omega
    obtain ⟨G, hG⟩ : ∃ G, G = (hs.getD k []).contains r.b := ⟨_, rfl⟩
    obtain ⟨rb, hrb⟩ : ∃ rb, rb = r.b := ⟨_, rfl⟩
    have HR : Hid (R = !G) := by show R = _; rw [hR]; unfold lackR setAt; rw [← hD, hk2, Int.toNat_natCast, ← hG]; rfl
    have KI : ∀ d os, Calls Tryz.prog 53 #[.slice xa xn xc, .int .i64 rb] (Go.Sort.grow (redrawn W d) os) fun e w'' => e = .returned (.bool G) ∧ ∃ p : Regrown, w'' = Go.Sort.grow (redrawn W p.d) p.os := fun d os => by
      rw [hG, hrb]
      exact Calls.regrown_of ((has_any (hs.getD k []) _ r.b _ (hl k h1) ((hx.below hBW).below (below_regrown W d os))).mono fun e w' ⟨q1, q2⟩ => ⟨q1, by rw [q2]; exact Below.refl _ _⟩)
    rw [hk2] at hW ⊢
    rw [← hrb] at C2 hW ⊢
    clear hR hD hr hl hH hk hk2 h0 h1 e0 hx hn hG hrb
    go_enter Tryz.func52, Tryz.ntmps52
    go_upto_region 1 with fail
    rw [← hW]
    clear hW
    refine wp_region_quiet_below (by kernel_rfl) (by kernel_rfl) ?_
    repeat (quiet_step (first | exact KI _ _))
    refine wpQuiet_nil ?_
    intro _ hw'
    obtain ⟨⟨dq, osq⟩, hw''⟩ := hw'
    subst hw''
    have hBQ : Below w.heap.size w (Go.Sort.grow (redrawn W dq) osq) := hBW.trans ((below_regrown W dq osq).mono hBW.size)
    clear KI
    go_wp2_with fail
    go_ret
    exact ⟨by rw [HR.out]; rfl, hBQ⟩

set_option maxRecDepth 100000 in
set_option maxHeartbeats 4000000 in
theorem closed2_any (p : Pair) (hs : List (List Int)) (va : Option Addr) (vc pb : Nat) (w : World) (hb : w.cell? ⟨pb, 0, none⟩ = some (.slice va hs.length vc)) (hH : IsSets w (.slice va hs.length vc) hs) (h1 : 0 ≤ p.1 ∧ p.1.toNat < hs.length) (h2 : 0 ≤ p.2 ∧ p.2.toNat < hs.length) (hl : ∀ j, j < hs.length → (hs.getD j []).length ≤ 100000) :
    Calls Tryz.prog 55 #[.agg #[.int .i64 p.1, .int .i64 p.2], .pointer (some ⟨pb, 0, none⟩)] w fun e w' => e = .returned (.bool (lackE hs p)) ∧ Below w.heap.size w w' := by
  obtain ⟨R, hR⟩ : ∃ R, R = lackE hs p := ⟨_, rfl⟩
  rw [← hR]
  obtain ⟨k, hk⟩ : ∃ k : Nat, p.1 = (k : Int) := ⟨p.1.toNat, by omega⟩
  obtain ⟨m, hm⟩ : ∃ m : Nat, p.2 = (m : Int) := ⟨p.2.toNat, by omega⟩
  rw [hk, hm]
  rw [hk, Int.toNat_natCast] at h1
  rw [hm, Int.toNat_natCast] at h2
  obtain ⟨W, hW⟩ : ∃ W, W = w.alloc (.cells #[.int .i64 (k : Int), .int .i64 (m : Int)] TE) := ⟨_, rfl⟩
  have hBW : Below w.heap.size w W := by rw [hW]; exact below1 w _
  have hX : W.heap[w.heap.size]? = some (.cells #[.int .i64 (k : Int), .int .i64 (m : Int)] TE) := by rw [hW]; exact heap_new w _
  have c0 : W.cell? ⟨w.heap.size, 0, none⟩ = some (.int .i64 (k : Int)) := by rw [Lib.cell_of_heap hX]; rfl
  have c1 : W.cell? ⟨w.heap.size, 1, none⟩ = some (.int .i64 (m : Int)) := by rw [Lib.cell_of_heap hX]; rfl
  have C0 := cell_regrown c0
  have C1 := cell_regrown c1
  have H0 := cell_regrown (cell_keep hBW hb)
  obtain ⟨b, o, xa, xn, xc, rfl, e0, hx⟩ := sets_at hH k h1.2
  obtain ⟨b', o', ya, yn, yc, hbo, f0, hy⟩ := sets_at hH m h2.2
  cases hbo
  have E0 := cell_regrown (cell_keep hBW e0)
  have F0 := cell_regrown (cell_keep hBW f0)
  obtain ⟨n, hn⟩ : ∃ n, n = hs.length := ⟨_, rfl⟩
  rw [← hn] at H0
  have hki : (k : Int) < n := by omega
  have hmi : (m : Int) < n := by omega
  obtain ⟨G, hG⟩ : ∃ G, G = ((hs.getD k []).all fun x => (hs.getD m []).contains x) := ⟨_, rfl⟩
  have HR : Hid (R = !G) := by show R = _; rw [hR]; unfold lackE setAt; rw [hk, hm, Int.toNat_natCast, Int.toNat_natCast, ← hG]
  have KI : ∀ d os, Calls Tryz.prog 34 #[.slice xa xn xc, .slice ya yn yc] (Go.Sort.grow (redrawn W d) os) fun e w'' => e = .returned (.bool G) ∧ ∃ p : Regrown, w'' = Go.Sort.grow (redrawn W p.d) p.os := fun d os => by
    rw [hG]
    exact Calls.regrown_of (within_any (hs.getD k []) (hs.getD m []) _ _ _ (hl k h1.2) (hl m h2.2) ((hx.below hBW).below (below_regrown W d os)) ((hy.below hBW).below (below_regrown W d os)))
  clear hR hl hH hk hm h1 h2 e0 f0 hx hy hn hG c0 c1 hX hb
  go_enter Tryz.func55, Tryz.ntmps55
  go_upto_region 1 with fail
  rw [← hW]
  clear hW
  refine wp_region_quiet_below (by kernel_rfl) (by kernel_rfl) ?_
  repeat (quiet_step (first | exact KI _ _))
  refine wpQuiet_nil ?_
  intro _ hw'
  obtain ⟨⟨dq, osq⟩, hw''⟩ := hw'
  subst hw''
  have hBQ : Below w.heap.size w (Go.Sort.grow (redrawn W dq) osq) := hBW.trans ((below_regrown W dq osq).mono hBW.size)
  clear KI
  go_wp2_with fail
  go_ret
  exact ⟨by rw [HR.out]; rfl, hBQ⟩
end Go.Proofs.YtimmkenmahagjaaGreatDoor
