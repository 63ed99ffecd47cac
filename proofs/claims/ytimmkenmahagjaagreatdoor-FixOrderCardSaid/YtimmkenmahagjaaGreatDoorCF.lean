/-
  Package cons: what check tells of sets, by a contract.
-/
import Derived.Test.YtimmkenmahagjaaGreatDoorCL
import Derived.Test.YtimmkenmahagjaaGreatDoorPJO
namespace Go.Proofs.YtimmkenmahagjaaGreatDoor
open Go.RowKit Go.Extern.Stop Go.Stop Go.Extern

def inBb (zs : List Int) : Bool := (List.range zs.length).all fun j => decide (0 ≤ zs.getD j 0 ∧ zs.getD j 0 < 1000)
def riseb (zs : List Int) : Bool := (List.range (zs.length - 1)).all fun j => decide (zs.getD j 0 < zs.getD (j + 1) 0)
theorem inBb_iff (zs : List Int) : inBb zs = true ↔ InB zs := by
  unfold inBb InB
  simp only [List.all_eq_true, List.mem_range, decide_eq_true_eq]
theorem riseb_iff (zs : List Int) : riseb zs = true ↔ Rise zs := by
  unfold riseb Rise
  simp only [List.all_eq_true, List.mem_range, decide_eq_true_eq]
  constructor
  · intro h j hj; exact h j (by omega)
  · intro h j hj; exact h j (by omega)
def lastTooB (M : Int) (zs : List Int) : Bool := decide (0 < zs.length) && decide (M ≤ zs.getD (zs.length - 1) 0)
/-- The error of one set, of M objects. -/
def oneE (M : Int) (zs : List Int) : Option Nat := if !inBb zs then some 1 else if !riseb zs then some 9 else if lastTooB M zs then some 1 else none
def setsE (M : Int) : Nat → List (List Int) → ErrD
  | _, [] => none
  | k, zs :: r => match oneE M zs with
    | some c => some (c, (k : Int))
    | none => setsE M (k + 1) r
def consE (P : ProgD) (hs : List (List Int)) : ErrD := match checkE P with
  | some e => some e
  | none => if hs.length = places P P.stmts.length then setsE ((places P P.stmts.length + P.funs.length : Nat) : Int) 0 hs else some (2, -1)
theorem setsE_drop (M : Int) (hs : List (List Int)) (k : Nat) (hk : k < hs.length) : setsE M k (hs.drop k) = atE k (oneE M (hs.getD k [])) (setsE M (k + 1) (hs.drop (k + 1))) := by
  have : hs.drop k = hs.getD k [] :: hs.drop (k + 1) := by
    rw [List.drop_eq_getElem_cons hk]
    simp [List.getD, hk]
  rw [this]
  show (match oneE M (hs.getD k []) with | some c => some (c, (k : Int)) | none => setsE M (k + 1) (hs.drop (k + 1))) = _
  cases oneE M (hs.getD k []) <;> rfl
theorem oneE_none {M : Int} {zs : List Int} (h : oneE M zs = none) : IsSet zs ∧ ∀ i, i < zs.length → zs.getD i 0 < M := by
  unfold oneE at h
  split at h
  · cases h
  · rename_i h1
    split at h
    · cases h
    · rename_i h2
      split at h
      · cases h
      · rename_i h3
        have hin : InB zs := (inBb_iff zs).1 (by simpa using h1)
        have hr : Rise zs := (riseb_iff zs).1 (by simpa using h2)
        refine ⟨⟨hin, hr⟩, fun i hi => ?_⟩
        have hl : zs.getD (zs.length - 1) 0 < M := by
          unfold lastTooB at h3
          simp at h3
          have := h3 (by omega)
          rw [List.getD_eq_getElem?_getD]
          omega
        have hup : ∀ d, i + d < zs.length → zs.getD i 0 ≤ zs.getD (i + d) 0 := by
          intro d
          induction d with
          | zero => intro _; exact Int.le_refl _
          | succ d ih =>
            intro hd
            have h4 := ih (by omega)
            have h5 := hr (i + d) (by omega)
            rw [show i + (d + 1) = i + d + 1 by omega]
            omega
        have := hup (zs.length - 1 - i) (by omega)
        rw [show i + (zs.length - 1 - i) = zs.length - 1 by omega] at this
        omega
theorem setsE_none {M : Int} : ∀ (hs : List (List Int)) (k : Nat), setsE M k hs = none → ∀ j, j < hs.length → oneE M (hs.getD j []) = none
  | [], _, _, j, hj => by simp at hj
  | zs :: r, k, h, j, hj => by
    unfold setsE at h
    cases e : oneE M zs with
    | some c => rw [e] at h; cases h
    | none =>
      rw [e] at h
      cases j with
      | zero => simpa [List.getD] using e
      | succ j => simpa [List.getD] using setsE_none r (k + 1) h j (by simpa using hj)
theorem consE_ok {P : ProgD} {hs : List (List Int)} (h : consE P hs = none) : checkE P = none ∧ SetsOk P hs := by
  unfold consE at h
  split at h
  · cases h
  · rename_i hc
    split at h
    · rename_i hl
      refine ⟨hc, ⟨hl, fun j hj => (oneE_none (setsE_none hs 0 h j hj)).1, fun j hj i hi => ?_⟩⟩
      have := (oneE_none (setsE_none hs 0 h j hj)).2 i hi
      rw [hl]
      omega
    · cases h

set_option maxHeartbeats 4000000 in
theorem checkSet_any (a : Nat → Addr) (M : Int) (zs : List Int) (v : Value) (w : World) (hm : zs.length ≤ 1000000) (h : IsInts w v zs) (h3 : Three w a) :
    Calls Tryz.prog 78 #[v, .int .i64 M] w fun e w' => e = .returned (errV a (oneE M zs)) ∧ Below w.heap.size w w' := by
  have H : Hid (IsInts w v zs ∧ Three w a) := ⟨h, h3⟩
  obtain ⟨E, hE⟩ : ∃ E, E = oneE M zs := ⟨_, rfl⟩
  rw [← hE]
  have HE : Hid (E = oneE M zs) := hE
  clear hE
  by_cases g1 : inBb zs = true
  · by_cases g2 : riseb zs = true
    · have K : Hid _ := check_ok zs v w hm h ((inBb_iff zs).1 g1) ((riseb_iff zs).1 g2)
      have HX : Hid (E = if lastTooB M zs then some 1 else none) := by show E = _; rw [HE.out]; unfold oneE; rw [g1, g2]; rfl
      obtain ⟨va, vc, rfl⟩ := isInts_form h
      obtain ⟨n, hn⟩ : ∃ n, n = zs.length := ⟨_, rfl⟩
      have HN : Hid (n = zs.length) := hn
      rw [← hn] at K hm ⊢
      clear h h3 g1 g2 hn
      go_enter Tryz.func78, Tryz.ntmps78
      go_wp2_with fail
      refine Calls.mono K.out ?_
      rintro e w1 ⟨rfl, hB1⟩
      by_cases h0 : n = 0
      · have hE0 : Hid (E = none) := by
          show E = _
          rw [HX.out]; unfold lastTooB; rw [← HN.out, h0]; rfl
        subst h0
        go_wp2_with fail
        go_ret
        exact ⟨by rw [hE0.out]; rfl, hB1⟩
      · obtain ⟨m, rfl⟩ : ∃ m, n = m + 1 := ⟨n - 1, by omega⟩
        obtain ⟨b, o, rfl, e0⟩ := isInts_at (H.out.1.below hB1) m (by rw [← HN.out]; omega)
        have hwrap : IntKind.i64.wrap (((m + 1 : Nat) : Int) - 1) = (m : Int) := by rw [IntKind.wrap_i64]; omega
        obtain ⟨z, hz⟩ : ∃ z, z = zs.getD m 0 := ⟨_, rfl⟩
        rw [← hz] at e0
        have hp : (0 : Int) < ((m + 1 : Nat) : Int) := by omega
        have hmi : (m : Int) < ((m + 1 : Nat) : Int) := by omega
        have HEM : Hid (E = if M ≤ z then some 1 else none) := by
          show E = _
          rw [HX.out]; unfold lastTooB; rw [← HN.out, hz]
          simp
        have hb := (H.out.2.below hB1).c1
        clear hz h0
        by_cases hM : M ≤ z
        · have hX : Hid (E = some 1) := by show E = _; rw [HEM.out, if_pos hM]
          go_wp2_with fail
          go_ret
          exact ⟨by rw [hX.out]; rfl, hB1⟩
        · have hX : Hid (E = none) := by show E = _; rw [HEM.out, if_neg hM]
          go_wp2_with fail
          go_ret
          exact ⟨by rw [hX.out]; rfl, hB1⟩
    · have K : Hid _ := check_order a zs v w hm h ((inBb_iff zs).1 g1) (fun q => g2 ((riseb_iff zs).2 q)) h3
      have hX : Hid (E = some 9) := by show E = _; rw [HE.out]; unfold oneE; rw [g1]; simp [g2]
      clear h h3 g1 g2
      go_enter Tryz.func78, Tryz.ntmps78
      go_wp2_with fail
      refine Calls.mono K.out ?_
      rintro e w1 ⟨rfl, hB1⟩
      go_wp2_with fail
      go_ret
      exact ⟨by rw [hX.out]; rfl, hB1⟩
  · have K : Hid _ := check_bound a zs v w hm h (fun q => g1 ((inBb_iff zs).2 q)) h3
    have hX : Hid (E = some 1) := by show E = _; rw [HE.out]; unfold oneE; simp [g1]
    clear h h3 g1
    go_enter Tryz.func78, Tryz.ntmps78
    go_wp2_with fail
    refine Calls.mono K.out ?_
    rintro e w1 ⟨rfl, hB1⟩
    go_wp2_with fail
    go_ret
    exact ⟨by rw [hX.out]; rfl, hB1⟩
end Go.Proofs.YtimmkenmahagjaaGreatDoor
