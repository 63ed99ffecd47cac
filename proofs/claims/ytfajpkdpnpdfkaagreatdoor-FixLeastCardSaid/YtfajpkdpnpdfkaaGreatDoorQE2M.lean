/-
  faulted of the second package of statements: an error's number and place, by a contract.
-/
import Derived.Test.YtfajpkdpnpdfkaaGreatDoorQEM
namespace Go.Proofs.YtfajpkdpnpdfkaaGreatDoor
open Go.RowKit Go.Extern.Stop Go.Stop Go.Extern

set_option maxHeartbeats 2000000 in
theorem faulted2_any (a : Nat → Addr) (e : ErrD) (v : Value) (c n : Int) (w : World) (hE : Errs w a) (hv : ErrV w a e v) (hl : ∀ x, e = some x → x.1 < 11) (hc : c = codeE e) (hn : n = placeE e) :
    Calls Tryz.prog 25 #[v, .agg #[.int .i64 c, .int .i64 n]] w fun r w' => r = .returned (.bool true) ∧ Below w.heap.size w w' := by
  have HE : Hid (Errs w a) := hE
  rcases hv with ⟨rfl, rfl⟩ | ⟨i, rfl, rfl⟩ | ⟨i, m, b, o, rfl, hm0, rfl, h1, h2⟩
  · subst hc hn
    clear hE hl
    unfold codeE placeE
    go_enter Tryz.func25, Tryz.ntmps25
    go_wp2_with (go_at_call 46; refine (code_nil _).mono ?_; rintro e w' ⟨rfl, rfl⟩)
    go_ret
    exact ⟨rfl, below1 _ _⟩
  · have hi : i < 11 := hl (i, -1) rfl
    have hc' : c = (i : Int) + 1 := hc
    have hn' : n = -1 := hn
    obtain ⟨W, hW⟩ : ∃ W, W = w.alloc (.cells #[.int .i64 c, .int .i64 n] 34) := ⟨_, rfl⟩
    have hBW : Below w.heap.size w W := by rw [hW]; exact below1 _ _
    have HC : Hid (W.cell? ⟨w.heap.size, 0, none⟩ = some (.int .i64 c) ∧ W.cell? ⟨w.heap.size, 1, none⟩ = some (.int .i64 n)) := by
      constructor <;> rw [hW] <;> simp
    have K : Hid (Calls Tryz.prog 46 #[.iface 281 (.pointer (some (a i)))] W fun e w' => e = .returned (.tuple #[.int .i64 c, .int .i64 n]) ∧ Below W.heap.size W w') := by
      rw [hc', hn']; exact code_err a i W hi (HE.out.below hBW)
    have hcp : ¬ c = 0 := by omega
    rw [hW] at K
    clear hc hn hc' hn' hl hE
    go_enter Tryz.func25, Tryz.ntmps25
    go_wp2_with fail
    refine K.out.mono ?_
    rintro e w' ⟨rfl, hb⟩
    rw [← hW] at hb
    have k0 := cell_keep hb HC.out.1
    have k1 := cell_keep hb HC.out.2
    have hcb : (c == 0) = false := beq_eq_false_iff_ne.2 hcp
    clear K hW
    go_wp2_with fail
    go_ret
    exact ⟨rfl, hBW.trans (hb.mono hBW.size)⟩
  · have hi : i < 11 := hl (i, m) rfl
    have hc' : c = (i : Int) + 1 := hc
    have hn' : n = m := hn
    obtain ⟨W, hW⟩ : ∃ W, W = w.alloc (.cells #[.int .i64 c, .int .i64 n] 34) := ⟨_, rfl⟩
    have hBW : Below w.heap.size w W := by rw [hW]; exact below1 _ _
    have HC : Hid (W.cell? ⟨w.heap.size, 0, none⟩ = some (.int .i64 c) ∧ W.cell? ⟨w.heap.size, 1, none⟩ = some (.int .i64 n)) := by
      constructor <;> rw [hW] <;> simp
    have K : Hid (Calls Tryz.prog 46 #[.iface 128 (.pointer (some ⟨b, o, none⟩))] W fun e w' => e = .returned (.tuple #[.int .i64 c, .int .i64 n]) ∧ Below W.heap.size W w') := by
      rw [hc', hn']; exact code_fault a i b o m W hi (cell_keep hBW h1) (cell_keep hBW h2) (HE.out.below hBW)
    have hcp : ¬ c = 0 := by omega
    rw [hW] at K
    clear hc hn hc' hn' hl hE h1 h2 hm0
    go_enter Tryz.func25, Tryz.ntmps25
    go_wp2_with fail
    refine K.out.mono ?_
    rintro e w' ⟨rfl, hb⟩
    rw [← hW] at hb
    have k0 := cell_keep hb HC.out.1
    have k1 := cell_keep hb HC.out.2
    have hcb : (c == 0) = false := beq_eq_false_iff_ne.2 hcp
    clear K hW
    go_wp2_with fail
    go_ret
    exact ⟨rfl, hBW.trans (hb.mono hBW.size)⟩
end Go.Proofs.YtfajpkdpnpdfkaaGreatDoor
