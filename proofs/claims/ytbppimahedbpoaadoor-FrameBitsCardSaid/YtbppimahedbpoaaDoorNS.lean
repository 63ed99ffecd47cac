/-
  A text of which a byte is another is none: plain. OfFrame; coded of another number.
-/
import Derived.Test.YtbppimahedbpoaaDoorNL
import Derived.Test.YtbppimahedbpoaaDoorNK
import Derived.Test.YtbppimahedbpoaaDoorNR
import Derived.Test.YtbppimahedbpoaaDoorFK3
import Derived.Deep.RegionHeld3
namespace Go.Proofs.YtbppimahedbpoaaDoor
open Go.RowKit Go.Extern.Stop Go.Stop Go.Extern

theorem set_split (l : Bs) (p : Nat) (hp : p < l.length) (b : UInt8) : ∃ x y, l = x ++ l.getD p 0 :: y ∧ l.set p b = x ++ b :: y := by
  refine ⟨l.take p, l.drop (p + 1), ?_, ?_⟩
  · have h1 : l.getD p 0 = l[p] := by simp [List.getD, hp]
    rw [h1]
    have := (List.take_append_drop p l).symm
    rw [List.drop_eq_getElem_cons hp] at this
    exact this
  · rw [List.set_eq_take_append_cons_drop, if_pos hp]
theorem decode_flip (f : FrameD) (p : Nat) (hp : p < (textD f).length) (b : UInt8) (hb : b ≠ (textD f).getD p 0) : (decodeD ((textD f).set p b)).1 = noFrame ∧ ((decodeD ((textD f).set p b)).2 = some 0 ∨ (decodeD ((textD f).set p b)).2 = some 10) := by
  obtain ⟨l, hl⟩ : ∃ l, l = textD f := ⟨_, rfl⟩
  have hlen := textD_len f
  obtain ⟨hbd, hls⟩ := body_text f
  rw [← hl] at hp hb hlen hbd hls ⊢
  rw [← hbd] at hls
  have hlt : (l.set p b).length = l.length := List.length_set
  unfold decodeD
  rw [if_neg (by rw [hlt]; omega)]
  by_cases e7 : (l.set p b).length ≠ 12 + 4 * tkD (l.set p b) 7 1
  · rw [if_pos e7]
    exact ⟨rfl, Or.inl rfl⟩
  · rw [if_neg e7]
    have hne : lastS (l.set p b) ≠ lowD (crcD (bodyS (l.set p b))) := fun heq => by
      unfold lastS bodyS at heq hls
      rw [hlt] at heq
      by_cases hq : p < l.length - 4
      · rw [List.drop_set_of_lt hq, hls, List.take_set] at heq
        have hc := lowD_inj (crcD_lt _) (crcD_lt _) heq
        obtain ⟨x, y, h1, h2⟩ := set_split (l.take (l.length - 4)) p (by rw [List.length_take]; omega) b
        have h3 : (l.take (l.length - 4)).getD p 0 = l.getD p 0 := by simp only [List.getD]; rw [List.getElem?_take, if_pos hq]
        rw [h3] at h1
        rw [h2] at hc
        rw [h1] at hc
        exact hb (crcD_byte x y _ _ hc).symm
      · rw [List.take_set_of_le (by omega), List.drop_set, if_neg hq, ← hls] at heq
        have h3 : ((l.drop (l.length - 4)).set (p - (l.length - 4)) b).getD (p - (l.length - 4)) 0 = b := by
          rw [List.getD, List.getElem?_set_self (by rw [List.length_drop]; omega)]
          rfl
        rw [heq] at h3
        have h4 : (l.drop (l.length - 4)).getD (p - (l.length - 4)) 0 = l.getD p 0 := by
          simp only [List.getD, List.getElem?_drop]
          rw [show l.length - 4 + (p - (l.length - 4)) = p by omega]
        exact hb (h3.symm.trans h4)
    rw [if_pos hne]
    exact ⟨rfl, Or.inr rfl⟩
theorem coded3_is (a : Nat → Addr) (i : Nat) (n : Int) (w : World) (hi : i < 11) (h : Errs w a) :
    Calls Tryd.prog 10 #[.iface 106 (.pointer (some (a i))), .int .i64 n] w fun e w' => e = .returned (.bool (decide ((i : Int) + 1 = n))) ∧ Below w.heap.size w w' := by
  have H : Hid (Errs w a) := h
  clear h
  obtain ⟨D, hD⟩ : ∃ D, D = decide ((i : Int) + 1 = n) := ⟨_, rfl⟩
  rw [← hD]
  by_cases e : (i : Int) + 1 = n
  · rw [decide_eq_true e] at hD
    subst hD
    exact coded3_err a i n w hi e.symm H.out
  · rw [decide_eq_false e] at hD
    subst hD
    go_enter Tryd.func10, Tryd.ntmps10
    go_wp2_with (go_at_call 22; refine (code_err a i _ hi ?_).mono ?_; exact H.out; rintro e w' ⟨rfl, hB⟩)
    go_ret
    exact ⟨rfl, hB⟩
theorem ofFrame_any (f : FrameD) (nv : Value) (w : World) (hi : IsInts w nv f.nums) :
    Calls Tryd.prog 18 #[frameV f nv] w fun e w' => e = .returned (frameV f nv) ∧ Below w.heap.size w w' := by
  obtain ⟨va, vc, rfl⟩ := isInts_form hi
  clear hi
  unfold frameV
  obtain ⟨n, hn⟩ : ∃ n, n = f.nums.length := ⟨_, rfl⟩
  obtain ⟨kd, hkd⟩ : ∃ x, x = f.kind := ⟨_, rfl⟩
  obtain ⟨fr, hfr⟩ : ∃ x, x = f.frm := ⟨_, rfl⟩
  obtain ⟨dt, hto⟩ : ∃ x, x = f.to := ⟨_, rfl⟩
  obtain ⟨sq, hsq⟩ : ∃ x, x = f.seq := ⟨_, rfl⟩
  rw [← hn, ← hkd, ← hfr, ← hto, ← hsq]
  clear hn hkd hfr hto hsq
  go_enter Tryd.func18, Tryd.ntmps18
  go_wp2_with fail
  refine bodyPost_ret (v := .agg #[.int .u8 kd, .int .i64 fr, .int .i64 dt, .int .i64 sq, .slice va n vc]) (by simp [results, Tryd.results18, go_sem]) rfl ?_
  exact ⟨rfl, (below1 w _).alloc (by simp) _⟩
end Go.Proofs.YtbppimahedbpoaaDoor
