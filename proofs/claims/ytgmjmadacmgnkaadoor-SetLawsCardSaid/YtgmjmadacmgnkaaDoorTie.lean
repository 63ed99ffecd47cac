/-
  DERIVED. GIVEN WITH THE SEED: THE PROGRAM's TIES (one call each: nine closed facts by the kernel) AND EACH ROW's TIE, after the 31st guide's Derived/Test/Toyas{Tie, Card}.lean. No idea stands in it: it is a product of the set-up. Laid BY PROGRAM, IN A SANDBOX (cutbox-door.mjs). By AI agents, Wed Nov 11 2026. No macro, syntax, notation, axiom, sorry.
-/
import Derived.Test.YtgmjmadacmgnkaaDoorRows
import Derived.LaidByTextLater
import Derived.SevenTiedAt
import Derived.LaidSub
import Derived.LaidOnce
namespace Go.Proofs.YtgmjmadacmgnkaaDoor
open Go
set_option maxRecDepth 100000
theorem seatTie1 : Tryd.prog.laidByTextLater [("math/bits.deBruijn32tab", Rows.laid_math_bits_deBruijn32tab), ("math/bits.deBruijn64tab", Rows.laid_math_bits_deBruijn64tab), ("internal/strconv.uint64pow10", Rows.laid_internal_strconv_uint64pow10), ("unicode/utf8.acceptRanges", Rows.laid_unicode_utf8_acceptRanges), ("errors.errorType", Rows.laid_errors_errorType), ("fingerpost/api.ErrText", Rows.laid_fingerpost_api_ErrText), ("fingerpost/api.ErrBound", Rows.laid_fingerpost_api_ErrBound), ("fingerpost/api.ErrShape", Rows.laid_fingerpost_api_ErrShape), ("fingerpost/api.ErrKind", Rows.laid_fingerpost_api_ErrKind), ("fingerpost/api.ErrName", Rows.laid_fingerpost_api_ErrName), ("fingerpost/api.ErrNone", Rows.laid_fingerpost_api_ErrNone), ("fingerpost/api.ErrExist", Rows.laid_fingerpost_api_ErrExist), ("fingerpost/api.ErrFull", Rows.laid_fingerpost_api_ErrFull), ("fingerpost/api.ErrArgs", Rows.laid_fingerpost_api_ErrArgs), ("fingerpost/api.ErrOrder", Rows.laid_fingerpost_api_ErrOrder), ("fingerpost/api.ErrSum", Rows.laid_fingerpost_api_ErrSum)] [.data, .data, .data, .data, .handle, .sentinel, .sentinel, .sentinel, .sentinel, .sentinel, .sentinel, .sentinel, .sentinel, .sentinel, .sentinel, .sentinel] true :=
  Program.laidByTextLater_by_one 250 8 65 (by kernel_rfl) (by kernel_rfl) (by kernel_rfl) (by kernel_rfl) (by kernel_rfl) (by kernel_rfl) (fun _ _ => by kernel_rfl)
theorem pin_laid_unicode_utf8_first : Tryd.pinned.checked.prog.pinnedFits "unicode/utf8.first" = true := by kernel_rfl
theorem noOwnUnsafe : Tryd.pinned.checked.prog.headLifts.contains "ownunsafe" = false := by kernel_rfl
theorem tie : Tryd.prog.laidByTextLater [("errors.errorType", Rows.laid_errors_errorType), ("fingerpost/api.ErrText", Rows.laid_fingerpost_api_ErrText), ("fingerpost/api.ErrBound", Rows.laid_fingerpost_api_ErrBound), ("fingerpost/api.ErrShape", Rows.laid_fingerpost_api_ErrShape), ("fingerpost/api.ErrKind", Rows.laid_fingerpost_api_ErrKind), ("fingerpost/api.ErrName", Rows.laid_fingerpost_api_ErrName), ("fingerpost/api.ErrNone", Rows.laid_fingerpost_api_ErrNone), ("fingerpost/api.ErrExist", Rows.laid_fingerpost_api_ErrExist), ("fingerpost/api.ErrFull", Rows.laid_fingerpost_api_ErrFull), ("fingerpost/api.ErrArgs", Rows.laid_fingerpost_api_ErrArgs), ("fingerpost/api.ErrOrder", Rows.laid_fingerpost_api_ErrOrder), ("fingerpost/api.ErrSum", Rows.laid_fingerpost_api_ErrSum)] [.handle, .sentinel, .sentinel, .sentinel, .sentinel, .sentinel, .sentinel, .sentinel, .sentinel, .sentinel, .sentinel, .sentinel] true :=
  Program.laidByTextLater.sub seatTie1 ["errors.errorType", "fingerpost/api.ErrText", "fingerpost/api.ErrBound", "fingerpost/api.ErrShape", "fingerpost/api.ErrKind", "fingerpost/api.ErrName", "fingerpost/api.ErrNone", "fingerpost/api.ErrExist", "fingerpost/api.ErrFull", "fingerpost/api.ErrArgs", "fingerpost/api.ErrOrder", "fingerpost/api.ErrSum"] (by kernel_rfl) (by kernel_rfl)
theorem names_row_tie : Rows.namesRow.laidByTextAt .later Tryd.pinned [.handle, .sentinel, .sentinel, .sentinel, .sentinel, .sentinel, .sentinel, .sentinel, .sentinel, .sentinel, .sentinel, .sentinel] true :=
  OpenClaim.laidByTextAt_later rfl rfl tie noOwnUnsafe
theorem fits2 : Tryd.pinned.checked.prog.listedFits [("math/bits.deBruijn32tab", Rows.laid_math_bits_deBruijn32tab), ("math/bits.deBruijn64tab", Rows.laid_math_bits_deBruijn64tab), ("internal/strconv.uint64pow10", Rows.laid_internal_strconv_uint64pow10), ("unicode/utf8.acceptRanges", Rows.laid_unicode_utf8_acceptRanges), ("fingerpost/api.ErrText", Rows.laid_fingerpost_api_ErrText), ("fingerpost/api.ErrBound", Rows.laid_fingerpost_api_ErrBound), ("fingerpost/api.ErrOrder", Rows.laid_fingerpost_api_ErrOrder), ("unicode/utf8.first", Rows.laid_unicode_utf8_first)] = true := by
  unfold Program.listedFits
  rw [noOwnUnsafe]
  kernel_rfl
theorem tie2 : Tryd.prog.laidByTextLater [("math/bits.deBruijn32tab", Rows.laid_math_bits_deBruijn32tab), ("math/bits.deBruijn64tab", Rows.laid_math_bits_deBruijn64tab), ("internal/strconv.uint64pow10", Rows.laid_internal_strconv_uint64pow10), ("unicode/utf8.acceptRanges", Rows.laid_unicode_utf8_acceptRanges), ("fingerpost/api.ErrText", Rows.laid_fingerpost_api_ErrText), ("fingerpost/api.ErrBound", Rows.laid_fingerpost_api_ErrBound), ("fingerpost/api.ErrOrder", Rows.laid_fingerpost_api_ErrOrder)] [.data, .data, .data, .data, .sentinel, .sentinel, .sentinel] true :=
  Program.laidByTextLater.sub seatTie1 ["math/bits.deBruijn32tab", "math/bits.deBruijn64tab", "internal/strconv.uint64pow10", "unicode/utf8.acceptRanges", "fingerpost/api.ErrText", "fingerpost/api.ErrBound", "fingerpost/api.ErrOrder"] (by kernel_rfl) (by kernel_rfl)
theorem setLaws_row_tie : Rows.setLawsRow.laidByTextAt .later Tryd.pinned [.data, .data, .data, .data, .sentinel, .sentinel, .sentinel, .pinned] true :=
  OpenClaim.laidByTextAt_pinned rfl rfl tie2 rfl rfl rfl rfl (fun y hy _e => by
    simp only [Rows.setLawsRow, List.zip_cons_cons, List.zip_nil_right, List.mem_cons, List.mem_nil_iff, or_false] at hy
    rcases hy with rfl | rfl | rfl | rfl | rfl | rfl | rfl | rfl
    · cases _e
    · cases _e
    · cases _e
    · cases _e
    · cases _e
    · cases _e
    · cases _e
    · exact ⟨pin_laid_unicode_utf8_first, by kernel_rfl⟩) fits2
theorem tie3 : Tryd.prog.laidByTextLater [("math/bits.deBruijn32tab", Rows.laid_math_bits_deBruijn32tab), ("math/bits.deBruijn64tab", Rows.laid_math_bits_deBruijn64tab), ("internal/strconv.uint64pow10", Rows.laid_internal_strconv_uint64pow10), ("errors.errorType", Rows.laid_errors_errorType), ("fingerpost/api.ErrText", Rows.laid_fingerpost_api_ErrText), ("fingerpost/api.ErrBound", Rows.laid_fingerpost_api_ErrBound), ("fingerpost/api.ErrShape", Rows.laid_fingerpost_api_ErrShape), ("fingerpost/api.ErrKind", Rows.laid_fingerpost_api_ErrKind), ("fingerpost/api.ErrName", Rows.laid_fingerpost_api_ErrName), ("fingerpost/api.ErrNone", Rows.laid_fingerpost_api_ErrNone), ("fingerpost/api.ErrExist", Rows.laid_fingerpost_api_ErrExist), ("fingerpost/api.ErrFull", Rows.laid_fingerpost_api_ErrFull), ("fingerpost/api.ErrArgs", Rows.laid_fingerpost_api_ErrArgs), ("fingerpost/api.ErrOrder", Rows.laid_fingerpost_api_ErrOrder), ("fingerpost/api.ErrSum", Rows.laid_fingerpost_api_ErrSum)] [.data, .data, .data, .handle, .sentinel, .sentinel, .sentinel, .sentinel, .sentinel, .sentinel, .sentinel, .sentinel, .sentinel, .sentinel, .sentinel] true :=
  Program.laidByTextLater.sub seatTie1 ["math/bits.deBruijn32tab", "math/bits.deBruijn64tab", "internal/strconv.uint64pow10", "errors.errorType", "fingerpost/api.ErrText", "fingerpost/api.ErrBound", "fingerpost/api.ErrShape", "fingerpost/api.ErrKind", "fingerpost/api.ErrName", "fingerpost/api.ErrNone", "fingerpost/api.ErrExist", "fingerpost/api.ErrFull", "fingerpost/api.ErrArgs", "fingerpost/api.ErrOrder", "fingerpost/api.ErrSum"] (by kernel_rfl) (by kernel_rfl)
theorem setOf_row_tie : Rows.setOfRow.laidByTextAt .later Tryd.pinned [.data, .data, .data, .handle, .sentinel, .sentinel, .sentinel, .sentinel, .sentinel, .sentinel, .sentinel, .sentinel, .sentinel, .sentinel, .sentinel] true :=
  OpenClaim.laidByTextAt_later rfl rfl tie3 noOwnUnsafe
theorem namesUpto_row_tie : Rows.namesUptoRow.laidByTextAt .later Tryd.pinned [.handle, .sentinel, .sentinel, .sentinel, .sentinel, .sentinel, .sentinel, .sentinel, .sentinel, .sentinel, .sentinel, .sentinel] true :=
  OpenClaim.laidByTextAt_later rfl rfl tie noOwnUnsafe
theorem setLawsUpto_row_tie : Rows.setLawsUptoRow.laidByTextAt .later Tryd.pinned [.data, .data, .data, .data, .sentinel, .sentinel, .sentinel, .pinned] true :=
  OpenClaim.laidByTextAt_pinned rfl rfl tie2 rfl rfl rfl rfl (fun y hy _e => by
    simp only [Rows.setLawsUptoRow, List.zip_cons_cons, List.zip_nil_right, List.mem_cons, List.mem_nil_iff, or_false] at hy
    rcases hy with rfl | rfl | rfl | rfl | rfl | rfl | rfl | rfl
    · cases _e
    · cases _e
    · cases _e
    · cases _e
    · cases _e
    · cases _e
    · cases _e
    · exact ⟨pin_laid_unicode_utf8_first, by kernel_rfl⟩) fits2
theorem setOfUpto_row_tie : Rows.setOfUptoRow.laidByTextAt .later Tryd.pinned [.data, .data, .data, .handle, .sentinel, .sentinel, .sentinel, .sentinel, .sentinel, .sentinel, .sentinel, .sentinel, .sentinel, .sentinel, .sentinel] true :=
  OpenClaim.laidByTextAt_later rfl rfl tie3 noOwnUnsafe
end Go.Proofs.YtgmjmadacmgnkaaDoor
