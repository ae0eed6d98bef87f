/- Layer 3: the values of the examples. -/
import Derived.Test.YtpgifeaejjjjnaaBT
namespace Go.Proofs.Ytpgifeaejjjjnaa
open Go.RowKit Go.Sort
set_option maxRecDepth 100000
/-- the values of the chapter's examples. -/
theorem ex_chkA : chkE 3 [[0, 1, 2]] = 0 := by decide
theorem ex_free : freeE 3 [[0, 1, 2]] = [[1, 2], [0, 2], [0, 1]] := by decide
theorem ex_full : fullE 3 [[0, 1, 2]] = gridL 3 3 (rndF 3) := by decide
theorem ex_turnc : chkE 3 [[1, 2, 0]] = 0 := by decide
theorem ex_turn : turnE 3 [[1, 2, 0]] = [[2, 0, 1]] := by decide
theorem ex_whyB : whyS 3 [[0, 1], [1, 0]] = 2 ∧ whyE 3 [[0, 1], [1, 0]] = 0 := by decide
theorem ex_filC : filE 3 [[0, 1], [1, 2]] = 0 ∧ filL 3 [[0, 1], [1, 2]] = gridL 3 3 (rndF 3) := by decide
theorem ex_filB : filE 3 [[0, 1], [1, 0]] = 12 := by decide
theorem ex_whyC : whyE 3 [[0, 1], [1, 2]] = 13 := by decide
theorem ex_prv2 : prvE 3 [[0, 1], [1, 0]] 2 = 0 := by decide
theorem ex_prv0 : prvE 3 [[0, 1], [1, 0]] 0 = 14 := by decide
theorem ex_prv3 : prvE 3 [[0, 1], [1, 0]] 3 = 2 := by decide
theorem ex_fulA : fulE 3 [[0, 1, 2]] = 21 := by decide
theorem ex_opnA : opnE 3 [[0, 1, 2]] = 0 := by decide
theorem ex_ful3 : fulE 3 (gridL 3 3 (rndF 3)) = 0 := by decide
theorem ex_ful4 : fulE 4 (gridL 4 4 (rndF 4)) = 0 := by decide
theorem ex_ful5 : fulE 5 (gridL 5 5 (rndF 5)) = 0 := by decide
theorem ex_opn4 : opnE 4 (gridL 4 4 (rndF 4)) = 16 := by decide
theorem ex_opn2 : opnE 4 ((gridL 4 4 (rndF 4)).take 2) = 0 := by decide
theorem ex_opn1 : opnE 4 ((gridL 4 4 (rndF 4)).take 1) = 0 := by decide
theorem ex_opn0 : opnE 4 [] = 0 := by decide
theorem ex_fil2 : filE 2 [] = 0 ∧ filL 2 [] = gridL 2 2 (rndF 2) := by decide
theorem ex_chk1 : chkE 3 [[0, 1]] = 5 := by decide
theorem ex_chk2 : chkE 3 [[0, 1, 3]] = 2 := by decide
theorem ex_chk3 : chkE 3 [[0, 1, 1]] = 6 := by decide
theorem ex_chk4 : chkE 3 [[0, 1, 2], [0, 2, 1]] = 13 := by decide
theorem ex_chk5 : chkE 3 [[], [], [], []] = 3 := by decide
theorem ex_cor1 : corE 3 [[0, 1], [1]] = 5 := by decide
theorem ex_cor2 : corE 3 [[0, 0]] = 6 := by decide
theorem ex_cor3 : corE 3 [[0], [0]] = 13 := by decide
theorem ex_cor4 : corE 6 [] = 1 := by decide
end Go.Proofs.Ytpgifeaejjjjnaa
