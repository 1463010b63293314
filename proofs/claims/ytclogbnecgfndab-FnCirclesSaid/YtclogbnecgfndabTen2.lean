/- The table of tenths is right, part 2. -/
import Derived.Test.YtclogbnecgfndabTenT
namespace Go.Fq
open Go.Fl
set_option maxRecDepth 100000 in
theorem ten2_0 : allFrom chk 4624 588 = true := by decide +kernel
set_option maxRecDepth 100000 in
theorem ten2_1 : allFrom chk 5212 603 = true := by decide +kernel
set_option maxRecDepth 100000 in
theorem ten2_2 : allFrom chk 5815 626 = true := by decide +kernel
set_option maxRecDepth 100000 in
theorem ten2_3 : allFrom chk 6441 645 = true := by decide +kernel
set_option maxRecDepth 100000 in
theorem ten2_4 : allFrom chk 7086 658 = true := by decide +kernel
set_option maxRecDepth 100000 in
theorem ten2_5 : allFrom chk 7744 685 = true := by decide +kernel
set_option maxRecDepth 100000 in
theorem ten2_6 : allFrom chk 8429 690 = true := by decide +kernel
set_option maxRecDepth 100000 in
theorem ten2_7 : allFrom chk 9119 722 = true := by decide +kernel
set_option maxRecDepth 100000 in
theorem ten2_8 : allFrom chk 9841 730 = true := by decide +kernel
set_option maxRecDepth 100000 in
theorem ten2_9 : allFrom chk 10571 740 = true := by decide +kernel
theorem ten2 (n : Nat) (h1 : 4624 ≤ n) (h2 : n < 11311) : chk n = true := by
  by_cases g0 : n < 5212
  · exact allFrom_at _ _ n ten2_0 (by omega) (by omega)
  by_cases g1 : n < 5815
  · exact allFrom_at _ _ n ten2_1 (by omega) (by omega)
  by_cases g2 : n < 6441
  · exact allFrom_at _ _ n ten2_2 (by omega) (by omega)
  by_cases g3 : n < 7086
  · exact allFrom_at _ _ n ten2_3 (by omega) (by omega)
  by_cases g4 : n < 7744
  · exact allFrom_at _ _ n ten2_4 (by omega) (by omega)
  by_cases g5 : n < 8429
  · exact allFrom_at _ _ n ten2_5 (by omega) (by omega)
  by_cases g6 : n < 9119
  · exact allFrom_at _ _ n ten2_6 (by omega) (by omega)
  by_cases g7 : n < 9841
  · exact allFrom_at _ _ n ten2_7 (by omega) (by omega)
  by_cases g8 : n < 10571
  · exact allFrom_at _ _ n ten2_8 (by omega) (by omega)
  exact allFrom_at _ _ n ten2_9 (by omega) (by omega)
end Go.Fq
