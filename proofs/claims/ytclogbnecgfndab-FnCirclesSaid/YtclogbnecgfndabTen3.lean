/- The table of tenths is right, part 3. -/
import Derived.Test.YtclogbnecgfndabTenT
namespace Go.Fq
open Go.Fl
set_option maxRecDepth 100000 in
theorem ten3_0 : allFrom chk 11311 774 = true := by decide +kernel
set_option maxRecDepth 100000 in
theorem ten3_1 : allFrom chk 12085 790 = true := by decide +kernel
set_option maxRecDepth 100000 in
theorem ten3_2 : allFrom chk 12875 806 = true := by decide +kernel
set_option maxRecDepth 100000 in
theorem ten3_3 : allFrom chk 13681 828 = true := by decide +kernel
set_option maxRecDepth 100000 in
theorem ten3_4 : allFrom chk 14509 862 = true := by decide +kernel
set_option maxRecDepth 100000 in
theorem ten3_5 : allFrom chk 15371 886 = true := by decide +kernel
set_option maxRecDepth 100000 in
theorem ten3_6 : allFrom chk 16257 913 = true := by decide +kernel
set_option maxRecDepth 100000 in
theorem ten3_7 : allFrom chk 17170 931 = true := by decide +kernel
set_option maxRecDepth 100000 in
theorem ten3_8 : allFrom chk 18101 972 = true := by decide +kernel
set_option maxRecDepth 100000 in
theorem ten3_9 : allFrom chk 19073 1013 = true := by decide +kernel
theorem ten3 (n : Nat) (h1 : 11311 ≤ n) (h2 : n < 20086) : chk n = true := by
  by_cases g0 : n < 12085
  · exact allFrom_at _ _ n ten3_0 (by omega) (by omega)
  by_cases g1 : n < 12875
  · exact allFrom_at _ _ n ten3_1 (by omega) (by omega)
  by_cases g2 : n < 13681
  · exact allFrom_at _ _ n ten3_2 (by omega) (by omega)
  by_cases g3 : n < 14509
  · exact allFrom_at _ _ n ten3_3 (by omega) (by omega)
  by_cases g4 : n < 15371
  · exact allFrom_at _ _ n ten3_4 (by omega) (by omega)
  by_cases g5 : n < 16257
  · exact allFrom_at _ _ n ten3_5 (by omega) (by omega)
  by_cases g6 : n < 17170
  · exact allFrom_at _ _ n ten3_6 (by omega) (by omega)
  by_cases g7 : n < 18101
  · exact allFrom_at _ _ n ten3_7 (by omega) (by omega)
  by_cases g8 : n < 19073
  · exact allFrom_at _ _ n ten3_8 (by omega) (by omega)
  exact allFrom_at _ _ n ten3_9 (by omega) (by omega)
end Go.Fq
