/- The table of tenths is right, part 4. -/
import Derived.Test.YtclogbnecgfndabTenT
namespace Go.Fq
open Go.Fl
set_option maxRecDepth 100000 in
theorem ten4_0 : allFrom chk 20086 1046 = true := by decide +kernel
set_option maxRecDepth 100000 in
theorem ten4_1 : allFrom chk 21132 1119 = true := by decide +kernel
set_option maxRecDepth 100000 in
theorem ten4_2 : allFrom chk 22251 1199 = true := by decide +kernel
set_option maxRecDepth 100000 in
theorem ten4_3 : allFrom chk 23450 1315 = true := by decide +kernel
set_option maxRecDepth 100000 in
theorem ten4_4 : allFrom chk 24765 1403 = true := by decide +kernel
set_option maxRecDepth 100000 in
theorem ten4_5 : allFrom chk 26168 1535 = true := by decide +kernel
set_option maxRecDepth 100000 in
theorem ten4_6 : allFrom chk 27703 1786 = true := by decide +kernel
set_option maxRecDepth 100000 in
theorem ten4_7 : allFrom chk 29489 2164 = true := by decide +kernel
set_option maxRecDepth 100000 in
theorem ten4_8 : allFrom chk 31653 2943 = true := by decide +kernel
set_option maxRecDepth 100000 in
theorem ten4_9 : allFrom chk 34596 5405 = true := by decide +kernel
theorem ten4 (n : Nat) (h1 : 20086 ≤ n) (h2 : n < 40001) : chk n = true := by
  by_cases g0 : n < 21132
  · exact allFrom_at _ _ n ten4_0 (by omega) (by omega)
  by_cases g1 : n < 22251
  · exact allFrom_at _ _ n ten4_1 (by omega) (by omega)
  by_cases g2 : n < 23450
  · exact allFrom_at _ _ n ten4_2 (by omega) (by omega)
  by_cases g3 : n < 24765
  · exact allFrom_at _ _ n ten4_3 (by omega) (by omega)
  by_cases g4 : n < 26168
  · exact allFrom_at _ _ n ten4_4 (by omega) (by omega)
  by_cases g5 : n < 27703
  · exact allFrom_at _ _ n ten4_5 (by omega) (by omega)
  by_cases g6 : n < 29489
  · exact allFrom_at _ _ n ten4_6 (by omega) (by omega)
  by_cases g7 : n < 31653
  · exact allFrom_at _ _ n ten4_7 (by omega) (by omega)
  by_cases g8 : n < 34596
  · exact allFrom_at _ _ n ten4_8 (by omega) (by omega)
  exact allFrom_at _ _ n ten4_9 (by omega) (by omega)
end Go.Fq
