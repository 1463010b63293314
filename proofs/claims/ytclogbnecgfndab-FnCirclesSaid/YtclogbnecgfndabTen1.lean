/- The table of tenths is right, part 1. -/
import Derived.Test.YtclogbnecgfndabTenT
namespace Go.Fq
open Go.Fl
set_option maxRecDepth 100000 in
theorem ten1_0 : allFrom chk 0 297 = true := by decide +kernel
set_option maxRecDepth 100000 in
theorem ten1_1 : allFrom chk 297 358 = true := by decide +kernel
set_option maxRecDepth 100000 in
theorem ten1_2 : allFrom chk 655 406 = true := by decide +kernel
set_option maxRecDepth 100000 in
theorem ten1_3 : allFrom chk 1061 440 = true := by decide +kernel
set_option maxRecDepth 100000 in
theorem ten1_4 : allFrom chk 1501 462 = true := by decide +kernel
set_option maxRecDepth 100000 in
theorem ten1_5 : allFrom chk 1963 489 = true := by decide +kernel
set_option maxRecDepth 100000 in
theorem ten1_6 : allFrom chk 2452 513 = true := by decide +kernel
set_option maxRecDepth 100000 in
theorem ten1_7 : allFrom chk 2965 532 = true := by decide +kernel
set_option maxRecDepth 100000 in
theorem ten1_8 : allFrom chk 3497 557 = true := by decide +kernel
set_option maxRecDepth 100000 in
theorem ten1_9 : allFrom chk 4054 570 = true := by decide +kernel
theorem ten1 (n : Nat) (h1 : 0 ≤ n) (h2 : n < 4624) : chk n = true := by
  by_cases g0 : n < 297
  · exact allFrom_at _ _ n ten1_0 (by omega) (by omega)
  by_cases g1 : n < 655
  · exact allFrom_at _ _ n ten1_1 (by omega) (by omega)
  by_cases g2 : n < 1061
  · exact allFrom_at _ _ n ten1_2 (by omega) (by omega)
  by_cases g3 : n < 1501
  · exact allFrom_at _ _ n ten1_3 (by omega) (by omega)
  by_cases g4 : n < 1963
  · exact allFrom_at _ _ n ten1_4 (by omega) (by omega)
  by_cases g5 : n < 2452
  · exact allFrom_at _ _ n ten1_5 (by omega) (by omega)
  by_cases g6 : n < 2965
  · exact allFrom_at _ _ n ten1_6 (by omega) (by omega)
  by_cases g7 : n < 3497
  · exact allFrom_at _ _ n ten1_7 (by omega) (by omega)
  by_cases g8 : n < 4054
  · exact allFrom_at _ _ n ten1_8 (by omega) (by omega)
  exact allFrom_at _ _ n ten1_9 (by omega) (by omega)
end Go.Fq
