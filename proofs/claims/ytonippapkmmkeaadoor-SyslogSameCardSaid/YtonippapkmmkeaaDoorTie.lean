/-
  DERIVED. GIVEN WITH THE SEED: THE PROGRAM's TIES (one call each: nine closed facts by the kernel) AND EACH ROW's TIE, after the 31st guide's Derived/Test/Toyas{Tie, Card}.lean. No idea stands in it: it is a product of the set-up. Laid BY PROGRAM, IN A SANDBOX (cutbox-door.mjs). By AI agents, Wed Nov 11 2026. No macro, syntax, notation, axiom, sorry.
-/
import Derived.Test.YtonippapkmmkeaaDoorRows
import Derived.LaidByTextLater
import Derived.SevenTiedAt
import Derived.LaidSub
import Derived.LaidOnce
namespace Go.Proofs.YtonippapkmmkeaaDoor
open Go
set_option maxRecDepth 100000
theorem seatTie1 : Tryd.prog.laidByTextLater [("gong/stamp.monthsAhead", Rows.laid_gong_stamp_monthsAhead), ("gong/utf.leads", Rows.laid_gong_utf_leads), ("gong/syslog.mostName", Rows.laid_gong_syslog_mostName)] [.data, .data, .data] true :=
  Program.laidByTextLater_by_one 24 8 14 (by kernel_rfl) (by kernel_rfl) (by kernel_rfl) (by kernel_rfl) (by kernel_rfl) (by kernel_rfl) (fun _ _ => by kernel_rfl)
theorem noOwnUnsafe : Tryd.pinned.checked.prog.headLifts.contains "ownunsafe" = false := by kernel_rfl
theorem tie : Tryd.prog.laidByTextLater [("gong/stamp.monthsAhead", Rows.laid_gong_stamp_monthsAhead), ("gong/utf.leads", Rows.laid_gong_utf_leads), ("gong/syslog.mostName", Rows.laid_gong_syslog_mostName)] [.data, .data, .data] true :=
  Program.laidByTextLater.sub seatTie1 ["gong/stamp.monthsAhead", "gong/utf.leads", "gong/syslog.mostName"] (by kernel_rfl) (by kernel_rfl)
theorem syslogSame_row_tie : Rows.syslogSameRow.laidByTextAt .later Tryd.pinned [.data, .data, .data] true :=
  OpenClaim.laidByTextAt_later rfl rfl tie noOwnUnsafe
theorem syslogSameUpto_row_tie : Rows.syslogSameUptoRow.laidByTextAt .later Tryd.pinned [.data, .data, .data] true :=
  OpenClaim.laidByTextAt_later rfl rfl tie noOwnUnsafe
end Go.Proofs.YtonippapkmmkeaaDoor
