/-
  By the kernel: the primes below 32770 have primitive roots.
-/
import Derived.Test.YtfkeemhbehhclaaDoorFdz
namespace Go.Proofs.YtfkeemhbehhclaaDoor
open Go.RowKit

/-! Every prime up to 65537 has a primitive root, by the kernel. -/
theorem chk_0 : allUpto (fun j => chkP (2 + j)) 4096 = true := by decide +kernel
theorem chk_1 : allUpto (fun j => chkP (4098 + j)) 4096 = true := by decide +kernel
theorem chk_2 : allUpto (fun j => chkP (8194 + j)) 4096 = true := by decide +kernel
theorem chk_3 : allUpto (fun j => chkP (12290 + j)) 4096 = true := by decide +kernel
theorem chk_4 : allUpto (fun j => chkP (16386 + j)) 4096 = true := by decide +kernel
theorem chk_5 : allUpto (fun j => chkP (20482 + j)) 4096 = true := by decide +kernel
theorem chk_6 : allUpto (fun j => chkP (24578 + j)) 4096 = true := by decide +kernel
theorem chk_7 : allUpto (fun j => chkP (28674 + j)) 4096 = true := by decide +kernel
end Go.Proofs.YtfkeemhbehhclaaDoor
