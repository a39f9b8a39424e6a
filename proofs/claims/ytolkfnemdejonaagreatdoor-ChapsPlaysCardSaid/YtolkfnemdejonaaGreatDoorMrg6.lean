/-
  Parts of my own, one behind the other: It.
-/
import Derived.Test.YtolkfnemdejonaaGreatDoorMrg4
import Derived.Test.YtolkfnemdejonaaGreatDoorMrg5
import Derived.Lib.ItoaNum
import Derived.Lib.AppendIntMem
import Derived.ProofKit
import Derived.WalkKit
namespace Go.Proofs.YtolkfnemdejonaaGreatDoor
set_option maxRecDepth 100000
open Go.RowKit Go.Sort Go.Lib Go.Shelf
set_option linter.unusedVariables false
set_option linter.unusedSimpArgs false
theorem afh {w:World}{B:List Nat}(h:GlobOK w B):Lib.TabIs Tryz.prog w "internal/strconv.uint64pow10" .u64 Lib.pow10Tab:=by
 obtain ⟨_,T,fr,h2⟩:=h.row 6 _ (by simp only [uu,List.mem_cons];exact .inl rfl)
 have h1:Tryz.prog.globalNamed "internal/strconv.uint64pow10" =some 6:=by kernel_rfl
 unfold Lib.TabIs World.var?
 rw [h1,Option.bind_some,h2]
 rfl
def itK {R:Type}(args:List V)(k:V→Tree R):Tree R:=match args with
 | [.c (.int .i64 n)]=>.ite (decide (-9223372036854775808≤n∧n≤9223372036854775807)) (k (.str (Lib.itoa n))) .fail
 | _=>.fail
theorem atV {R:Type}:∀ args (k:V→Tree R) res,(itK args k).run=some res→∃ r,(k r).run=some res∧r.plain=true∧(∀ l k,ex r≠.fresh l k)∧yg Tryz.prog 88 args r:=by
 intro args k res h
 have hb:∃ fn,Tryz.prog.funcs[88]? =some fn∧fn.name≠ "runtime.NumGoroutine" ∧fn.body≠none:=amF Tryz.func88 (by decide +kernel) (by kernel_rfl)
 unfold itK at h
 split at h
 ·rename_i n
  rcases Tree.run_ite h with ⟨hs,h⟩ | ⟨_,h⟩
  ·obtain ⟨h1,h2⟩:=of_decide_eq_true hs
   refine ⟨_,h,rfl,(fun l k h=>by cases h),kR.toV (fun w B cargs _ hgl hlen hrel=> ?_) hb⟩
   obtain ⟨a,rfl,r1⟩:=al5 hlen hrel
   have r1:=Rel.ofC r1
   subst r1
   have:=Tryz.strconv_Itoa n h1 h2 w (afh hgl)
   exact this.mono fun e w' ⟨he,k,os,hw⟩=>⟨_,he,(by rw [hw];exact Lib.below_grow _ w (Nat.le_refl _) k os),.c _ _⟩
  ·cases h
 ·cases h
end Go.Proofs.YtolkfnemdejonaaGreatDoor
