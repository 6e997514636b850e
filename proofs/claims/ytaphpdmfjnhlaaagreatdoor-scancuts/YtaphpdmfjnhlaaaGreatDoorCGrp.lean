/-
  Groups of records as they are handed in; records in a slice of the call's own; a journal on which no checkpoint stands. No condition.
-/
import Derived.Test.YtaphpdmfjnhlaaaGreatDoorCGud
import Derived.Test.YtaphpdmfjnhlaaaGreatDoorCAwl
namespace Go.Proofs.YtaphpdmfjnhlaaaGreatDoor
open Go Go.RowKit
set_option maxRecDepth 100000
structure Gr where
 c : Bool
 a : Option Addr
 n : Nat
 cap : Nat
 f : Nat -> Gp.R6
def GrpF (w : World) (a : Option Addr) (n : Nat) (gs : Nat -> Gr) : Prop := ∀ i,i < n -> ∃ g o,a = some ⟨g,o,none⟩/\g < w.heap.size/\w.cell? ⟨g,o + i * 2,none⟩ = some (.bool (gs i).c)/\w.cell? ⟨g,o + i * 2 + 1,none⟩ = some (.slice (gs i).a (gs i).n (gs i).cap)/\Gp.RecsF w (gs i).a (gs i).n (gs i).f
theorem GrpF.below {w w' : World} {a n gs} (h : GrpF w a n gs) (b : Below w.heap.size w w') : GrpF w' a n gs:=by
 intro i hi
 obtain ⟨g,o,ha,hg,c0,c1,hr⟩:=h i hi
 have e : ∀ j,w'.cell? ⟨g,j,none⟩ = w.cell? ⟨g,j,none⟩:=fun j => b.cell (p:=⟨g,j,none⟩) hg
 exact ⟨g,o,ha,Nat.lt_of_lt_of_le hg b.size,by rw [e]; exact c0,by rw [e]; exact c1,hr.below b⟩
theorem recs_ow {w : World} {B a n c} {rws : List Gp.R6} (h : We.Ow w B 87 6 (.slice a n c) (rws.map S8.rR)) : Gp.RecsF w a rws.length (fun i => rws.getD i (0,0,0,0,0,0)):=by
 intro i hi
 obtain ⟨g,h1,_,h3,h4⟩:=(Ow.from8 h).at (j:=i) (by rw [List.length_map]; exact hi)
 have hr : (rws.map S8.rR).getD i [] = S8.rR (rws.getD i (0,0,0,0,0,0)):=by simp [List.getD_eq_getElem?_getD,hi]
 rw [hr] at h4
 refine ⟨g,0,h1,h3,?_⟩
 rw [Nat.zero_add]
 exact ⟨h4 0 (by omega),h4 1 (by omega),h4 2 (by omega),h4 3 (by omega),h4 4 (by omega),h4 5 (by omega)⟩
theorem rat_no (w : World) (B : Nat) : S8.RAt w B (.slice none 0 0) (.slice none 0 0) (.slice none 0 0) (.slice none 0 0) (S8.rs S8.noAb):=⟨We.Ow.nil _ _ _ _,We.Ow.nil _ _ _ _,We.Ow.nil _ _ _ _,We.Ow.nil _ _ _ _⟩
theorem pack_few (rws : List Gp.R6) (hm : ∀ r ∈ rws,Gp.R6.may r = true) (h6 : rws.length <= 6) : Gp.packGo (64 : Nat) (rws.map Gp.R6.put) [] ⟨#[]⟩ = [Gp.puts rws]:=by
 have:=Gp.pack_one (64 : Nat) rws [] [] hm (by show (0 : Int) + 9 * rws.length <= 64; omega)
 exact this
end Go.Proofs.YtaphpdmfjnhlaaaGreatDoor
