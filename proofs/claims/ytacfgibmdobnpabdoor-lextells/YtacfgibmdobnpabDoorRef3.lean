/-
  What the document's answers on how a value is shown and read come to: sluiceref1's Show and Read.
-/
import Derived.Test.YtacfgibmdobnpabDoorRef2
import Derived.Test.YtacfgibmdobnpabDoorParse
namespace Go.Proofs.YtacfgibmdobnpabDoor
open Go.RowKit
set_option linter.unusedVariables false

theorem esc_take (s : ByteArray) (k : Nat) (h : k < s.size) : esc (s.data.toList.take (k + 1)) = esc (s.data.toList.take k) ++ (if s[k] = 39 then [39, 39] else [s[k]]) := by
  have e : s.data.toList.take (k + 1) = s.data.toList.take k ++ [s[k]] := by
    rw [List.take_succ_eq_append_getElem (by simpa using h)]; rfl
  rw [e]; simp [esc]

theorem slice_one (s : ByteArray) (k : Nat) (h : k < s.size) : ∃ X : ByteArray, (∀ W : World, Sem.run Tryd.prog (Instr.slice 9 (.string s) (some (.int .i64 (k : Int))) (some (.int .i64 ((k : Int) + 1))) none) W = .ok (.string X) W) ∧ X.data.toList = [s[k]] ∧ X.size = 1 := by
  refine ⟨s.extract k (k + 1), fun W => ?_, ?_, ?_⟩
  · have := run_slice_string (P := Tryd.prog) W 9 s .i64 .i64 (k : Int) ((k : Int) + 1) Tryd.underlying9 (by omega) (by omega) (by omega)
    rw [this]
    have e1 : ((k : Int)).toNat = k := by omega
    have e2 : ((k : Int) + 1).toNat = k + 1 := by omega
    rw [e1, e2]
  · have hl : k < s.data.toList.length := by simpa using h
    have : (s.extract k (k + 1)).data.toList = (s.data.toList.drop k).take 1 := by simp
    rw [this, List.drop_eq_getElem_cons hl]
    rfl
  · simp; omega
theorem app_list (a b : ByteArray) : (a ++ b).data.toList = a.data.toList ++ b.data.toList := by simp
theorem app_size (a b : ByteArray) : (a ++ b).size = a.size + b.size := by simp
theorem u8_39 {c : UInt8} : (c.toNat : Int) = 39 ↔ c = 39 :=
  ⟨fun h => UInt8.toNat_inj.1 (by rw [show (39 : UInt8).toNat = 39 from rfl]; omega), fun h => by rw [h]; rfl⟩

end Go.Proofs.YtacfgibmdobnpabDoor
