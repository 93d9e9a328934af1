/- What the laws ask of the program; the law's example; sums. -/
import Derived.Test.YtpkikfojiibdaaaDoorE6
import Derived.Test.YtpkikfojiibdaaaDoorE4
import Derived.Test.YtpkikfojiibdaaaDoorCA4
namespace Go.Proofs.YtpkikfojiibdaaaDoor
open Go.RowKit

/-- Slices that came in, or were made: nil has no room. -/
def At.came (po co ko : Option Addr) (cp cc ck : Nat) : Prop := Cm.Co.came po cp ∧ Cm.Co.came co cc ∧ Cm.Co.came ko ck
def At.zero : At := ⟨0, 0, 0, [], [], 0, []⟩
def At.plain : At := ⟨100, 0, 0, [], [], 0, []⟩
def Plus (a b : Int) : Int × Int := if 0 ≤ a ∧ 0 ≤ b ∧ a + b ≤ 1099511627776 then (a + b, 0) else (0, 7)
/-- The contracts that the laws ask of the program. -/
structure Kit (T : World → Prop) : Prop where
  on : ∀ {w w' : World}, T w → Below w.heap.size w w' → T w'
  may : ∀ (a : At) (po co ko : Option Addr) (cp cc ck : Nat) (r : Bool), At.may a = r → ∀ W, T W → At.lies W a po co ko → a.path.length ≤ 100 → a.comms.length ≤ 100 → a.cl.length ≤ 100 → a.cl.length ≤ ck → Calls Tryd.prog 9 #[.agg #[.int .i64 a.pf, .int .i64 a.md, .int .i64 a.og, .slice po a.path.length cp, .slice co a.comms.length cc, .int .i64 a.fr, .slice ko a.cl.length ck]] W fun e w' => e = .returned (.bool r) ∧ Below W.heap.size W w'
  text : ∀ (a : At) (po co ko : Option Addr) (cp cc ck : Nat) (t : ByteArray), t = ⟨(At.text a).toArray⟩ → ∀ W, T W → At.lies W a po co ko → a.path.length ≤ 100 → a.comms.length ≤ 100 → a.cl.length ≤ 100 → a.cl.length ≤ ck → Calls Tryd.prog 8 #[.agg #[.int .i64 a.pf, .int .i64 a.md, .int .i64 a.og, .slice po a.path.length cp, .slice co a.comms.length cc, .int .i64 a.fr, .slice ko a.cl.length ck]] W fun e w' => e = .returned (.string t) ∧ Below W.heap.size W w'
  compare : ∀ (a b : At) (po co ko : Option Addr) (cp cc ck : Nat) (po' co' ko' : Option Addr) (cp' cc' ck' : Nat) (r : Int), At.cmp a b = r → ∀ W, T W → At.lies W a po co ko → At.lies W b po' co' ko' → a.path.length ≤ 100 → a.comms.length ≤ 100 → a.cl.length ≤ 100 → b.path.length ≤ 100 → b.comms.length ≤ 100 → b.cl.length ≤ 100 → Calls Tryd.prog 14 #[.agg #[.int .i64 a.pf, .int .i64 a.md, .int .i64 a.og, .slice po a.path.length cp, .slice co a.comms.length cc, .int .i64 a.fr, .slice ko a.cl.length ck], .agg #[.int .i64 b.pf, .int .i64 b.md, .int .i64 b.og, .slice po' b.path.length cp', .slice co' b.comms.length cc', .int .i64 b.fr, .slice ko' b.cl.length ck']] W fun e w' => e = .returned (.int .i64 r) ∧ Below W.heap.size W w'
  same : ∀ (a b : At) (po co ko : Option Addr) (cp cc ck : Nat) (po' co' ko' : Option Addr) (cp' cc' ck' : Nat) (r : Bool), decide (At.cmp a b = 0) = r → ∀ W, T W → At.lies W a po co ko → At.lies W b po' co' ko' → a.path.length ≤ 100 → a.comms.length ≤ 100 → a.cl.length ≤ 100 → b.path.length ≤ 100 → b.comms.length ≤ 100 → b.cl.length ≤ 100 → Calls Tryd.prog 12 #[.agg #[.int .i64 a.pf, .int .i64 a.md, .int .i64 a.og, .slice po a.path.length cp, .slice co a.comms.length cc, .int .i64 a.fr, .slice ko a.cl.length ck], .agg #[.int .i64 b.pf, .int .i64 b.md, .int .i64 b.og, .slice po' b.path.length cp', .slice co' b.comms.length cc', .int .i64 b.fr, .slice ko' b.cl.length ck']] W fun e w' => e = .returned (.bool r) ∧ Below W.heap.size W w'
  plain : ∀ W, T W → Calls Tryd.prog 17 #[] W fun e w' => (∃ (po co ko : Option Addr) (cp cc ck : Nat), e = .returned (.agg #[.int .i64 100, .int .i64 0, .int .i64 0, .slice po 0 cp, .slice co 0 cc, .int .i64 0, .slice ko 0 ck])) ∧ Below W.heap.size W w'
  plus : ∀ (a b x q : Int), -9223372036854775808 ≤ a ∧ a ≤ 9223372036854775807 → -9223372036854775808 ≤ b ∧ b ≤ 9223372036854775807 → Plus a b = (x, q) → ∀ W, T W → Calls Tryd.prog 16 #[.int .i64 a, .int .i64 b] W fun e w' => e = .returned (.tuple #[.int .i64 x, .int .i64 q]) ∧ Below W.heap.size W w'

def plainText : List UInt8 := [112, 114, 101, 102, 32, 49, 48, 48, 32, 109, 101, 100, 32, 48, 32, 111, 114, 105, 103, 105, 110, 32, 105, 103, 112, 32, 112, 97, 116, 104, 32, 91, 93, 32, 99, 111, 109, 109, 115, 32, 91, 93]
theorem itoa100 : Lib.itoa 100 = [49, 48, 48] := by
  rw [show (100 : Int) = ((100 : Nat) : Int) from rfl, Lib.itoa_nonneg, show (100 : Nat) = 10 * 10 + 0 from rfl, dec_step _ _ (by decide) (by decide), show (10 : Nat) = 10 * 1 + 0 from rfl, dec_step _ _ (by decide) (by decide), Lib.decDigits_one (by decide)]
  rfl
theorem itoa0 : Lib.itoa 0 = [48] := by
  rw [show (0 : Int) = ((0 : Nat) : Int) from rfl, Lib.itoa_nonneg, Lib.decDigits_one (by decide)]
  rfl
theorem plain_text : At.text At.plain = plainText := by
  have hm : At.may At.plain = true := by decide
  unfold At.text
  rw [if_pos hm]
  simp only [At.head, At.plain, itoa100, itoa0]
  decide
theorem lies_nil (w : World) (po co ko : Option Addr) : At.lies w At.plain po co ko := ⟨.inl rfl, .inl rfl, .inl rfl⟩
set_option maxRecDepth 100000 in
theorem lives_is {T : World → Prop} (K : Kit T) (w : World) (hT : T w) : Calls Tryd.prog 7 #[] w fun e w' => e = .returned (.bool true) ∧ Below w.heap.size w w' := by
  have CP := hide (K.plain w hT)
  have CT := hide (fun po co ko cp cc ck W hW => K.text At.plain po co ko cp cc ck _ rfl W hW (lies_nil W po co ko) (by decide) (by decide) (by decide) (Nat.zero_le _))
  have HP := hide plain_text
  have HON := hide (fun w' => K.on (w := w) (w' := w') hT)
  clear K
  go_enter Tryd.func7, Tryd.ntmps7
  go_wp2_with fail
  refine CP.out.mono ?_
  rintro e w1 ⟨⟨po, co, ko, cp, cc, ck, rfl⟩, hb1⟩
  have CT1 := hide (CT.out po co ko cp cc ck w1 (HON.out w1 hb1))
  rw [HP.out] at CT1
  unfold plainText At.plain at CT1
  simp only [List.length_nil] at CT1
  have HB1 := hide hb1
  clear hb1 CT CP HON hT
  go_wp2_with fail
  refine CT1.out.mono ?_
  rintro e w2 ⟨rfl, hb2⟩
  have HB2 := hide (bthen HB1.out hb2)
  clear hb2 CT1
  go_wp2_with fail
  go_ret
  exact ⟨rfl, HB2.out⟩
end Go.Proofs.YtpkikfojiibdaaaDoor
