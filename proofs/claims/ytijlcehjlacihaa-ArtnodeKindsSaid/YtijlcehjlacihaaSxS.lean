/-
  Shapes of any kind: one word for the four; their methods through the interface; kind, least, next, last.
-/
import Derived.Test.YtijlcehjlacihaaWiS
import Derived.Shelf.Abstract
namespace Go.Proofs.Ytijlcehjlacihaa
open Go.RowKit Go.Lib
set_option linter.unusedVariables false
set_option maxRecDepth 20000
set_option linter.unusedSimpArgs false

namespace NS
theorem mPFOURget (g : Nat) (w : World) : (method 246 73 (.pointer (some ⟨g, 0, none⟩)) "marshalling/artnode.get").run Try.prog w = .ok (86, .pointer (some ⟨g, 0, none⟩)) w := by kernel_rfl
theorem mPSIXget (g : Nat) (w : World) : (method 246 98 (.pointer (some ⟨g, 0, none⟩)) "marshalling/artnode.get").run Try.prog w = .ok (86, .pointer (some ⟨g, 0, none⟩)) w := by kernel_rfl
theorem mPMIDget (g : Nat) (w : World) : (method 246 99 (.pointer (some ⟨g, 0, none⟩)) "marshalling/artnode.get").run Try.prog w = .ok (107, .pointer (some ⟨g, 0, none⟩)) w := by kernel_rfl
theorem mPWHOget (g : Nat) (w : World) : (method 246 104 (.pointer (some ⟨g, 0, none⟩)) "marshalling/artnode.get").run Try.prog w = .ok (112, .pointer (some ⟨g, 0, none⟩)) w := by kernel_rfl
theorem eLget : Enters Try.prog 86 := enters_of Try.func86 (by kernel_rfl) rfl
theorem eMget : Enters Try.prog 107 := enters_of Try.func107 (by kernel_rfl) rfl
theorem eWget : Enters Try.prog 112 := enters_of Try.func112 (by kernel_rfl) rfl
theorem mPFOURset (g : Nat) (w : World) : (method 246 73 (.pointer (some ⟨g, 0, none⟩)) "marshalling/artnode.set").run Try.prog w = .ok (88, .pointer (some ⟨g, 0, none⟩)) w := by kernel_rfl
theorem mPSIXset (g : Nat) (w : World) : (method 246 98 (.pointer (some ⟨g, 0, none⟩)) "marshalling/artnode.set").run Try.prog w = .ok (88, .pointer (some ⟨g, 0, none⟩)) w := by kernel_rfl
theorem mPMIDset (g : Nat) (w : World) : (method 246 99 (.pointer (some ⟨g, 0, none⟩)) "marshalling/artnode.set").run Try.prog w = .ok (109, .pointer (some ⟨g, 0, none⟩)) w := by kernel_rfl
theorem mPWHOset (g : Nat) (w : World) : (method 246 104 (.pointer (some ⟨g, 0, none⟩)) "marshalling/artnode.set").run Try.prog w = .ok (114, .pointer (some ⟨g, 0, none⟩)) w := by kernel_rfl
theorem eLset : Enters Try.prog 88 := enters_of Try.func88 (by kernel_rfl) rfl
theorem eMset : Enters Try.prog 109 := enters_of Try.func109 (by kernel_rfl) rfl
theorem eWset : Enters Try.prog 114 := enters_of Try.func114 (by kernel_rfl) rfl
theorem mPFOURdrop (g : Nat) (w : World) : (method 246 73 (.pointer (some ⟨g, 0, none⟩)) "marshalling/artnode.drop").run Try.prog w = .ok (84, .pointer (some ⟨g, 0, none⟩)) w := by kernel_rfl
theorem mPSIXdrop (g : Nat) (w : World) : (method 246 98 (.pointer (some ⟨g, 0, none⟩)) "marshalling/artnode.drop").run Try.prog w = .ok (84, .pointer (some ⟨g, 0, none⟩)) w := by kernel_rfl
theorem mPMIDdrop (g : Nat) (w : World) : (method 246 99 (.pointer (some ⟨g, 0, none⟩)) "marshalling/artnode.drop").run Try.prog w = .ok (105, .pointer (some ⟨g, 0, none⟩)) w := by kernel_rfl
theorem mPWHOdrop (g : Nat) (w : World) : (method 246 104 (.pointer (some ⟨g, 0, none⟩)) "marshalling/artnode.drop").run Try.prog w = .ok (110, .pointer (some ⟨g, 0, none⟩)) w := by kernel_rfl
theorem eLdrop : Enters Try.prog 84 := enters_of Try.func84 (by kernel_rfl) rfl
theorem eMdrop : Enters Try.prog 105 := enters_of Try.func105 (by kernel_rfl) rfl
theorem eWdrop : Enters Try.prog 110 := enters_of Try.func110 (by kernel_rfl) rfl
theorem mPFOURfrom (g : Nat) (w : World) : (method 246 73 (.pointer (some ⟨g, 0, none⟩)) "marshalling/artnode.from").run Try.prog w = .ok (85, .pointer (some ⟨g, 0, none⟩)) w := by kernel_rfl
theorem mPSIXfrom (g : Nat) (w : World) : (method 246 98 (.pointer (some ⟨g, 0, none⟩)) "marshalling/artnode.from").run Try.prog w = .ok (85, .pointer (some ⟨g, 0, none⟩)) w := by kernel_rfl
theorem mPMIDfrom (g : Nat) (w : World) : (method 246 99 (.pointer (some ⟨g, 0, none⟩)) "marshalling/artnode.from").run Try.prog w = .ok (106, .pointer (some ⟨g, 0, none⟩)) w := by kernel_rfl
theorem mPWHOfrom (g : Nat) (w : World) : (method 246 104 (.pointer (some ⟨g, 0, none⟩)) "marshalling/artnode.from").run Try.prog w = .ok (111, .pointer (some ⟨g, 0, none⟩)) w := by kernel_rfl
theorem eLfrom : Enters Try.prog 85 := enters_of Try.func85 (by kernel_rfl) rfl
theorem eMfrom : Enters Try.prog 106 := enters_of Try.func106 (by kernel_rfl) rfl
theorem eWfrom : Enters Try.prog 111 := enters_of Try.func111 (by kernel_rfl) rfl
theorem mPFOURlen (g : Nat) (w : World) : (method 246 73 (.pointer (some ⟨g, 0, none⟩)) "marshalling/artnode.len").run Try.prog w = .ok (87, .pointer (some ⟨g, 0, none⟩)) w := by kernel_rfl
theorem mPSIXlen (g : Nat) (w : World) : (method 246 98 (.pointer (some ⟨g, 0, none⟩)) "marshalling/artnode.len").run Try.prog w = .ok (87, .pointer (some ⟨g, 0, none⟩)) w := by kernel_rfl
theorem mPMIDlen (g : Nat) (w : World) : (method 246 99 (.pointer (some ⟨g, 0, none⟩)) "marshalling/artnode.len").run Try.prog w = .ok (108, .pointer (some ⟨g, 0, none⟩)) w := by kernel_rfl
theorem mPWHOlen (g : Nat) (w : World) : (method 246 104 (.pointer (some ⟨g, 0, none⟩)) "marshalling/artnode.len").run Try.prog w = .ok (113, .pointer (some ⟨g, 0, none⟩)) w := by kernel_rfl
theorem eLlen : Enters Try.prog 87 := enters_of Try.func87 (by kernel_rfl) rfl
theorem eMlen : Enters Try.prog 108 := enters_of Try.func108 (by kernel_rfl) rfl
theorem eWlen : Enters Try.prog 113 := enters_of Try.func113 (by kernel_rfl) rfl
theorem aPFOURPFOUR (v : Value) (w : World) : (Instr.typeAssert (.iface 73 v) 80 73 true).run Try.prog w = .ok (.tuple #[v, .bool true]) w := by kernel_rfl
theorem aPFOURPSIX (v : Value) (w : World) : (Instr.typeAssert (.iface 73 v) 80 98 true).run Try.prog w = .ok (.tuple #[.pointer none, .bool false]) w := by kernel_rfl
theorem aPFOURPMID (v : Value) (w : World) : (Instr.typeAssert (.iface 73 v) 80 99 true).run Try.prog w = .ok (.tuple #[.pointer none, .bool false]) w := by kernel_rfl
theorem aPFOURPWHO (v : Value) (w : World) : (Instr.typeAssert (.iface 73 v) 80 104 true).run Try.prog w = .ok (.tuple #[.pointer none, .bool false]) w := by kernel_rfl
theorem aPSIXPFOUR (v : Value) (w : World) : (Instr.typeAssert (.iface 98 v) 80 73 true).run Try.prog w = .ok (.tuple #[.pointer none, .bool false]) w := by kernel_rfl
theorem aPSIXPSIX (v : Value) (w : World) : (Instr.typeAssert (.iface 98 v) 80 98 true).run Try.prog w = .ok (.tuple #[v, .bool true]) w := by kernel_rfl
theorem aPSIXPMID (v : Value) (w : World) : (Instr.typeAssert (.iface 98 v) 80 99 true).run Try.prog w = .ok (.tuple #[.pointer none, .bool false]) w := by kernel_rfl
theorem aPSIXPWHO (v : Value) (w : World) : (Instr.typeAssert (.iface 98 v) 80 104 true).run Try.prog w = .ok (.tuple #[.pointer none, .bool false]) w := by kernel_rfl
theorem aPMIDPFOUR (v : Value) (w : World) : (Instr.typeAssert (.iface 99 v) 80 73 true).run Try.prog w = .ok (.tuple #[.pointer none, .bool false]) w := by kernel_rfl
theorem aPMIDPSIX (v : Value) (w : World) : (Instr.typeAssert (.iface 99 v) 80 98 true).run Try.prog w = .ok (.tuple #[.pointer none, .bool false]) w := by kernel_rfl
theorem aPMIDPMID (v : Value) (w : World) : (Instr.typeAssert (.iface 99 v) 80 99 true).run Try.prog w = .ok (.tuple #[v, .bool true]) w := by kernel_rfl
theorem aPMIDPWHO (v : Value) (w : World) : (Instr.typeAssert (.iface 99 v) 80 104 true).run Try.prog w = .ok (.tuple #[.pointer none, .bool false]) w := by kernel_rfl
theorem aPWHOPFOUR (v : Value) (w : World) : (Instr.typeAssert (.iface 104 v) 80 73 true).run Try.prog w = .ok (.tuple #[.pointer none, .bool false]) w := by kernel_rfl
theorem aPWHOPSIX (v : Value) (w : World) : (Instr.typeAssert (.iface 104 v) 80 98 true).run Try.prog w = .ok (.tuple #[.pointer none, .bool false]) w := by kernel_rfl
theorem aPWHOPMID (v : Value) (w : World) : (Instr.typeAssert (.iface 104 v) 80 99 true).run Try.prog w = .ok (.tuple #[.pointer none, .bool false]) w := by kernel_rfl
theorem aPWHOPWHO (v : Value) (w : World) : (Instr.typeAssert (.iface 104 v) 80 104 true).run Try.prog w = .ok (.tuple #[v, .bool true]) w := by kernel_rfl

/-- A shape in memory: its kind, the type behind the interface, its block. -/
def Sh (w : World) (Z : Dom) (L : List (Nat × ByteArray)) (k : Nat) (t : TypeId) (g : Nat) : Prop :=
  (k = 4 ∧ t = 73 ∧ LstE w Z 78 g L) ∨ (k = 16 ∧ t = 98 ∧ LstE w Z 101 g L) ∨ (k = 48 ∧ t = 99 ∧ MidE w Z g L) ∨ (k = 256 ∧ t = 104 ∧ WhoE w Z g L)
theorem LstE.no {w w' : World} {Z : Dom} {t : TypeId} {g : Nat} {L : List (Nat × ByteArray)} (h : LstE w Z t g L) (k : Turn No w w') : LstE w' Z t g L := by
  obtain ⟨A, B, ca, cb, h⟩ := h
  exact ⟨A, B, ca, cb, h.no k⟩
theorem Sh.no {w w' : World} {Z : Dom} {k g : Nat} {t : TypeId} {L : List (Nat × ByteArray)} (h : Sh w Z L k t g) (T : Turn No w w') : Sh w' Z L k t g := by
  rcases h with ⟨h1, h2, h⟩ | ⟨h1, h2, h⟩ | ⟨h1, h2, h⟩ | ⟨h1, h2, h⟩
  · exact .inl ⟨h1, h2, h.no T⟩
  · exact .inr (.inl ⟨h1, h2, h.no T⟩)
  · exact .inr (.inr (.inl ⟨h1, h2, h.no T⟩))
  · exact .inr (.inr (.inr ⟨h1, h2, h.no T⟩))
theorem Sh.asc {w : World} {Z : Dom} {k g : Nat} {t : TypeId} {L : List (Nat × ByteArray)} (h : Sh w Z L k t g) : Asc L := by
  rcases h with ⟨_, _, _, _, _, _, h⟩ | ⟨_, _, _, _, _, _, h⟩ | ⟨_, _, _, _, _, _, _, _, _, h⟩ | ⟨_, _, _, h⟩ <;> exact h.asc
theorem Sh.byt {w : World} {Z : Dom} {k g : Nat} {t : TypeId} {L : List (Nat × ByteArray)} (h : Sh w Z L k t g) : Byt L := by
  rcases h with ⟨_, _, _, _, _, _, h⟩ | ⟨_, _, _, _, _, _, h⟩ | ⟨_, _, _, _, _, _, _, _, _, h⟩ | ⟨_, _, _, h⟩ <;> exact h.byt
theorem Sh.mono {w : World} {Z Z' : Dom} {k g : Nat} {t : TypeId} {L : List (Nat × ByteArray)} (h : Sh w Z L k t g) (hz : Z'.le Z) : Sh w Z' L k t g := by
  rcases h with ⟨h1, h2, A, B, ca, cb, h⟩ | ⟨h1, h2, A, B, ca, cb, h⟩ | ⟨h1, h2, P, K, A, B, ca, cb, c, h⟩ | ⟨h1, h2, c, h⟩
  · exact .inl ⟨h1, h2, A, B, ca, cb, h.asc, h.byt, hz.2 _ h.zg, h.ty, h.at_, own_from h.bs hz.1, own_from h.xs hz.1⟩
  · exact .inr (.inl ⟨h1, h2, A, B, ca, cb, h.asc, h.byt, hz.2 _ h.zg, h.ty, h.at_, own_from h.bs hz.1, own_from h.xs hz.1⟩)
  · exact .inr (.inr (.inl ⟨h1, h2, P, K, A, B, ca, cb, c, h.asc, h.byt, hz.2 _ h.zg, h.at_, h.size, h.pl, h.rb, h.rx, own_from h.bs hz.1, own_from h.xs hz.1, h.len, h.le, h.zero, h.some_, h.back⟩))
  · exact .inr (.inr (.inr ⟨h1, h2, c, h.asc, h.byt, hz.2 _ h.zg, h.at_, h.size, h.has, h.thg, h.cnt⟩))
theorem Sh.le {w : World} {Z : Dom} {k g : Nat} {t : TypeId} {L : List (Nat × ByteArray)} (h : Sh w Z L k t g) : L.length ≤ 256 := len_byt h.asc h.byt
/-- A method of a shape, through the interface. -/
structure InvM (t : TypeId) (g : Nat) (name : String) (K : Nat) : Prop where
  m : ∀ w : World, (method 246 t (.pointer (some ⟨g, 0, none⟩)) name).run Try.prog w = .ok (K, .pointer (some ⟨g, 0, none⟩)) w
  ent : Enters Try.prog K
section
variable {w : World} {Z : Dom} {k g : Nat} {t : TypeId} {L : List (Nat × ByteArray)}
theorem Sh.get (h : Sh w Z L k t g) : ∃ K, InvM t g "marshalling/artnode.get" K ∧ ∀ W, Turn No w W → ∀ b : Nat, b < 256 → Calls Try.prog K #[.pointer (some ⟨g, 0, none⟩), .int .u8 (b : Int)] W fun e w' => e = .returned (getV (getC L b)) ∧ Turn No W w' := by
  have hle := h.le
  rcases h with ⟨_, rfl, A, B, ca, cb, h⟩ | ⟨_, rfl, A, B, ca, cb, h⟩ | ⟨_, rfl, P, K, A, B, ca, cb, c, h⟩ | ⟨_, rfl, c, h⟩
  · exact ⟨_, ⟨mPFOURget g, eLget⟩, fun W T b hb => lget_any (h.no T) (by omega) b⟩
  · exact ⟨_, ⟨mPSIXget g, eLget⟩, fun W T b hb => lget_any (h.no T) (by omega) b⟩
  · exact ⟨_, ⟨mPMIDget g, eMget⟩, fun W T b hb => mget_any (h.no T) b hb⟩
  · exact ⟨_, ⟨mPWHOget g, eWget⟩, fun W T b hb => wget_any (h.no T) b hb⟩
theorem Sh.len (h : Sh w Z L k t g) : ∃ K, InvM t g "marshalling/artnode.len" K ∧ ∀ W, Turn No w W → Calls Try.prog K #[.pointer (some ⟨g, 0, none⟩)] W fun e w' => e = .returned (.int .i64 (L.length : Int)) ∧ w' = W := by
  rcases h with ⟨_, rfl, A, B, ca, cb, h⟩ | ⟨_, rfl, A, B, ca, cb, h⟩ | ⟨_, rfl, P, K, A, B, ca, cb, c, h⟩ | ⟨_, rfl, c, h⟩
  · exact ⟨_, ⟨mPFOURlen g, eLlen⟩, fun W T => llen_any (h.no T)⟩
  · exact ⟨_, ⟨mPSIXlen g, eLlen⟩, fun W T => llen_any (h.no T)⟩
  · exact ⟨_, ⟨mPMIDlen g, eMlen⟩, fun W T => mlen_any (h.no T)⟩
  · exact ⟨_, ⟨mPWHOlen g, eWlen⟩, fun W T => wlen_any (h.no T)⟩
theorem Sh.from (h : Sh w Z L k t g) : ∃ K, InvM t g "marshalling/artnode.from" K ∧ ∀ W, Turn No w W → ∀ b : Nat, Calls Try.prog K #[.pointer (some ⟨g, 0, none⟩), .int .i64 (b : Int)] W fun e w' => e = .returned (fromV (nxtC L b)) ∧ Turn No W w' := by
  have hle := h.le
  rcases h with ⟨_, rfl, A, B, ca, cb, h⟩ | ⟨_, rfl, A, B, ca, cb, h⟩ | ⟨_, rfl, P, K, A, B, ca, cb, c, h⟩ | ⟨_, rfl, c, h⟩
  · exact ⟨_, ⟨mPFOURfrom g, eLfrom⟩, fun W T b => lfrom_any (h.no T) (by omega) b⟩
  · exact ⟨_, ⟨mPSIXfrom g, eLfrom⟩, fun W T b => lfrom_any (h.no T) (by omega) b⟩
  · exact ⟨_, ⟨mPMIDfrom g, eMfrom⟩, fun W T b => mfrom_any (h.no T) b⟩
  · exact ⟨_, ⟨mPWHOfrom g, eWfrom⟩, fun W T b => wfrom_any (h.no T) b⟩
theorem Sh.set (h : Sh w Z L k t g) (hz : Z ≤ w.heap.size) : ∃ K, InvM t g "marshalling/artnode.set" K ∧ ∀ W, Turn No w W → ∀ (b : Nat) (x : ByteArray), b < 256 → (getC L b = none → L.length < k) →
    Calls Try.prog K #[.pointer (some ⟨g, 0, none⟩), .int .u8 (b : Int), Value.string x] W fun e w' => e = .returned (.tuple #[]) ∧ Sh w' Z (putC L b x) k t g ∧ Tz Z W w' := by
  have hle := h.le
  rcases h with ⟨rfl, rfl, A, B, ca, cb, h⟩ | ⟨rfl, rfl, A, B, ca, cb, h⟩ | ⟨rfl, rfl, h⟩ | ⟨rfl, rfl, c, h⟩
  · exact ⟨_, ⟨mPFOURset g, eLset⟩, fun W T b x hb hr => (lset_any (h.no T) (by omega) b x hb (Nat.le_trans hz T.size)).mono fun e w' q => ⟨q.1, .inl ⟨rfl, rfl, q.2.1⟩, q.2.2⟩⟩
  · exact ⟨_, ⟨mPSIXset g, eLset⟩, fun W T b x hb hr => (lset_any (h.no T) (by omega) b x hb (Nat.le_trans hz T.size)).mono fun e w' q => ⟨q.1, .inr (.inl ⟨rfl, rfl, q.2.1⟩), q.2.2⟩⟩
  · exact ⟨_, ⟨mPMIDset g, eMset⟩, fun W T b x hb hr => (mset_any (h.no T) b x hb hr (Nat.le_trans hz T.size)).mono fun e w' q => ⟨q.1, .inr (.inr (.inl ⟨rfl, rfl, q.2.1⟩)), q.2.2⟩⟩
  · exact ⟨_, ⟨mPWHOset g, eWset⟩, fun W T b x hb hr => (wset_any (h.no T) b x hb).mono fun e w' q => ⟨q.1, .inr (.inr (.inr ⟨rfl, rfl, q.2.1⟩)), q.2.2⟩⟩
theorem Sh.drop (h : Sh w Z L k t g) : ∃ K, InvM t g "marshalling/artnode.drop" K ∧ ∀ W, Turn No w W → ∀ (b : Nat) (y : ByteArray), b < 256 → getC L b = some y →
    Calls Try.prog K #[.pointer (some ⟨g, 0, none⟩), .int .u8 (b : Int)] W fun e w' => e = .returned (.tuple #[]) ∧ Sh w' Z (delC L b) k t g ∧ Tz Z W w' := by
  have hle := h.le
  rcases h with ⟨rfl, rfl, A, B, ca, cb, h⟩ | ⟨rfl, rfl, A, B, ca, cb, h⟩ | ⟨rfl, rfl, P, K, A, B, ca, cb, c, h⟩ | ⟨rfl, rfl, c, h⟩
  · exact ⟨_, ⟨mPFOURdrop g, eLdrop⟩, fun W T b y hb hr => (ldrop_any (h.no T) (by omega) b y hr).mono fun e w' q => ⟨q.1, .inl ⟨rfl, rfl, q.2.1⟩, q.2.2⟩⟩
  · exact ⟨_, ⟨mPSIXdrop g, eLdrop⟩, fun W T b y hb hr => (ldrop_any (h.no T) (by omega) b y hr).mono fun e w' q => ⟨q.1, .inr (.inl ⟨rfl, rfl, q.2.1⟩), q.2.2⟩⟩
  · exact ⟨_, ⟨mPMIDdrop g, eMdrop⟩, fun W T b y hb hr => (mdrop_any (h.no T) b hb (fun e => by have := h.zero b hb e; rw [this] at hr; cases hr)).mono fun e w' q => ⟨q.1, .inr (.inr (.inl ⟨rfl, rfl, q.2.1⟩)), q.2.2⟩⟩
  · exact ⟨_, ⟨mPWHOdrop g, eWdrop⟩, fun W T b y hb hr => (wdrop_any (h.no T) b hb y hr).mono fun e w' q => ⟨q.1, .inr (.inr (.inr ⟨rfl, rfl, q.2.1⟩)), q.2.2⟩⟩
end
/-- Which type stands for which kind. -/
def KT (k : Nat) (t : TypeId) : Prop := (k = 4 ∧ t = 73) ∨ (k = 16 ∧ t = 98) ∨ (k = 48 ∧ t = 99) ∨ (k = 256 ∧ t = 104)
theorem Sh.kt {w : World} {Z : Dom} {k g : Nat} {t : TypeId} {L : List (Nat × ByteArray)} (h : Sh w Z L k t g) : KT k t := by
  rcases h with ⟨h1, h2, _⟩ | ⟨h1, h2, _⟩ | ⟨h1, h2, _⟩ | ⟨h1, h2, _⟩
  · exact .inl ⟨h1, h2⟩
  · exact .inr (.inl ⟨h1, h2⟩)
  · exact .inr (.inr (.inl ⟨h1, h2⟩))
  · exact .inr (.inr (.inr ⟨h1, h2⟩))
def leastK (k : Nat) : Int := if k = 4 then -1 else if k = 16 then 3 else if k = 48 then 12 else 36
def nextK (k : Nat) : Nat := if k = 4 then 16 else if k = 16 then 48 else 256
def lastK (k : Nat) : Nat := if k = 256 then 48 else if k = 48 then 16 else 4
theorem kindf_any {k : Nat} {t : TypeId} (h : KT k t) (v : Value) (w : World) : Calls Try.prog 39 #[.iface t v] w fun e w' => e = .returned (.int .i64 (k : Int)) ∧ w' = w := by
  have qPFOURPFOUR := aPFOURPFOUR
  have qPFOURPSIX := aPFOURPSIX
  have qPFOURPMID := aPFOURPMID
  have qPFOURPWHO := aPFOURPWHO
  have qPSIXPFOUR := aPSIXPFOUR
  have qPSIXPSIX := aPSIXPSIX
  have qPSIXPMID := aPSIXPMID
  have qPSIXPWHO := aPSIXPWHO
  have qPMIDPFOUR := aPMIDPFOUR
  have qPMIDPSIX := aPMIDPSIX
  have qPMIDPMID := aPMIDPMID
  have qPMIDPWHO := aPMIDPWHO
  have qPWHOPFOUR := aPWHOPFOUR
  have qPWHOPSIX := aPWHOPSIX
  have qPWHOPMID := aPWHOPMID
  have qPWHOPWHO := aPWHOPWHO
  rcases h with ⟨rfl, rfl⟩ | ⟨rfl, rfl⟩ | ⟨rfl, rfl⟩ | ⟨rfl, rfl⟩
  all_goals (go_enter Try.func39, Try.ntmps39)
  all_goals go_wp2
  all_goals go_ret
  all_goals exact ⟨rfl, rfl⟩
theorem leastf_any {k : Nat} {t : TypeId} (h : KT k t) (v : Value) (w : World) : Calls Try.prog 43 #[.iface t v] w fun e w' => e = .returned (.int .i64 (leastK k)) ∧ w' = w := by
  have qPFOURPFOUR := aPFOURPFOUR
  have qPFOURPSIX := aPFOURPSIX
  have qPFOURPMID := aPFOURPMID
  have qPFOURPWHO := aPFOURPWHO
  have qPSIXPFOUR := aPSIXPFOUR
  have qPSIXPSIX := aPSIXPSIX
  have qPSIXPMID := aPSIXPMID
  have qPSIXPWHO := aPSIXPWHO
  have qPMIDPFOUR := aPMIDPFOUR
  have qPMIDPSIX := aPMIDPSIX
  have qPMIDPMID := aPMIDPMID
  have qPMIDPWHO := aPMIDPWHO
  have qPWHOPFOUR := aPWHOPFOUR
  have qPWHOPSIX := aPWHOPSIX
  have qPWHOPMID := aPWHOPMID
  have qPWHOPWHO := aPWHOPWHO
  rcases h with ⟨rfl, rfl⟩ | ⟨rfl, rfl⟩ | ⟨rfl, rfl⟩ | ⟨rfl, rfl⟩
  all_goals (go_enter Try.func43, Try.ntmps43)
  all_goals go_wp2
  all_goals go_ret
  all_goals exact ⟨rfl, rfl⟩
theorem lst_new (w : World) (t : TypeId) (ht : t = 78 ∨ t = 101) : LstE (w.alloc (.cells #[.slice none 0 0, .slice none 0 0] t)) (Dom.of w.heap.size) t w.heap.size [] :=
  ⟨none, none, 0, 0, Asc.nil, fun p hp => (by cases hp), .inl (Nat.le_refl _), ht, At.new w _, World.ownsRow_nil _ _ _ _, World.ownsRow_nil _ _ _ _⟩
theorem zm_list : Try.zeroCells103 = (List.replicate 256 (Value.int .u8 0) ++ [Value.slice none 0 0, Value.slice none 0 0]).toArray := by kernel_rfl
theorem mid_new (w : World) : MidE (w.alloc (.cells Try.zeroCells103 103)) (Dom.of w.heap.size) w.heap.size [] := by
  refine ⟨fun _ => 0, [], none, none, 0, 0, Try.zeroCells103, Asc.nil, fun p hp => (by cases hp), .inl (Nat.le_refl _), At.new w _, ?_, ?_, ?_, ?_, World.ownsRow_nil _ _ _ _, World.ownsRow_nil _ _ _ _, rfl, by decide, fun _ _ _ => rfl, fun i _ h => absurd rfl h, fun j p h => by simp at h⟩
  · rw [zm_list]; simp
  · intro i hi
    rw [zm_list, List.getElem?_toArray, List.getElem?_append_left (by simpa using hi), List.getElem?_replicate, if_pos hi]
    rfl
  · rw [zm_list, List.getElem?_toArray, List.getElem?_append_right (by simp)]
    simp
  · rw [zm_list, List.getElem?_toArray, List.getElem?_append_right (by simp)]
    simp
theorem zw_list : Try.zeroCells107 = (List.replicate 256 (Value.bool false) ++ (List.replicate 256 (Value.string ⟨#[]⟩) ++ [Value.int .i64 0])).toArray := by kernel_rfl
theorem who_new (w : World) : WhoE (w.alloc (.cells Try.zeroCells107 107)) (Dom.of w.heap.size) w.heap.size [] := by
  refine ⟨Try.zeroCells107, Asc.nil, fun p hp => (by cases hp), .inl (Nat.le_refl _), At.new w _, ?_, ?_, ?_, ?_⟩
  · rw [zw_list]; simp
  · intro i hi
    rw [zw_list, List.getElem?_toArray, List.getElem?_append_left (by simpa using hi), List.getElem?_replicate, if_pos hi]
    rfl
  · intro i hi
    rw [zw_list, List.getElem?_toArray, List.getElem?_append_right (by simp), List.getElem?_append_left (by simp; omega), List.getElem?_replicate, if_pos (by simp; omega)]
    rfl
  · rw [zw_list, List.getElem?_toArray, List.getElem?_append_right (by simp), List.getElem?_append_right (by simp)]
    simp
/-- A new shape of the kind k is what the interface holds. -/
structure NewS (k : Nat) (w : World) (e : Ending) (w' : World) : Prop where
  out : ∃ t g, e = .returned (.iface t (.pointer (some ⟨g, 0, none⟩))) ∧ Sh w' (Dom.of w.heap.size) [] k t g ∧ Turn No w w'
theorem new_alloc (w : World) (o : Obj) : Turn No w (w.alloc o) := (Turn.refl No w).alloc o
theorem nextf_any {k : Nat} {t : TypeId} (h : KT k t) (v : Value) (w : World) : Calls Try.prog 42 #[.iface t v] w (NewS (nextK k) w) := by
  have qPFOURPFOUR := aPFOURPFOUR
  have qPFOURPSIX := aPFOURPSIX
  have qPFOURPMID := aPFOURPMID
  have qPFOURPWHO := aPFOURPWHO
  have qPSIXPFOUR := aPSIXPFOUR
  have qPSIXPSIX := aPSIXPSIX
  have qPSIXPMID := aPSIXPMID
  have qPSIXPWHO := aPSIXPWHO
  have qPMIDPFOUR := aPMIDPFOUR
  have qPMIDPSIX := aPMIDPSIX
  have qPMIDPMID := aPMIDPMID
  have qPMIDPWHO := aPMIDPWHO
  have qPWHOPFOUR := aPWHOPFOUR
  have qPWHOPSIX := aPWHOPSIX
  have qPWHOPMID := aPWHOPMID
  have qPWHOPWHO := aPWHOPWHO
  have H1 := Lib.hid (lst_new w 101 (Or.inr rfl))
  have H2 := Lib.hid (mid_new w)
  have H3 := Lib.hid (who_new w)
  rcases h with ⟨rfl, rfl⟩ | ⟨rfl, rfl⟩ | ⟨rfl, rfl⟩ | ⟨rfl, rfl⟩
  all_goals (go_enter Try.func42, Try.ntmps42)
  all_goals go_wp2
  all_goals go_ret
  · exact ⟨_, _, rfl, .inr (.inl ⟨rfl, rfl, H1.out⟩), new_alloc _ _⟩
  · exact ⟨_, _, rfl, .inr (.inr (.inl ⟨rfl, rfl, H2.out⟩)), new_alloc _ _⟩
  · exact ⟨_, _, rfl, .inr (.inr (.inr ⟨rfl, rfl, H3.out⟩)), new_alloc _ _⟩
  · exact ⟨_, _, rfl, .inr (.inr (.inr ⟨rfl, rfl, H3.out⟩)), new_alloc _ _⟩
theorem lastf_any {k : Nat} {t : TypeId} (h : KT k t) (v : Value) (w : World) : Calls Try.prog 44 #[.iface t v] w (NewS (lastK k) w) := by
  have qPFOURPFOUR := aPFOURPFOUR
  have qPFOURPSIX := aPFOURPSIX
  have qPFOURPMID := aPFOURPMID
  have qPFOURPWHO := aPFOURPWHO
  have qPSIXPFOUR := aPSIXPFOUR
  have qPSIXPSIX := aPSIXPSIX
  have qPSIXPMID := aPSIXPMID
  have qPSIXPWHO := aPSIXPWHO
  have qPMIDPFOUR := aPMIDPFOUR
  have qPMIDPSIX := aPMIDPSIX
  have qPMIDPMID := aPMIDPMID
  have qPMIDPWHO := aPMIDPWHO
  have qPWHOPFOUR := aPWHOPFOUR
  have qPWHOPSIX := aPWHOPSIX
  have qPWHOPMID := aPWHOPMID
  have qPWHOPWHO := aPWHOPWHO
  have H0 := Lib.hid (lst_new w 78 (Or.inl rfl))
  have H1 := Lib.hid (lst_new w 101 (Or.inr rfl))
  have H2 := Lib.hid (mid_new w)
  rcases h with ⟨rfl, rfl⟩ | ⟨rfl, rfl⟩ | ⟨rfl, rfl⟩ | ⟨rfl, rfl⟩
  all_goals (go_enter Try.func44, Try.ntmps44)
  all_goals go_wp2
  all_goals go_ret
  · exact ⟨_, _, rfl, .inl ⟨rfl, rfl, H0.out⟩, new_alloc _ _⟩
  · exact ⟨_, _, rfl, .inl ⟨rfl, rfl, H0.out⟩, new_alloc _ _⟩
  · exact ⟨_, _, rfl, .inr (.inl ⟨rfl, rfl, H1.out⟩), new_alloc _ _⟩
  · exact ⟨_, _, rfl, .inr (.inr (.inl ⟨rfl, rfl, H2.out⟩)), new_alloc _ _⟩
end NS
end Go.Proofs.Ytijlcehjlacihaa
