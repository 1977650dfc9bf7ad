package nodes

import (
	"math"
	"slices"
	"strings"
	"testing"

	"winnower/api"
)

// exprCase is a kind, as the chapter's table has it.
type exprCase struct {
	kind        api.ExprKind
	says        []string // an S that it may have; none: all of some other ones are tried
	least, most int      // kids
	lvalue      bool
}

const many = math.MaxInt

// exprCases are the kinds whose N is 0 and whose S, of some, may be told; what
// XStr and XRe may say is asked elsewhere.
func exprCases() []exprCase {
	empty, names := []string{""}, goodNames()
	return []exprCase{
		{api.XNum, empty, 0, 0, false},
		{api.XVar, names, 0, 0, false},
		{api.XIndex, names, 1, many, false},
		{api.XField, empty, 1, 1, false},
		{api.XAssign, signsOf(api.XAssign), 2, 2, true},
		{api.XCond, empty, 3, 3, false},
		{api.XOr, empty, 2, 2, false},
		{api.XAnd, empty, 2, 2, false},
		{api.XNot, empty, 1, 1, false},
		{api.XIn, names, 1, many, false},
		{api.XMatch, signsOf(api.XMatch), 2, 2, false},
		{api.XCmp, signsOf(api.XCmp), 2, 2, false},
		{api.XCat, empty, 2, 2, false},
		{api.XBin, signsOf(api.XBin), 2, 2, false},
		{api.XNeg, empty, 1, 1, false},
		{api.XPlus, empty, 1, 1, false},
		{api.XPre, signsOf(api.XPre), 1, 1, true},
		{api.XPost, signsOf(api.XPost), 1, 1, true},
		{api.XCall, names, 0, many, false},
		{api.XBuiltin, builtinWords(), 0, many, false},
	}
}

// allTexts are all S that a kind names, and others.
func allTexts() []string {
	texts := append(append(goodNames(), badNames()...), "++ ", " +", "+++", "===", "!", "&&", "||", "?", "$", "-+", "=+", "**", "~~", "length ", "<>", "=<", ",")
	for kind := range api.ExprKind(24) {
		for _, s := range signsOf(kind) {
			if !slices.Contains(texts, s) {
				texts = append(texts, s)
			}
		}
	}
	return texts
}

// values are so many expressions, the first of which is an lvalue.
func values(n int) []api.Expr {
	return of(n, variable("v"))
}

// P13.1: each kind with each S, and with each number of kids.
func TestEachKind(t *testing.T) {
	texts := allTexts()
	for _, c := range exprCases() {
		for _, s := range texts {
			for kids := range 6 {
				want := slices.Contains(c.says, s) && kids >= c.least && kids <= c.most
				if got := Expr(expr(c.kind, s, values(kids)...)); got != want {
					t.Errorf("kind %d, %q, %d kids: %v", c.kind, s, kids, got)
				}
			}
		}
		for _, s := range c.says {
			least := expr(c.kind, s, values(c.least)...)
			exprIs(t, least, true)
			exprIs(t, expr(c.kind, s, append(values(c.least), number(1))...), c.most > c.least)
			if c.least > 0 {
				exprIs(t, expr(c.kind, s, values(c.least-1)...), false)
				exprIs(t, expr(c.kind, s), false)
			}
		}
		if c.most == many {
			exprIs(t, expr(c.kind, c.says[0], values(1000)...), true)
		}
	}
}

// P13.1: an N other than 0, where the row names none.
func TestUnnamedN(t *testing.T) {
	cases := append(exprCases(), exprCase{api.XStr, []string{"", "a"}, 0, 0, false}, exprCase{api.XRe, []string{"", "a"}, 0, 0, false})
	for _, c := range cases {
		if c.kind == api.XNum {
			continue
		}
		for _, s := range c.says {
			e := expr(c.kind, s, values(c.least)...)
			for _, n := range []uint64{1, 2, 3, 8, 9, 10, 11, 1 << 32, 1 << 63, api.NaN, math.MaxUint64} {
				e.N = n
				exprIs(t, e, false)
			}
			e.N = 0
			exprIs(t, e, true)
		}
	}
}

// P13.1: kinds that the table does not have.
func TestUnknownKinds(t *testing.T) {
	for kind := range 256 {
		if kind >= 1 && kind <= 23 {
			continue
		}
		for kids := range 4 {
			for _, s := range []string{"", "x", "+", "=", "length"} {
				for _, n := range []uint64{0, 1, 2, 9, 10} {
					exprIs(t, api.Expr{Kind: api.ExprKind(kind), S: s, N: n, Kids: values(kids)}, false)
				}
			}
		}
	}
	exprIs(t, api.Expr{}, false)
	below := 0
	exprIs(t, api.Expr{Kind: api.ExprKind(below - 1)}, false)
}

// P13.1: the bits of a number that is 0 or above, its sign not set, and finite.
func TestNumbers(t *testing.T) {
	for _, f := range []float64{0, 1, 0.5, 10, 1e300, math.Pi, math.SmallestNonzeroFloat64, 0x1p-1022, math.MaxFloat64} {
		exprIs(t, number(f), true)
		exprIs(t, number(math.Copysign(f, -1)), false)
	}
	for _, f := range []float64{math.Inf(1), math.Inf(-1), math.NaN(), -1e-300, -1} {
		exprIs(t, number(f), false)
	}
	for bit := range 64 {
		n := uint64(1) << bit
		exprIs(t, api.Expr{Kind: api.XNum, N: n}, bit < 63)
		exprIs(t, api.Expr{Kind: api.XNum, N: 1<<63 | n}, false)
		exprIs(t, api.Expr{Kind: api.XNum, N: 0x7ff<<52 | n}, false)
		exprIs(t, api.Expr{Kind: api.XNum, N: 0x7fe<<52 | n&^(1<<52)}, bit < 63)
	}
	for _, n := range []uint64{api.NaN, api.NaN | 1<<63, 0x7ff<<52 - 1, 0x7ff << 52, 0x7ff<<52 + 1, 1<<63 - 1, 1 << 63, 1<<63 + 1, 0xfff << 52, math.MaxUint64} {
		exprIs(t, api.Expr{Kind: api.XNum, N: n}, n == 0x7ff<<52-1)
	}
	exprIs(t, api.Expr{Kind: api.XNum, N: 1, S: "1"}, false)
	exprIs(t, api.Expr{Kind: api.XNum, N: 1, Kids: values(1)}, false)
}

// P13.1: a text's S is any bytes.
func TestTexts(t *testing.T) {
	for _, s := range append(allTexts(), "\n", "\x00", "\xff", "\\", "\"", "a\nb\x00c\xffd", strings.Repeat("\n\x00", 1<<17)) {
		exprIs(t, expr(api.XStr, s), true)
		exprIs(t, expr(api.XStr, s, number(1)), false)
	}
	for b := range 256 {
		exprIs(t, expr(api.XStr, string([]byte{byte(b)})), true)
	}
}

// P13.1: a pattern's S is without a byte 10, and each of its backslashes has a
// byte behind it, which is no slash.
func TestPatterns(t *testing.T) {
	for _, s := range []string{"", "/", "//", "a/b", `\\`, `\\\\`, `\\/`, `\\//`, `/\\`, `\.`, `a\.b`, `\n`, `\\n`, `[\]]`, `\\\n`, `\"`, "\x00", "\xff", "\\\x00", "\\\xff", "\r", "\\\r", "((", `\ `, strings.Repeat(`\\`, 1<<17), strings.Repeat("/", 1<<17)} {
		exprIs(t, expr(api.XRe, s), true)
		exprIs(t, expr(api.XRe, s, number(1)), false)
	}
	for _, s := range []string{"\n", "a\n", "\na", "a\nb", `\`, `a\`, `\\\`, `a\\\`, `\/`, `a\/b`, `\\\/`, `\\\\\/`, "\\\n", "\\\\\n", "/\\", `\.\`, `\/\\`, `\\\/\\`, strings.Repeat(`\`, 1<<17+1), strings.Repeat("a", 1<<17) + "\n"} {
		exprIs(t, expr(api.XRe, s), false)
	}
	for b := range 256 {
		one := string([]byte{byte(b)})
		exprIs(t, expr(api.XRe, one), b != '\n' && b != '\\')
		exprIs(t, expr(api.XRe, "\\"+one), b != '\n' && b != '/')
		exprIs(t, expr(api.XRe, "\\\\"+one), b != '\n' && b != '\\')
	}
}

// P13.1: all short patterns of some bytes.
func TestShortPatterns(t *testing.T) {
	list := []string{""}
	for range 7 {
		var longer []string
		for _, s := range list {
			if got := Expr(expr(api.XRe, s)); got != modelPattern(s) {
				t.Errorf("pattern %q: %v", s, got)
			}
			for _, c := range []string{"\\", "/", "\n", "a", "\xc3"} {
				longer = append(longer, s+c)
			}
		}
		list = longer
	}
}

// P13.1: names where an expression has one.
func TestNamesOfExprs(t *testing.T) {
	longGood, longBad := longNames()
	for kind, kids := range map[api.ExprKind]int{api.XVar: 0, api.XIndex: 1, api.XIn: 2, api.XCall: 1} {
		for _, name := range append(goodNames(), longGood...) {
			exprIs(t, expr(kind, name, values(kids)...), true)
		}
		for _, name := range append(badNames(), longBad...) {
			exprIs(t, expr(kind, name, values(kids)...), false)
		}
		for _, word := range append(builtinWords(), otherWords()...) {
			exprIs(t, expr(kind, word, values(kids)...), false)
			for _, name := range []string{word + "s", word + "_", word + "0", "_" + word, strings.ToUpper(word[:1]) + word[1:] + "x"} {
				exprIs(t, expr(kind, name, values(kids)...), true)
			}
		}
	}
	for b := range 256 {
		one := string([]byte{byte(b)})
		exprIs(t, variable(one), modelName(one))
		exprIs(t, variable("a"+one), modelName("a"+one))
		exprIs(t, variable("a"+one+"z"), modelName("a"+one+"z"))
	}
}

// atoms are one expression of each kind, right ones.
func atoms() []api.Expr {
	one, v := number(1), variable("v")
	return []api.Expr{
		one, expr(api.XStr, "v"), expr(api.XRe, "v"), v, expr(api.XIndex, "t", one), expr(api.XField, "", one),
		expr(api.XAssign, "=", v, one), expr(api.XCond, "", one, v, one), expr(api.XOr, "", v, v), expr(api.XAnd, "", v, v), expr(api.XNot, "", v),
		expr(api.XIn, "t", one), expr(api.XMatch, "~", v, v), expr(api.XCmp, "<", v, v), expr(api.XCat, "", v, v), expr(api.XBin, "+", v, v),
		expr(api.XNeg, "", v), expr(api.XPlus, "", v), expr(api.XPre, "++", v), expr(api.XPost, "--", v), expr(api.XCall, "f", v), expr(api.XBuiltin, "length", v), getline(9, v),
	}
}

// wrongAtoms are expressions that are not right, each by one thing.
func wrongAtoms() []api.Expr {
	one, v := number(1), variable("v")
	return []api.Expr{
		{}, {Kind: 24}, number(-1), number(math.Inf(1)), expr(api.XRe, "\\"), variable("in"), variable(""), expr(api.XIndex, "t"), expr(api.XField, ""), expr(api.XField, "x", one),
		expr(api.XAssign, "=", one, v), expr(api.XCond, "", v, v), expr(api.XIn, "in", one), expr(api.XBin, "++", v, v), expr(api.XNot, "", v, v), expr(api.XBuiltin, "sin", v), getline(4), getline(1, v),
		{Kind: api.XStr, N: 1}, {Kind: api.XVar, S: "v", Kids: []api.Expr{v}}, expr(api.XNeg, "", expr(api.XNeg, "")), expr(api.XField, "", variable("print")), expr(api.XIndex, "t", expr(api.XPre, "++", one)),
	}
}

// P13.1: where an lvalue must stand there is one, a right one.
func TestLvalues(t *testing.T) {
	around := func(e api.Expr) []api.Expr {
		one := number(1)
		outer := []api.Expr{getline(9, e), getline(10, e, one), getline(11, e, one)}
		for _, kind := range []api.ExprKind{api.XAssign, api.XPre, api.XPost} {
			for _, s := range signsOf(kind) {
				kids := []api.Expr{e}
				if kind == api.XAssign {
					kids = append(kids, one)
				}
				outer = append(outer, expr(kind, s, kids...))
			}
		}
		return outer
	}
	if len(atoms()) != 23 {
		t.Error(len(atoms()))
	}
	for i, e := range atoms() {
		if e.Kind != api.ExprKind(i+1) {
			t.Errorf("%s at %d", brief(e), i)
		}
		exprIs(t, e, true)
		lvalue := e.Kind == api.XVar || e.Kind == api.XIndex || e.Kind == api.XField
		for _, outer := range around(e) {
			exprIs(t, outer, lvalue)
		}
		// Where none must stand, and as the second kid, each kind may be.
		for _, s := range signsOf(api.XAssign) {
			exprIs(t, expr(api.XAssign, s, variable("v"), e), true)
		}
		for _, n := range []uint64{2, 3} {
			exprIs(t, getline(n, e), true)
			exprIs(t, getline(n|8, variable("v"), e), true)
		}
	}
	for _, e := range wrongAtoms() {
		exprIs(t, e, false)
		for _, outer := range around(e) {
			exprIs(t, outer, false)
		}
	}
}

// P13.1: a getline of each N, with each number of kids.
func TestGetlines(t *testing.T) {
	kids := map[uint64]int{1: 0, 2: 1, 3: 1, 9: 1, 10: 2, 11: 2}
	for n := -1; n <= 20; n++ {
		for count := range 5 {
			want, ok := kids[uint64(n)]
			exprIs(t, getline(uint64(n), values(count)...), ok && want == count)
		}
	}
	for _, n := range []uint64{1 << 8, 1<<8 | 1, 1<<32 | 2, 1 << 63, 1<<63 | 1, math.MaxUint64} {
		for count := range 3 {
			exprIs(t, getline(n, values(count)...), false)
		}
	}
	for n, count := range kids {
		for _, s := range []string{"x", "getline", "<", "|", " "} {
			e := getline(n, values(count)...)
			e.S = s
			exprIs(t, e, false)
		}
	}
}

// P13.1: a kid that is not right, at each place.
func TestWrongKids(t *testing.T) {
	for _, wrong := range wrongAtoms() {
		for _, c := range exprCases() {
			for count := c.least; count <= min(c.most, 4); count++ {
				for at := range count {
					kids := values(count)
					kids[at] = wrong
					exprIs(t, expr(c.kind, c.says[0], kids...), false)
				}
			}
		}
		for _, n := range []uint64{2, 3, 10, 11} {
			kids := values(int(n>>3) + 1)
			kids[len(kids)-1] = wrong
			exprIs(t, getline(n, kids...), false)
		}
		// Deep within, too.
		deep := wrong
		for range 20 {
			deep = expr(api.XCat, "", number(1), expr(api.XCall, "f", values(1)[0], deep, number(2)))
		}
		exprIs(t, deep, false)
	}
}
