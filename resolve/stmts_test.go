package resolve

import (
	"testing"

	"winnower/api"
)

// P16.2: statements that may not stand everywhere, at each place of a statement.
func TestPlacesOfStatements(t *testing.T) {
	for _, p := range stmtPlaces() {
		for _, row := range []struct {
			text string
			may  bool
		}{
			{"break", p.loop}, {"continue", p.loop}, {"next", p.rule}, {"return", p.function}, {"return v_", p.function},
			{"while (v_) { break }", true}, {"do continue; while (v_)", true}, {"exit", true}, {"exit v_", true}, {"print", true},
		} {
			if row.may {
				isRight(t, p.with(row.text))
			} else {
				faulty(t, api.ErrPlace, p.line, p.with(row.text))
			}
		}
	}
}

// P16.2: the loops of another item are none.
func TestLoopsOfOtherItems(t *testing.T) {
	for _, word := range []string{"break", "continue"} {
		faulty(t, api.ErrPlace, 2, "{ while (1) { f() } }\nfunction f() { "+word+" }")
		faulty(t, api.ErrPlace, 1, "function f() { "+word+" }\n{ for (;;) { f() } }")
		faulty(t, api.ErrPlace, 2, "{ while (1) { "+word+" } }\n{ "+word+" }")
		faulty(t, api.ErrPlace, 3, "BEGIN { while (1) { "+word+" }\nfor (x in t) "+word+"\n"+word+" }")
		isRight(t, "function f() { do { while (1) "+word+"; "+word+" } while (1) } { f() }")
	}
}

// P16.2: what an SIf in a loop has, and what a loop in an SIf has.
func TestNestedPlaces(t *testing.T) {
	// As deep as there may be, with the loop as far out, or in, as can be.
	for _, kind := range []api.StmtKind{api.SBlock, api.SIf} {
		for _, loop := range []api.StmtKind{api.SWhile, api.SDo, api.SFor, api.SForIn} {
			for at := 0; at < mostNest-1; at += 7 {
				for _, inner := range []api.StmtKind{api.SBreak, api.SContinue} {
					deep := api.Stmt{Kind: inner, Line: 70}
					for level := mostNest - 2; level >= 0; level-- {
						outer := api.Stmt{Kind: kind, Line: level}
						switch {
						case level == at:
							outer = loopOf(loop)
						case kind == api.SIf:
							outer.Exprs = []api.Expr{variable("v")}
						}
						if level%2 == 1 && kind == api.SIf && level != at {
							outer.Else = []api.Stmt{deep}
						} else {
							outer.Body = []api.Stmt{deep}
						}
						deep = outer
					}
					if _, fault := held(t, items(begin(deep))); fault != (api.Fault{}) {
						t.Errorf("a loop at %d: %+v", at, fault)
					}
					treeFaulty(t, api.ErrPlace, 70, items(begin(deep, api.Stmt{Kind: inner, Line: 70})))
				}
			}
		}
	}
}

// loopOf tells a loop without a body.
func loopOf(kind api.StmtKind) api.Stmt {
	switch kind {
	case api.SFor:
		return api.Stmt{Kind: kind}
	case api.SForIn:
		return api.Stmt{Kind: kind, S: "v", Exprs: []api.Expr{variable("t")}}
	}
	return stmt(kind, variable("v"))
}

// P16.2: the line is that of the statement, whatever that is.
func TestLinesOfPlaces(t *testing.T) {
	for _, line := range []int{0, -5, 1 << 50, -1 << 63, 1<<63 - 1} {
		for _, kind := range []api.StmtKind{api.SBreak, api.SContinue, api.SNext, api.SReturn} {
			s := api.Stmt{Kind: kind, Line: line}
			it := begin(api.Stmt{Kind: api.SBlock, Line: 4, Body: []api.Stmt{s}})
			it.Line = 3
			treeFaulty(t, api.ErrPlace, line, items(it))
		}
	}
}
