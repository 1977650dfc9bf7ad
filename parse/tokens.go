package parse

import (
	"winnower/api"
	"winnower/lex"
)

// mark is what rules ask of a token: its kind and, of a word and a sign alone,
// what it says.
type mark struct {
	kind api.TokKind
	s    string
}

func sign(s string) mark {
	return mark{api.TSign, s}
}

func word(s string) mark {
	return mark{api.TWord, s}
}

func other(kind api.TokKind) mark {
	return mark{kind: kind}
}

// state is how far a parser has come.
type state struct {
	token    api.Token // the one that is looked at: it was read, and is not taken yet
	going    int       // how many rules that count are going on
	printing bool      // whether it is in print mode
}

// next is the mark of the token that is looked at.
func (p *parser) next() mark {
	if p.token.Kind == api.TSign || p.token.Kind == api.TWord {
		return mark{p.token.Kind, p.token.S}
	}
	return other(p.token.Kind)
}

// read looks at the token that stands from a place on.
func (p *parser) read(at int, patterns bool) {
	token, fault := lex.Next(p.text, at, patterns)
	if fault.Err != api.OK {
		panic(fault)
	}
	p.token = token
}

// take tells the token that is looked at, and looks at the one behind it.
func (p *parser) take() api.Token {
	taken := p.token
	p.read(taken.End, false)
	return taken
}

// takes takes a token, if it stands next.
func (p *parser) takes(m mark) bool {
	if p.next() != m {
		return false
	}
	p.take()
	return true
}

// must takes a token that has to stand next.
func (p *parser) must(m mark) api.Token {
	if p.next() != m {
		p.fail(api.ErrSyntax)
	}
	return p.take()
}

func (p *parser) name() string {
	return p.must(other(api.TName)).S
}

// lines takes lines' ends, as many as stand there.
func (p *parser) lines() {
	for p.next() == other(api.TLine) {
		p.take()
	}
}

func (p *parser) isTerm() bool {
	return p.next() == other(api.TLine) || p.next() == sign(";")
}

func (p *parser) terms() {
	for p.isTerm() {
		p.take()
	}
}

func (p *parser) isEnd() bool {
	return p.isTerm() || p.next() == sign("}") || p.next() == other(api.TEnd)
}

// end takes the end of a statement. What ends more than it stays.
func (p *parser) end() {
	switch {
	case p.isTerm():
		p.take()
	case !p.isEnd():
		p.fail(api.ErrSyntax)
	}
}

// fail lets a fault at the token that is looked at go up.
func (p *parser) fail(err api.Errno) {
	panic(api.Fault{Err: err, Line: p.token.Line})
}

// caught does something, and tells the fault that comes up from it, if one does.
func caught(do func()) (fault api.Fault) {
	defer func() {
		if up := recover(); up != nil {
			// All else would be a mistake of this package, and shall not be
			// taken for a fault of the source.
			fault = up.(api.Fault)
		}
	}()
	do()
	return api.Fault{}
}

// fits says whether what is looked at ahead fits. If not, nothing of it is taken.
func (p *parser) fits(ahead func() bool) bool {
	from, fit := p.state, false
	// A fault that comes up on the way leaves it false.
	caught(func() { fit = ahead() })
	if !fit {
		p.state = from
	}
	return fit
}
