package parse

import (
	"math"
	"math/rand"
	"slices"
	"strconv"
	"strings"
	"sync"

	"winnower/api"
	"winnower/lex"
)

// The chapter's grammar, as data. A rule is told by alternatives (|) of parts:
// words and signs, or rules' names; { } and [ ] as in the chapter, ( ) around
// alternatives; a sign that is one of these behind a backslash. NAME and the like
// are tokens' kinds. A part that begins with a colon asks something (asks): an
// option, a loop and an alternative that begin with one are gone if it holds and
// the next token may stand there; with two colons if it holds. The last of some
// alternatives is gone if none ahead of it is. What ends with a P is in print mode.
const grammarText = `
program = { term } { item { term } } TEnd
item = BEGIN body | END body | function ( FUNC | NAME ) \( [ NAME { , nl NAME } ] \) nl body | body | expr [ , nl expr ] ruleEnd
ruleEnd = body | :bounded
term = TLine | ;
nl = { TLine }
body = \{ { term } stmts
stmts = \} | stmt { term } stmts
stmt = body | if \( expr \) nl part [ ::else { term } else nl part ] | while \( expr \) nl part | do nl part { term } while \( expr \) end | for \( forHead \) nl part | simple end
part = ; | body | stmt
forHead = ::forIn NAME in NAME | forParts
forParts = [ ::part expr ] ; nl [ ::part expr ] ; nl [ ::part expr ]
simple = break | continue | next | exit [ ::open expr ] | return [ ::open expr ] | delete NAME [ \[ list \] ] | print [ ::args args ] [ to ] | printf args [ to ] | expr
args = ::enclosed \( list \) | listP
to = > cat | >> cat | \| cat
end = ; | TLine | :closed
list = expr { , nl expr }
listP = exprP { , nl exprP }
expr = cond [ :lvalue assign expr ]
exprP = condP [ :lvalue assign exprP ]
assign = = | += | -= | *= | /= | %= | ^=
cond = or [ ? nl expr : nl expr ]
condP = orP [ ? nl exprP : nl exprP ]
or = and { || nl and }
orP = andP { || nl andP }
and = among { && nl among }
andP = amongP { && nl amongP }
among = match { in NAME }
amongP = matchP { in NAME }
match = cmp [ ( ~ | !~ ) cmp ]
matchP = cmpP [ ( ~ | !~ ) cmpP ]
cmp = pipe [ ( < | <= | == | != | > | >= ) pipe ]
cmpP = cat [ ( < | <= | == | != | >= ) cat ]
pipe = cat { \| getline [ lvalue ] }
cat = add { :joins add }
add = mul { ( + | - ) mul }
mul = unary { ( * | / | % ) unary }
unary = ! unary | - unary | + unary | post [ ^ power ]
power = - power | + power | ! power | post [ ^ power ]
post = ++ lvalue | -- lvalue | primary [ :lvalue ( ++ | -- ) ]
primary = TNum | TStr | PATTERN | $ place | \( expr groupEnd | NAME [ \[ list \] ] | FUNC \( [ list ] \) | length [ \( [ list ] \) ] | BUILTIN \( [ list ] \) | getline [ lvalue ] [ < primary ]
groupEnd = \) | , nl expr { , nl expr } \) in NAME
place = ++ lvalue | -- lvalue | - place | + place | ! place | primary
lvalue = NAME [ \[ list \] ] | $ place
`

// gram is a part of the grammar.
type gram struct {
	op   byte // a: alternatives; s: a row; [ {: as they stand; r: a rule; t: a token; :: what is asked
	name string
	kids []*gram
}

var grammarRules = sync.OnceValue(func() map[string]*gram {
	rules := map[string]*gram{}
	for line := range strings.Lines(strings.TrimSpace(grammarText)) {
		name, text, _ := strings.Cut(strings.TrimSpace(line), " = ")
		parts := strings.Fields(text)
		rules[name] = readGram(&parts)
	}
	for _, rule := range rules {
		tieGram(rule, rules)
	}
	return rules
})

// readGram reads alternatives, up to what closes them.
func readGram(parts *[]string) *gram {
	all := &gram{op: 'a', kids: []*gram{{op: 's'}}}
	for len(*parts) > 0 {
		part := (*parts)[0]
		*parts = (*parts)[1:]
		row := all.kids[len(all.kids)-1]
		switch {
		case part == "]" || part == "}" || part == ")":
			return all
		case part == "|":
			all.kids = append(all.kids, &gram{op: 's'})
		case part == "(":
			row.kids = append(row.kids, readGram(parts))
		case part == "[" || part == "{":
			row.kids = append(row.kids, &gram{op: part[0], kids: []*gram{readGram(parts)}})
		case len(part) > 1 && part[0] == ':':
			row.kids = append(row.kids, &gram{op: ':', name: part[1:]})
		default:
			row.kids = append(row.kids, &gram{op: 't', name: part})
		}
	}
	return all
}

// tieGram says which names are rules', and takes backslashes away.
func tieGram(g *gram, rules map[string]*gram) {
	if g.op == 't' {
		if rules[g.name] != nil {
			g.op = 'r'
		} else {
			g.name = strings.TrimPrefix(g.name, `\`)
		}
	}
	for _, kid := range g.kids {
		tieGram(kid, rules)
	}
}

// node is what the grammar lets stand: a rule with what is in it, or a token.
type node struct {
	rule  string
	kids  []*node
	token api.Token
}

// model goes through a source by the grammar.
type model struct {
	text  string
	token api.Token
	going int
	limit int // of those that are going on
	most  int // how many there were
	rules map[string]*gram
	row   []*node // what was taken of the rule that is going on
	terms []int   // places at which more terms may stand
	lines []int   // places at which more lines' ends may stand
}

func (m *model) read(at int, re bool) {
	token, fault := lex.Next(m.text, at, re)
	if fault.Err != api.OK {
		panic(fault)
	}
	m.token = token
}

func (m *model) fail(err api.Errno) {
	panic(api.Fault{Err: err, Line: m.token.Line})
}

// fits says whether the token that stands next is one of the grammar's tokens.
func (m *model) fits(name string) bool {
	switch name {
	case "TNum":
		return m.token.Kind == api.TNum
	case "TStr":
		return m.token.Kind == api.TStr
	case "TLine":
		return m.token.Kind == api.TLine
	case "TEnd":
		return m.token.Kind == api.TEnd
	case "NAME":
		return m.token.Kind == api.TName
	case "FUNC":
		return m.token.Kind == api.TFunc
	case "PATTERN":
		return m.token.Kind == api.TSign && (m.token.S == "/" || m.token.S == "/=")
	case "BUILTIN":
		return m.token.Kind == api.TWord && m.token.S != "length" && slices.Contains(builtinWords(), m.token.S)
	}
	return (m.token.Kind == api.TWord || m.token.Kind == api.TSign) && m.token.S == name
}

// begun is what is asked of the begin of something.
type begun struct {
	g    *gram
	kind api.TokKind
	s    string
}

// begunOnce keeps what was told of it.
var begunOnce = sync.OnceValue(func() map[begun][2]bool { return map[begun][2]bool{} })

// begins says whether the next token may stand at the begin of something, and
// whether that may be nothing.
func (m *model) begins(g *gram) (begins, nothing bool) {
	key := begun{g: g, kind: m.token.Kind}
	if key.kind == api.TWord || key.kind == api.TSign {
		key.s = m.token.S
	}
	known, ok := begunOnce()[key]
	if !ok {
		known[0], known[1] = m.beginsAnew(g)
		begunOnce()[key] = known
	}
	return known[0], known[1]
}

func (m *model) beginsAnew(g *gram) (begins, nothing bool) {
	switch g.op {
	case 't':
		return m.fits(g.name), false
	case 'r':
		return m.begins(m.rules[g.name])
	case ':':
		return false, true
	case '[', '{':
		begins, _ = m.begins(g.kids[0])
		return begins, true
	case 'a':
		for _, kid := range g.kids {
			b, n := m.begins(kid)
			begins, nothing = begins || b, nothing || n
		}
		return begins, nothing
	}
	for _, kid := range g.kids {
		b, n := m.begins(kid)
		if begins = begins || b; begins || !n {
			return begins, false
		}
	}
	return false, true
}

// chosen says whether a row is gone where it need not be.
func (m *model) chosen(row *gram) bool {
	if first := row.kids[0]; first.op == ':' {
		force := first.name[0] == ':'
		if !m.asks(strings.TrimPrefix(first.name, ":")) {
			return false
		}
		if force || len(row.kids) == 1 {
			return true
		}
	}
	begins, _ := m.begins(row)
	return begins
}

func (m *model) anyChosen(g *gram) bool {
	for _, row := range g.kids {
		if m.chosen(row) {
			return true
		}
	}
	return false
}

func (m *model) do(g *gram) {
	switch g.op {
	case 's':
		for _, kid := range g.kids {
			m.do(kid)
		}
	case 'a':
		for i, row := range g.kids {
			if i == len(g.kids)-1 || m.chosen(row) {
				m.do(row)
				return
			}
		}
	case '[':
		if m.anyChosen(g.kids[0]) {
			m.do(g.kids[0])
		}
	case '{':
		for m.anyChosen(g.kids[0]) {
			m.do(g.kids[0])
		}
		if row := g.kids[0].kids[0]; len(row.kids) == 1 && row.kids[0].name == "term" {
			m.terms = append(m.terms, m.token.At)
		} else if len(row.kids) == 1 && row.kids[0].name == "TLine" {
			m.lines = append(m.lines, m.token.At)
		}
	case ':':
		if (g.name == "bounded" || g.name == "closed") && !m.asks(g.name) {
			m.fail(api.ErrSyntax)
		}
	case 't':
		m.take(g.name)
	case 'r':
		m.row = append(m.row, m.rule(g.name))
	}
}

func (m *model) take(name string) {
	if !m.fits(name) {
		m.fail(api.ErrSyntax)
	}
	if name == "TNum" && math.IsInf(modelNumber(m.token.S), 0) {
		m.fail(api.ErrSyntax)
	}
	if name == "PATTERN" {
		m.read(m.token.At, true)
	}
	m.row = append(m.row, &node{token: m.token})
	m.read(m.token.End, false)
}

func modelNumber(s string) float64 {
	f, _ := strconv.ParseFloat(s, 64)
	return f
}

// rule goes by a rule.
func (m *model) rule(name string) *node {
	counts := slices.Contains([]string{"expr", "unary", "power", "place", "stmt"}, strings.TrimSuffix(name, "P"))
	if counts {
		if m.going == m.limit {
			m.fail(api.ErrNested)
		}
		m.going++
		m.most = max(m.most, m.going)
		defer func() { m.going-- }()
	}
	around := m.row
	defer func() { m.row = around }()
	m.row = nil
	m.do(m.rules[name])
	return &node{rule: name, kids: m.row}
}

// ahead says whether something holds of what stands ahead; nothing of it is taken.
func (m *model) ahead(holds func() bool) (ok bool) {
	from := *m
	defer func() {
		if fault := recover(); fault != nil {
			_ = fault.(api.Fault)
			ok = false
		}
		*m = from
	}()
	return holds()
}

func (m *model) oneOf(names string) bool {
	return slices.ContainsFunc(strings.Fields(names), m.fits)
}

func (m *model) asks(what string) bool {
	const ends = "; TLine } TEnd"
	switch what {
	case "bounded":
		return m.oneOf("; TLine TEnd")
	case "closed":
		return m.oneOf("} TEnd")
	case "open":
		return !m.oneOf(ends)
	case "part":
		return !m.oneOf("; )")
	case "args":
		return !m.oneOf(ends + " > >> |")
	case "joins":
		return m.oneOf("TNum TStr NAME FUNC length BUILTIN $ (")
	case "lvalue":
		return isModelLvalue(m.row[len(m.row)-1])
	case "else":
		return m.ahead(func() bool {
			for m.oneOf("; TLine") {
				m.read(m.token.End, false)
			}
			return m.fits("else")
		})
	case "forIn":
		return m.ahead(func() bool {
			m.take("NAME")
			m.take("in")
			m.take("NAME")
			return m.fits(")")
		})
	case "enclosed":
		return m.ahead(func() bool {
			m.take("(")
			m.rule("list")
			m.take(")")
			return m.oneOf(ends + " > >> |")
		})
	}
	panic("asks " + what)
}

// isModelLvalue says whether what was taken is an lvalue and nothing else, by
// rules that have but one thing in them.
func isModelLvalue(n *node) bool {
	for n.rule != "primary" {
		if len(n.kids) != 1 || n.rule == "" {
			return false
		}
		n = n.kids[0]
	}
	first := n.kids[0].token
	return first.Kind == api.TName || first.Kind == api.TSign && first.S == "$"
}

// modelTree tells what stands in a source by the grammar, or the first fault.
func modelTree(text string) (*model, *node, api.Fault) {
	return modelTreeOf(text, mostAtOnce)
}

// mostAtOnce is how many expr, unary, power, place and stmt may be going on, as
// the chapter has it.
const mostAtOnce = 300

func modelTreeOf(text string, limit int) (m *model, tree *node, fault api.Fault) {
	defer func() {
		if up := recover(); up != nil {
			tree, fault = nil, up.(api.Fault)
		}
	}()
	m = &model{text: text, limit: limit, rules: grammarRules()}
	m.read(0, false)
	return m, m.rule("program"), api.Fault{}
}

// modelParse tells what Parse shall tell.
func modelParse(text string) (api.Program, api.Fault) {
	_, tree, fault := modelTree(text)
	if fault != (api.Fault{}) {
		return api.Program{}, fault
	}
	p := modelProgram(tree)
	size, depth := modelSize(p)
	tooMuch := size > mostNodes || depth > mostNest
	for _, item := range p.Items {
		tooMuch = tooMuch || len(item.Params) > mostParams
	}
	if tooMuch {
		return api.Program{}, api.Fault{Err: api.ErrNested}
	}
	return p, api.Fault{}
}

// sentences tells sources by the grammar, as it lets things stand.
type sentences struct {
	*rand.Rand
	tokens []string
}

// say tells tokens of something, with fewer choices the deeper it is.
func (s *sentences) say(g *gram, depth int) {
	rules := grammarRules()
	switch g.op {
	case 's':
		for _, kid := range g.kids {
			s.say(kid, depth)
		}
	case 'a':
		rows := g.kids
		if depth > 30 && len(rows) > 4 {
			rows = rows[:2]
		}
		s.say(rows[s.Intn(len(rows))], depth+1)
	case '[', '{':
		for s.Intn(3+depth/8) == 0 {
			s.say(g.kids[0], depth+1)
			if g.op == '[' {
				break
			}
		}
	case 'r':
		switch {
		case depth > 30 && (g.name == "primary" || g.name == "place" || g.name == "lvalue"):
			s.tokens = append(s.tokens, s.one("a", "b", "c"))
		case depth > 30 && (g.name == "stmt" || g.name == "simple"):
			s.tokens = append(s.tokens, "next")
			s.tokens = append(s.tokens, ";")
		case depth > 30 && g.name == "stmts":
			s.tokens = append(s.tokens, "}")
		default:
			s.say(rules[g.name], depth+1)
		}
	case 't':
		s.tokens = append(s.tokens, s.token(g.name))
	}
}

func (s *sentences) one(some ...string) string {
	return some[s.Intn(len(some))]
}

func (s *sentences) token(name string) string {
	switch name {
	case "TNum":
		return s.one("0", "1", "2.5", ".5e1", "7.", "1e3")
	case "TStr":
		return s.one(`""`, `"a"`, `"x\n\"y"`, `"/"`)
	case "TLine":
		return "\n"
	case "TEnd":
		return ""
	case "NAME":
		return s.one("a", "b", "c", "t", "NF")
	case "FUNC":
		return s.one("f(", "g(")
	case "PATTERN":
		return s.one("/a/", "/=/", `/\/\\/`, "//", "/a b/")
	case "BUILTIN":
		return s.one("substr", "close", "rand", "gsub", "match")
	}
	return name
}

// source tells the source of tokens with blanks between. A name right ahead of a
// ( has it in it.
func source(tokens []string) string {
	var text strings.Builder
	skip := false
	for _, token := range tokens {
		if skip && token == "(" {
			skip = false
			continue
		}
		skip = strings.HasSuffix(token, "(") && len(token) > 1
		text.WriteString(token)
		text.WriteString(" ")
	}
	return text.String()
}
