package parse

import (
	"math/rand"
	"slices"
	"strings"
	"testing"

	"winnower/api"
)

// sentence tells the tokens of a source by the grammar.
func sentence(r *rand.Rand) []string {
	s := &sentences{Rand: r}
	s.say(grammarRules()["program"], 0)
	return s.tokens
}

// P14.1: sources by the grammar. Not all are right: it lets things stand that
// would be taken by others.
func TestSentences(t *testing.T) {
	r := seeded()
	right, wrong := 0, 0
	for range 12000 {
		text := source(sentence(r))
		if _, fault := held(t, text); fault.Err == api.OK {
			right++
		} else {
			wrong++
		}
		if t.Failed() {
			return
		}
	}
	if right < 8000 || wrong < 500 {
		t.Errorf("%d are right, %d wrong", right, wrong)
	}
}

// someTokens are tokens of all kinds, what is none, and what is not finite.
func someTokens() []string {
	return []string{"a", "f(", "1", `"s"`, "/", "/=", "/r/", "\n", ";", "{", "}", "(", ")", "[", "]", ",", "+", "-", "!", "++", "*", "^", "<", ">", ">>", "|", "||", "&&", "~", "==", "?", ":", "=", "+=", "$", "in", "getline", "length", "substr", "print", "printf", "if", "else", "while", "do", "for", "next", "exit", "return", "delete", "function", "BEGIN", "END", "@", `"open`, "1e999", "# remark\n", "\\\n"}
}

// P14.1: the same with some tokens gone, doubled, in other places, or others in
// their place.
func TestTurnedSentences(t *testing.T) {
	r := seeded()
	right := 0
	const rounds = 30000
	for range rounds {
		tokens := sentence(r)
		for range 1 + r.Intn(3) {
			at := r.Intn(len(tokens))
			switch some := someTokens(); r.Intn(5) {
			case 0:
				tokens = slices.Delete(tokens, at, at+1)
			case 1:
				tokens = slices.Insert(tokens, at, tokens[at])
			case 2:
				tokens = slices.Insert(tokens, at, some[r.Intn(len(some))])
			case 3:
				tokens[at] = some[r.Intn(len(some))]
			case 4:
				other := r.Intn(len(tokens))
				tokens[at], tokens[other] = tokens[other], tokens[at]
			}
			if len(tokens) == 0 {
				tokens = []string{";"}
			}
		}
		if _, fault := held(t, source(tokens)); fault.Err == api.OK {
			right++
		}
		if t.Failed() {
			return
		}
	}
	if right < rounds/20 || right > rounds*19/20 {
		t.Errorf("%d of %d are right", right, rounds)
	}
}

// rulesSources are sources that have each rule of the grammar, and each of its
// alternatives, in few tokens.
func rulesSources() []string {
	return []string{
		"; \n a \n ; b , \n c { d } { e } BEGIN { } END { } ;",
		"function f ( a , \n b ) \n { return a } function f( ) { }",
		"BEGIN { ; a ; b \n ; { c } } a , b",
		"{ if ( a ) \n b ; else \n { c } if ( d ) ; }",
		"{ if ( a ) { b } \n ; else if ( c ) d }",
		"{ while ( a ) \n b \n while ( c ) ; while ( d ) { } }",
		"{ do \n a ; \n while ( b ) ; do { c } while ( d ) \n do ; while ( e ) }",
		"{ for ( a in b ) \n c ; for ( a in b ; ; ) { } }",
		"{ for ( a ; \n b ; \n c ) \n d ; for ( ; ; ) ; }",
		"{ for ( ( a , b ) in c ; d in e ; ) ; for ( ( a in b ) ; ; c ) { } }",
		"{ break ; continue \n next ; exit ; exit a \n return ; return b }",
		"{ delete a ; delete a [ b ] \n delete a [ b , \n c ] }",
		"{ print ; print a ; print a , \n b ; print ( a , \n b ) ; print ( a ) b }",
		"{ print a > b ; print ( a , b ) >> c d \n print | e ; print ( a ) ( b ) > c }",
		"{ print ( a , b ) in c ; print ( a > b ) > c ; print a , ( b | getline ) | c }",
		"{ printf a ; printf ( a , b ) ; printf a , b > c ; printf ( a ) | b c }",
		"{ a = b += c ; $ a -= b [ c ] *= d \n a /= b %= c ^= d }",
		"{ a ? \n b : \n c ; a || \n b && \n c ; a in b in c }",
		"{ a ~ b ; a !~ b ; a < b ; a <= b ; a == b ; a != b ; a > b ; a >= b }",
		`{ a | getline ; a b | getline c | getline $ d ; getline ; getline a ; getline a < b ; getline < "f" }`,
		"{ a b 1 \"s\" f( a ) substr ( a ) length $ b ( c ) }",
		"{ a + b - c * d / e % - f ^ - ! g ^ h }",
		"{ ! - + a ; ++ a ; -- $ b ; a ++ ; $ b -- ; a [ b ] ++ }",
		"{ /a/ ; a ~ /=/ ; ! /b/ ; a / b / c ; f( /d/ , \n 1e3 ) }",
		"{ ( a ) ; ( a , \n b ) in c ; a [ b , \n c ] ; f( ) ; length ( ) ; length ; gsub ( a , b ) }",
		"{ $ ++ a ; $ - a ; $ + ! a ; $ $ a ; $ ( a ) ; $ a ++ ; $ a [ b ] = c }",
		"a ~ b , \n c in d { print $ a } /r/ { } /=/",
	}
}

// P14.1: each of these with each of its tokens missing, one too many, or another
// in its place, and with each token ahead of it.
func TestTurnedRules(t *testing.T) {
	right, wrong := 0, 0
	try := func(tokens ...string) {
		if _, fault := held(t, source(tokens)); fault.Err == api.OK {
			right++
		} else {
			wrong++
		}
	}
	for _, text := range rulesSources() {
		if _, fault := held(t, text); fault != (api.Fault{}) {
			t.Errorf("Parse(%s) has %+v", brief(text), fault)
		}
		var tokens []string
		for _, token := range strings.Split(text, " ") {
			if tokens = append(tokens, token); len(token) > 1 && strings.HasSuffix(token, "(") {
				tokens = append(tokens, "(")
			}
		}
		for at := range tokens {
			try(slices.Delete(slices.Clone(tokens), at, at+1)...)
			try(slices.Insert(slices.Clone(tokens), at, tokens[at])...)
			for _, token := range someTokens() {
				other := slices.Clone(tokens)
				other[at] = token
				try(other...)
				try(slices.Insert(slices.Clone(tokens), at, token)...)
			}
			try(tokens[:at]...)
			if t.Failed() {
				return
			}
		}
	}
	if right < 4000 || wrong < 40000 {
		t.Errorf("%d are right, %d wrong", right, wrong)
	}
}

// shortRows tells all rows of some tokens, up to so many of them.
func shortRows(tokens []string, most int, tell func(row []string)) {
	row := make([]string, 0, most)
	var longer func()
	longer = func() {
		tell(row)
		if len(row) == most {
			return
		}
		for _, token := range tokens {
			row = append(row, token)
			longer()
			row = row[:len(row)-1]
		}
	}
	longer()
}

// P14.1: all short rows of some tokens, by themselves and where a statement may
// stand.
func TestShortRows(t *testing.T) {
	for _, set := range []struct {
		tokens string
		most   int
		around []string
	}{
		{"a + - ! ( )", 5, []string{"{ % }"}},
		{"a $ ++ - =", 5, []string{"%"}},
		{"a ^ - ! ++ $", 5, []string{"%"}},
		{"a ( , ) in t", 5, []string{"{ print % }"}},
		{"( a , ) in", 5, []string{"{ % }"}},
		{"a ( , ) > |", 5, []string{"{ print % }"}},
		{"a ( ) > >> getline", 5, []string{"{ printf % }"}},
		{"a ? : = ,", 6, []string{"{ % }"}},
		{"a getline < | $ ++", 5, []string{"{ % }"}},
		{"a getline < > ( )", 5, []string{"{ print % }"}},
		{"a ~ < in == !", 5, []string{"%"}},
		{"a || && in \n", 5, []string{"{ % }"}},
		{"a / /= /r/ 1 ~", 5, []string{"{ % }"}},
		{"a [ ] , (", 5, []string{"{ % }"}},
		{"f( ( ) , a \n", 5, []string{"{ % }"}},
		{"length ( ) a substr", 5, []string{"{ % }"}},
		{"a else ; \n if(b)", 6, []string{"{ if(a) % }"}},
		{"if(a) b else ; \n {}", 5, []string{"{ % }"}},
		{"do while (a) ; {}", 5, []string{"{ % }"}},
		{"( a in ; )", 5, []string{"{ for % }"}},
		{"{ } ; \n a next", 5, []string{"%", "BEGIN %"}},
		{"function f( a ) {}", 5, []string{"%"}},
		{"a , { } ; BEGIN \n", 5, []string{"%"}},
		{"exit delete a [ ] ;", 5, []string{"{ % }"}},
		{"print a ; \n > , }", 5, []string{"{ % }"}},
		{"@ \"o a = ( 1e999", 5, []string{"{ % }"}},
		{"a in @ ) ; (", 5, []string{"{ for( % }"}},
		{"( a @ , ) >", 5, []string{"{ print % }"}},
	} {
		for _, around := range set.around {
			shortRows(strings.Split(set.tokens, " "), set.most, func(row []string) {
				if !t.Failed() {
					held(t, strings.Replace(around, "%", strings.Join(row, " "), 1))
				}
			})
		}
	}
}

// R1: bytes of all kinds.
func TestWildBytes(t *testing.T) {
	r := seeded()
	some := someTokens()
	for range 20000 {
		var text []byte
		for range 1 + r.Intn(30) {
			switch r.Intn(6) {
			case 0:
				text = append(text, byte(r.Intn(256)))
			case 1:
				text = append(text, ' ')
			default:
				text = append(text, some[r.Intn(len(some))]...)
			}
		}
		held(t, string(text))
		held(t, "{ "+string(text)+" }")
		if t.Failed() {
			return
		}
	}
	for b := range 256 {
		for c := range 256 {
			held(t, string([]byte{byte(b), byte(c)}))
		}
	}
}
