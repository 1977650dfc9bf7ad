package lex

import (
	"strings"
	"testing"

	"winnower/api"
)

const letters = "abcdefghijklmnopqrstuvwxyzABCDEFGHIJKLMNOPQRSTUVWXYZ_"

// P12.2: a letter or _, then letters, digits and _.
func TestNames(t *testing.T) {
	for _, name := range []string{"x", "_", "__", "_1", "a1", "a_b", "aB9_", "A0", "NF", "RSTART", "Begin", "e", "E", "e5", letters, "z" + "0123456789" + letters, strings.Repeat("name_1", 1000)} {
		for _, re := range both {
			whole(t, name, re, api.TName, name)
		}
		for _, behind := range []string{" ", "\n", "#", ".", "+", "\"", "/", ")", "[", "$", "\\\n", "\x00", "\xff", "\u00e9", "\u0391", "@"} {
			begins(t, name+behind+"(1x", api.TName, name)
		}
	}
}

// P12.2: each byte as a name's first one, and as one within.
func TestNamesOfEachByte(t *testing.T) {
	for b := range 256 {
		one := string([]byte{byte(b)})
		first := strings.Contains(letters, one)
		later := first || strings.Contains("0123456789", one)
		for _, re := range both {
			if token, _ := Next(one, 0, re); (token.Kind == api.TName) != first {
				t.Errorf("%q alone is %+v", one, token)
			}
			want, end := "a", 1
			if later {
				want, end = "a"+one+"z", 3
			}
			kind := api.TName
			if one == "(" {
				kind = api.TFunc
			}
			next(t, "a"+one+"z", 0, re, api.Token{Kind: kind, S: want, Line: 1, End: end})
		}
	}
}

// P12.2: a name with ( right behind it.
func TestFunctions(t *testing.T) {
	for _, name := range []string{"f", "_", "f1", "NF", "func", "function_", "In", "e"} {
		begins(t, name+"(", api.TFunc, name)
		begins(t, name+"(a)", api.TFunc, name)
		begins(t, name+"((", api.TFunc, name)
		begins(t, name+"(\n", api.TFunc, name)
		rowBoth(t, name+"()", tok{api.TFunc, name}, tok{api.TSign, "("}, tok{api.TSign, ")"})
		for _, between := range []string{" ", "\t", "\r", "\\\n", "  ", " \\\n ", "\\\n\\\n"} {
			rowBoth(t, name+between+"(", tok{api.TName, name}, tok{api.TSign, "("})
		}
		rowBoth(t, name+"\n(", tok{api.TName, name}, tok{api.TLine, ""}, tok{api.TSign, "("})
		rowBoth(t, name+"#(", tok{api.TName, name})
		rowBoth(t, name+"[(", tok{api.TName, name}, tok{api.TSign, "["}, tok{api.TSign, "("})
		rowBoth(t, name+")(", tok{api.TName, name}, tok{api.TSign, ")"}, tok{api.TSign, "("})
	}
	rowBoth(t, "f(g(h", tok{api.TFunc, "f"}, tok{api.TSign, "("}, tok{api.TFunc, "g"}, tok{api.TSign, "("}, tok{api.TName, "h"})
}

// P12.2: words, with ( right behind them, too.
func TestWords(t *testing.T) {
	if len(words()) != 33 {
		t.Error(len(words()))
	}
	for _, word := range words() {
		for _, re := range both {
			whole(t, word, re, api.TWord, word)
		}
		begins(t, word+"(", api.TWord, word)
		begins(t, word+"((x", api.TWord, word)
		begins(t, word+" (", api.TWord, word)
		begins(t, word+"\n", api.TWord, word)
		begins(t, word+"{", api.TWord, word)
		begins(t, word+"/", api.TWord, word)
		begins(t, word+"\xff", api.TWord, word)
		begins(t, word+".1", api.TWord, word)
	}
}

// P12.2: what differs from a word by a byte, or by letters that are small or
// great, is a name, but where it is another word.
func TestNearlyWords(t *testing.T) {
	isOne := map[string]struct{}{}
	for _, word := range words() {
		isOne[word] = struct{}{}
	}
	for _, word := range words() {
		near := []string{strings.ToUpper(word), strings.ToLower(word), strings.ToUpper(word[:1]) + word[1:], word + word, "_" + word}
		for _, b := range letters + "0123456789" {
			near = append(near, word+string(b))
			if b > '9' {
				near = append(near, string(b)+word)
			}
		}
		for i := range len(word) {
			near = append(near, word[:i]+word[i+1:], word[:i]+"_"+word[i+1:], word[:i]+strings.ToUpper(word[i:i+1])+word[i+1:])
		}
		for _, name := range near {
			if _, is := isOne[name]; is || name == "" {
				continue
			}
			begins(t, name, api.TName, name)
			begins(t, name+"(", api.TFunc, name)
			begins(t, name+" (", api.TName, name)
		}
	}
	for _, name := range []string{"func", "nextfile", "fflush", "sin", "cos", "atan2", "exp", "log", "sqrt", "switch", "case", "default", "BEGINFILE", "NR", "begin", "end"} {
		begins(t, name, api.TName, name)
		begins(t, name+"(", api.TFunc, name)
	}
}
