package lex

import (
	"strings"
	"testing"

	"winnower/api"
)

// P12.2: a number, all of a text, says its text.
func TestNumbers(t *testing.T) {
	for _, text := range []string{
		"0", "1", "9", "10", "007", "1234567890", "1.", "1.5", "1.50", "0.0", ".5", ".0", ".123", "00.",
		"1e5", "1E5", "1e+5", "1e-5", "1E+5", "1E-05", "1.e5", "1.E-5", "1.5e3", "1.5e+300", ".5e3", ".5E-3", ".5e00", "0e0", "9e999999", "1e0000",
		strings.Repeat("1234567890", 500), "." + strings.Repeat("0", 5000) + "1e" + strings.Repeat("9", 5000),
	} {
		whole(t, text, false, api.TNum, text)
		whole(t, text, true, api.TNum, text)
		begins(t, text+" 1", api.TNum, text)
		begins(t, text+"\n", api.TNum, text)
		begins(t, text+"-1", api.TNum, text)
		begins(t, text+"(", api.TNum, text)
		begins(t, text+"\x00", api.TNum, text)
		begins(t, text+"\xff1", api.TNum, text)
	}
}

// P12.2: where a number ends, and what stands behind it then.
func TestNumbersEnd(t *testing.T) {
	num, name, sign := api.TNum, api.TName, api.TSign
	rowBoth(t, "1.e", tok{num, "1."}, tok{name, "e"})
	rowBoth(t, "1e", tok{num, "1"}, tok{name, "e"})
	rowBoth(t, "1E", tok{num, "1"}, tok{name, "E"})
	rowBoth(t, ".5e", tok{num, ".5"}, tok{name, "e"})
	rowBoth(t, "1e+", tok{num, "1"}, tok{name, "e"}, tok{sign, "+"})
	rowBoth(t, "1e-x", tok{num, "1"}, tok{name, "e"}, tok{sign, "-"}, tok{name, "x"})
	rowBoth(t, "1e+ 5", tok{num, "1"}, tok{name, "e"}, tok{sign, "+"}, tok{num, "5"})
	rowBoth(t, "1e++5", tok{num, "1"}, tok{name, "e"}, tok{sign, "++"}, tok{num, "5"})
	rowBoth(t, "1e--5", tok{num, "1"}, tok{name, "e"}, tok{sign, "--"}, tok{num, "5"})
	rowBoth(t, "1e+-5", tok{num, "1"}, tok{name, "e"}, tok{sign, "+"}, tok{sign, "-"}, tok{num, "5"})
	rowBoth(t, "1e+=5", tok{num, "1"}, tok{name, "e"}, tok{sign, "+="}, tok{num, "5"})
	rowBoth(t, "1e.5", tok{num, "1"}, tok{name, "e"}, tok{num, ".5"})
	rowBoth(t, "1e5.5", tok{num, "1e5"}, tok{num, ".5"})
	rowBoth(t, "1e5e5", tok{num, "1e5"}, tok{name, "e5"})
	rowBoth(t, "1ee5", tok{num, "1"}, tok{name, "ee5"})
	rowBoth(t, "1eE5", tok{num, "1"}, tok{name, "eE5"})
	rowBoth(t, "1e 5", tok{num, "1"}, tok{name, "e"}, tok{num, "5"})
	rowBoth(t, "1e\\\n5", tok{num, "1"}, tok{name, "e"}, tok{num, "5"})
	rowBoth(t, "1..2", tok{num, "1."}, tok{num, ".2"})
	rowBoth(t, "1.2.3", tok{num, "1.2"}, tok{num, ".3"})
	rowBoth(t, ".1.2", tok{num, ".1"}, tok{num, ".2"})
	rowBoth(t, "1 .5", tok{num, "1"}, tok{num, ".5"})
	rowBoth(t, "1 2", tok{num, "1"}, tok{num, "2"})
	rowBoth(t, "1\\\n2", tok{num, "1"}, tok{num, "2"})
	rowBoth(t, "1x", tok{num, "1"}, tok{name, "x"})
	rowBoth(t, "1_", tok{num, "1"}, tok{name, "_"})
	rowBoth(t, "1.x", tok{num, "1."}, tok{name, "x"})
	rowBoth(t, "0x1f", tok{num, "0"}, tok{name, "x1f"})
	rowBoth(t, "1e5x", tok{num, "1e5"}, tok{name, "x"})
	rowBoth(t, "1in", tok{num, "1"}, tok{api.TWord, "in"})
	rowBoth(t, "1else", tok{num, "1"}, tok{api.TWord, "else"})
	rowBoth(t, "1f(", tok{num, "1"}, tok{api.TFunc, "f"}, tok{sign, "("})
	rowBoth(t, "1e(", tok{num, "1"}, tok{api.TFunc, "e"}, tok{sign, "("})
	rowBoth(t, "1(", tok{num, "1"}, tok{sign, "("})
	rowBoth(t, "-1", tok{sign, "-"}, tok{num, "1"})
	rowBoth(t, "+.5", tok{sign, "+"}, tok{num, ".5"})
	rowBoth(t, "$1", tok{sign, "$"}, tok{num, "1"})
	rowBoth(t, "1\"a\"", tok{num, "1"}, tok{api.TStr, "a"})
	row(t, "1/2/3", false, tok{num, "1"}, tok{sign, "/"}, tok{num, "2"}, tok{sign, "/"}, tok{num, "3"})
	row(t, "1/2/3", true, tok{num, "1"}, tok{api.TRe, "2"}, tok{num, "3"})
	rowBoth(t, "1#2", tok{num, "1"})
}

// P12.2: a point without a digit is none.
func TestPointAlone(t *testing.T) {
	for _, text := range []string{".", "..", "..5", ".e5", ".e", ".E+1", ".x", ". 5", ".\n5", ".\\\n5", ".-5", ".\x00", "._", ".\"a\"", ".\u0665"} {
		noToken(t, text)
		noToken(t, " "+text)
	}
	for _, re := range both {
		faults(t, "1..", 2, re, api.ErrToken, 1)
		faults(t, "1.2.", 3, re, api.ErrToken, 1)
		faults(t, "a.b", 1, re, api.ErrToken, 1)
	}
}

// P12.2: digits that are some elsewhere are none here.
func TestDigitsAreTen(t *testing.T) {
	for b := range 256 {
		one := string([]byte{byte(b)})
		if isOne := strings.Contains("0123456789", one); isOne {
			whole(t, one, false, api.TNum, one)
			whole(t, "."+one, false, api.TNum, "."+one)
			whole(t, "1e"+one, false, api.TNum, "1e"+one)
			whole(t, "1"+one, false, api.TNum, "1"+one)
			continue
		}
		noToken(t, "."+one)
		if one == "e" || one == "E" || one == "." {
			continue
		}
		begins(t, "1"+one, api.TNum, "1")
		begins(t, "1"+one+"5", api.TNum, "1")
		begins(t, "1."+one+"5", api.TNum, "1.")
		begins(t, "1e"+one, api.TNum, "1")
		begins(t, "1e+"+one, api.TNum, "1")
		begins(t, "1e5"+one+"5", api.TNum, "1e5")
	}
	noToken(t, "\u0661")
	noToken(t, "\uff11")
	begins(t, "1\u0661", api.TNum, "1")
}
