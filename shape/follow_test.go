package shape

import (
	"math/rand"
	"strings"
	"sync"
	"testing"
	"unsafe"

	"winnower/api"
)

// agrees holds what a text says, and what is told of it, against the model.
func agrees(t *testing.T, text string) {
	t.Helper()
	r, err := Parse(text)
	want, wantErr := modelParse(text)
	if err != wantErr || !same(r, want) {
		t.Fatalf("Parse(%s) = %s, %d; want %s, %d", brief(text), tell(r), err, tell(want), wantErr)
	}
	if err == api.OK {
		agreesOn(t, r)
	}
}

// agreesOn holds what is told of a tree that is right against the model, and
// against Parse.
func agreesOn(t *testing.T, r api.Re) {
	t.Helper()
	if !Right(r) {
		t.Fatalf("Right(%s) is false", tell(r))
	}
	text, err := Show(r)
	if want := modelShow(r); err != api.OK || text != want {
		t.Fatalf("Show(%s) = %s, %d; want %s", tell(r), brief(text), err, brief(want))
	}
	if back, err := Parse(text); err != api.OK || !same(back, r) {
		t.Fatalf("Parse(%s) = %s, %d; want %s", brief(text), tell(back), err, tell(r))
	}
}

// P5.1 to P5.4: all short texts of some bytes.
func TestShortTexts(t *testing.T) {
	for _, x := range []struct {
		before, letters, behind string
		most                    int
	}{
		{"", `a|()*`, "", 6},
		{"", `(|)+?{`, "", 5},
		{"", `a{}2,(`, "", 6},
		{"a{", `012,}5`, "}", 6},
		{"", `a.^$\n[]`, "", 4},
		{"[", `]^-a\[`, "]", 5},
		{"[", `]^-ac`, "]", 6},
		{"[", `:=.[-]a`, "]", 5},
		{"[", `+-]\[:`, "", 5},
		{"[[:digit:]", `]-^a[:`, "]", 4},
		{"[a-[:", `alph:]`, "]", 4},
		{"", "a\x00\x80\xff[]^-", "", 4},
	} {
		var all func(text string, most int)
		all = func(text string, most int) {
			agrees(t, x.before+text+x.behind)
			for i := range len(x.letters) {
				if most > 0 {
					all(text+x.letters[i:i+1], most-1)
				}
			}
		}
		all("", x.most)
	}
}

// P5.1 to P5.4: longer texts by a fixed seed, of what patterns are made of.
func TestRandomTexts(t *testing.T) {
	random := rand.New(rand.NewSource(5))
	words := []string{"a", "b", "c", "z", "-", "]", "}", "{", "{2}", "{2,}", "{0,3}", "{255}", "{3,2}", "{256}", "{,2}", ".", "^", "$", "|", "|", "(", ")", "(", ")", "(a|b)", "(a", ")*", "*", "+", "?", `\.`, `\n`, `\`, `\\`, "[a-c]", "[^x]", "[]]", "[", "[^", "[[:alpha:]", "[[:digit:]]", "[:no:]", "[=", "[.", "-z]", "\x00", "\xff", "\n", "é", "[\x80-\xff]", "()", "1", ","}
	right := 0
	for range 100000 {
		var text strings.Builder
		for range random.Intn(12) {
			text.WriteString(words[random.Intn(len(words))])
		}
		agrees(t, text.String())
		if _, err := Parse(text.String()); err == api.OK {
			right++
		}
	}
	if right < 10000 {
		t.Error("few of the texts are patterns:", right)
	}
}

func randomSet(random *rand.Rand) api.Re {
	r := api.Re{Kind: api.ReSet}
	switch random.Intn(5) {
	case 0:
		for i := range r.Set {
			r.Set[i] = random.Uint64()
		}
		return r
	case 1:
		first := random.Intn(256)
		return set(bytesOf(first, first+random.Intn(256-first)))
	case 2:
		return not(bytesOf(90+random.Intn(6), 95) + string([]byte{byte(random.Intn(256))}))
	}
	for range 1 + random.Intn(3) {
		b := byte(random.Intn(256))
		r.Set[b/64] |= 1 << (b % 64)
	}
	return r
}

func randomTree(random *rand.Rand, levels int) api.Re {
	kind := 1 + random.Intn(7)
	if levels == 1 {
		kind = 1 + random.Intn(4)
	}
	var kids []api.Re
	for range 2 + random.Intn(3) {
		if kind > 4 {
			kids = append(kids, randomTree(random, levels-1))
		}
	}
	switch kind {
	case 2:
		return randomSet(random)
	case 5, 6:
		return api.Re{Kind: api.ReKind(kind), Kids: kids}
	case 7:
		least := random.Intn(4)
		most := []int{-1, least, least + 1, 255}[random.Intn(4)]
		return times(least, most, kids[0])
	}
	return api.Re{Kind: api.ReKind(kind)}
}

// P5.2, P5.4: trees by a fixed seed, right ones and such that one thing is
// wrong in.
func TestRandomTrees(t *testing.T) {
	random := rand.New(rand.NewSource(55))
	for range 20000 {
		r := randomTree(random, 1+random.Intn(5))
		if !modelRight(r) {
			t.Fatalf("a tree that is not right: %s", tell(r))
		}
		agreesOn(t, r)
		s := clone(r)
		spoil(random, &s)
		if Right(s) != modelRight(s) {
			t.Fatalf("Right(%s) = %v", tell(s), Right(s))
		}
		if !modelRight(s) {
			wrong(t, s)
		}
	}
}

// spoil changes one field of a tree or of one in it.
func spoil(random *rand.Rand, r *api.Re) {
	for len(r.Kids) > 0 && random.Intn(3) > 0 {
		r = &r.Kids[random.Intn(len(r.Kids))]
	}
	switch random.Intn(5) {
	case 0:
		r.Kind = api.ReKind(random.Intn(9))
	case 1:
		r.Set[random.Intn(4)] ^= 1 << random.Intn(64)
	case 2:
		r.Min = random.Intn(260) - 2
	case 3:
		r.Max = random.Intn(260) - 2
	default:
		r.Kids = append(r.Kids, none)[random.Intn(2):]
	}
}

// P5.4: what is found of a tree is found again and again.
func TestShowTwice(t *testing.T) {
	for _, text := range []string{"", "a|b", "(((a)))", "[ab-d]", "[a]", `\a\.`, "a{1,}{0,1}{1,1}", "(^)*|^*", "[^a-c]", "[\x00-\xff]", "a{007}", "((a|)|)", "[z-z]"} {
		r, _ := Parse(text)
		first, _ := Show(r)
		again, _ := Parse(first)
		second, err := Show(again)
		if err != api.OK || first != second {
			t.Errorf("Show of %s: %s, then %s", brief(text), brief(first), brief(second))
		}
	}
}

// R2, R3: neither a tree nor what it shares is changed, and its spare room
// isn't, either.
func TestNothingIsChanged(t *testing.T) {
	for _, text := range []string{"", "a|b|", "(ab|c*)*{2,3}", "[^a-c]|(x|(y|z))(^|$){2}", "()", "(^)+"} {
		parsed, _ := Parse(text)
		room := make([]api.Re, 6)
		for i := range room {
			room[i] = clone(parsed)
		}
		r := cat(room[:3:6]...)
		for range 2 {
			Right(r)
			Show(r)
			r.Kids[0].Kids = r.Kids[0].Kids[:len(r.Kids[0].Kids):cap(r.Kids[0].Kids)]
		}
		for i := range room {
			if !same(room[i], parsed) {
				t.Errorf("%s was changed: %s", brief(text), tell(room[i]))
			}
		}
		Show(api.Re{Kind: api.ReCat, Kids: room[:1:6]})
		if !same(room[0], parsed) || !same(room[1], parsed) {
			t.Errorf("%s was changed by a Show that failed", brief(text))
		}
	}
}

// lists hands each list of kids of a tree, with its spare room, to tell.
func lists(r api.Re, tell func(kids []api.Re)) {
	if cap(r.Kids) > 0 {
		tell(r.Kids[:cap(r.Kids)])
	}
	for _, kid := range r.Kids {
		lists(kid, tell)
	}
}

// R3: no two lists of kids share memory, within an answer or between two.
func TestAnswersAreNew(t *testing.T) {
	for _, text := range []string{"ab", "a|b|c", "(ab|c)(ab|c)*(d)|(e(f)(gh)){2}", "a****", "(a|b)|(c|d)|((e|f)g)", "()()|()", strings.Repeat("(ab|cd)*", 50), strings.Repeat("(a|", 50) + strings.Repeat(")", 50)} {
		first, _ := Parse(text)
		second, _ := Parse(text)
		of := map[uintptr]int{}
		n := 0
		for _, r := range []api.Re{first, second} {
			lists(r, func(kids []api.Re) {
				n++
				for i := range kids {
					at := uintptr(unsafe.Pointer(&kids[i]))
					if of[at] != 0 {
						t.Fatalf("two lists of %s share memory", brief(text))
					}
					of[at] = n
				}
			})
		}
		want, _ := modelParse(text)
		lists(first, func(kids []api.Re) { clear(kids) })
		if third, _ := Parse(text); !same(second, want) || !same(third, want) {
			t.Errorf("Parse(%s) is another one, once an answer was changed", brief(text))
		}
	}
}

// R4: an answer hangs on the text alone, whatever was asked ahead of it or is
// asked beside it.
func TestCallsBesideEachOther(t *testing.T) {
	texts := []string{"a|b", "(a", "[b-a]", "(ab|c)*", "[[:no:]]", "a{256}", "[[:alpha:]]", strings.Repeat("a", 10000), `a\`}
	var all sync.WaitGroup
	for i := range 8 {
		all.Go(func() {
			for j := range 50 {
				text := texts[(i+j)%len(texts)]
				r, err := Parse(text)
				want, wantErr := modelParse(text)
				if err != wantErr || !same(r, want) {
					t.Errorf("Parse(%s) = %s, %d", brief(text), tell(r), err)
				}
			}
		})
	}
	all.Wait()
}
