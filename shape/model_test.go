package shape

import (
	"regexp"
	"slices"
	"strconv"
	"strings"

	"winnower/api"
)

// The limits, as the chapter has them.
const (
	mostLevels = 200
	mostTrees  = 10000
	mostTimes  = 255
	mostBytes  = 1 << 20
)

// The classes, written out by the library's regular expressions: they have the
// same ones.
var modelClasses = []string{"alnum", "alpha", "blank", "cntrl", "digit", "graph", "lower", "print", "punct", "space", "upper", "xdigit"}

var modelInterval = regexp.MustCompile(`^\{([0-9]{1,3})(,([0-9]{1,3})?)?\}`)

var modelClassSets = func() map[string]api.Set {
	sets := map[string]api.Set{}
	for _, name := range modelClasses {
		is := regexp.MustCompile("^[[:" + name + ":]]$")
		var s api.Set
		for b := range 128 {
			if is.MatchString(string(rune(b))) {
				s[b/64] |= 1 << (b % 64)
			}
		}
		sets[name] = s
	}
	return sets
}()

// modelParse is Parse by a grammar that goes down into groups, without a panic.
func modelParse(text string) (api.Re, api.Errno) {
	if len(text) > mostBytes {
		return api.Re{}, api.ErrLong
	}
	r, rest, ok := modelPattern(text)
	if !ok || rest != "" {
		return api.Re{}, api.ErrPattern
	}
	if modelLevels(r) > mostLevels || modelTrees(r) > mostTrees {
		return api.Re{}, api.ErrLong
	}
	return r, api.OK
}

// modelPattern ends ahead of a ) or at the text's end.
func modelPattern(s string) (r api.Re, rest string, ok bool) {
	var ways []api.Re
	for {
		var way api.Re
		if way, s, ok = modelWay(s); !ok {
			return api.Re{}, "", false
		}
		ways = append(ways, way)
		if !strings.HasPrefix(s, "|") {
			break
		}
		s = s[1:]
	}
	if len(ways) == 1 {
		return ways[0], s, true
	}
	return alt(ways...), s, true
}

func modelWay(s string) (r api.Re, rest string, ok bool) {
	var pieces []api.Re
	for s != "" && s[0] != '|' && s[0] != ')' {
		var piece api.Re
		if piece, s, ok = modelAtom(s); !ok {
			return api.Re{}, "", false
		}
		for {
			least, most, long, found := modelRepeat(s)
			if !found {
				break
			}
			if least < 0 {
				return api.Re{}, "", false
			}
			piece, s = times(least, most, piece), s[long:]
		}
		pieces = append(pieces, piece)
	}
	switch len(pieces) {
	case 0:
		return none, s, true
	case 1:
		return pieces[0], s, true
	}
	return cat(pieces...), s, true
}

// modelRepeat tells a repeat and its length; least is below 0 of a wrong one.
func modelRepeat(s string) (least, most, long int, found bool) {
	switch {
	case s == "":
		return 0, 0, 0, false
	case s[0] == '*':
		return 0, -1, 1, true
	case s[0] == '+':
		return 1, -1, 1, true
	case s[0] == '?':
		return 0, 1, 1, true
	case s[0] != '{' || len(s) == 1 || s[1] < '0' || s[1] > '9':
		return 0, 0, 0, false
	}
	m := modelInterval.FindStringSubmatch(s)
	if m == nil {
		return -1, 0, 0, true
	}
	least, _ = strconv.Atoi(m[1])
	most = least
	if m[2] != "" {
		most = -1
	}
	if m[3] != "" {
		most, _ = strconv.Atoi(m[3])
	}
	if least > mostTimes || most > mostTimes || m[3] != "" && most < least {
		return -1, 0, 0, true
	}
	return least, most, len(m[0]), true
}

func modelAtom(s string) (r api.Re, rest string, ok bool) {
	switch s[0] {
	case '*', '+', '?', ')', '|':
		return api.Re{}, "", false
	case '(':
		r, s, ok = modelPattern(s[1:])
		if !ok || s == "" {
			return api.Re{}, "", false
		}
		return r, s[1:], true
	case '^':
		return begin, s[1:], true
	case '$':
		return end, s[1:], true
	case '.':
		return not(""), s[1:], true
	case '[':
		return modelBracket(s[1:])
	case '{':
		if _, _, _, found := modelRepeat(s); found {
			return api.Re{}, "", false
		}
	}
	b, long := modelByte(s)
	if long == 0 {
		return api.Re{}, "", false
	}
	return set(string([]byte{b})), s[long:], true
}

// modelByte tells a byte and how many bytes say it: none, if there is none.
func modelByte(s string) (b byte, long int) {
	switch {
	case s == "":
		return 0, 0
	case s[0] != '\\':
		return s[0], 1
	case len(s) == 1:
		return 0, 0
	}
	if at := strings.IndexByte("abfnrtv", s[1]); at >= 0 {
		return []byte{7, 8, 12, 10, 13, 9, 11}[at], 2
	}
	return s[1], 2
}

// modelMember is modelByte in a bracket.
func modelMember(s string) (b byte, long int) {
	if len(s) > 1 && s[0] == '[' && strings.IndexByte(":=.", s[1]) >= 0 {
		return 0, 0
	}
	return modelByte(s)
}

func modelBracket(s string) (r api.Re, rest string, ok bool) {
	others := strings.HasPrefix(s, "^")
	if others {
		s = s[1:]
	}
	r = api.Re{Kind: api.ReSet}
	for first := true; first || s == "" || s[0] != ']'; first = false {
		var thing api.Set
		if thing, s, ok = modelThing(s); !ok {
			return api.Re{}, "", false
		}
		for i := range thing {
			r.Set[i] |= thing[i]
		}
	}
	for i := range r.Set {
		if others {
			r.Set[i] ^= 1<<64 - 1
		}
	}
	return r, s[1:], true
}

func modelThing(s string) (thing api.Set, rest string, ok bool) {
	for _, name := range modelClasses {
		if word := "[:" + name + ":]"; strings.HasPrefix(s, word) {
			return modelClassSets[name], s[len(word):], true
		}
	}
	first, long := modelMember(s)
	if long == 0 {
		return thing, "", false
	}
	last, s := first, s[long:]
	if len(s) >= 2 && s[0] == '-' && s[1] != ']' {
		if last, long = modelMember(s[1:]); long == 0 || last < first {
			return thing, "", false
		}
		s = s[1+long:]
	}
	for b := range 256 {
		if b >= int(first) && b <= int(last) {
			thing[b/64] |= 1 << (b % 64)
		}
	}
	return thing, s, true
}

func modelLevels(r api.Re) int {
	most := 0
	for _, kid := range r.Kids {
		most = max(most, modelLevels(kid))
	}
	return most + 1
}

func modelTrees(r api.Re) int {
	n := 1
	for _, kid := range r.Kids {
		n += modelTrees(kid)
	}
	return n
}

// modelRight is Right of a tree that ends: kind by kind, field by field.
func modelRight(r api.Re) bool {
	return modelLevels(r) <= mostLevels && modelTrees(r) <= mostTrees && modelFits(r)
}

func modelFits(r api.Re) bool {
	if slices.ContainsFunc(r.Kids, func(kid api.Re) bool { return !modelFits(kid) }) {
		return false
	}
	bare := r
	bare.Kids = nil
	if r.Kind == api.ReSet {
		bare.Set = api.Set{}
	}
	least, most := r.Min, r.Max
	if r.Kind == api.ReTimes {
		bare.Min, bare.Max = 0, 0
	}
	if !same(bare, api.Re{Kind: r.Kind}) {
		return false
	}
	switch kids := len(r.Kids); r.Kind {
	case 1, 2, 3, 4:
		return kids == 0
	case 5, 6:
		return kids > 1
	case 7:
		return kids == 1 && least >= 0 && least <= 255 && (most == -1 || most >= least && most <= 255)
	}
	return false
}

// modelShow tells a right tree, however long that is.
func modelShow(r api.Re) string {
	wrapped := map[api.ReKind][]api.ReKind{
		api.ReCat:   {api.ReAlt, api.ReCat, api.ReNone},
		api.ReAlt:   {api.ReAlt, api.ReNone},
		api.ReTimes: {api.ReCat, api.ReAlt, api.ReNone, api.ReBegin, api.ReEnd},
	}
	var kids []string
	for _, kid := range r.Kids {
		text := modelShow(kid)
		if kid.Kind == api.ReNone {
			text = ""
		}
		if slices.Contains(wrapped[r.Kind], kid.Kind) {
			text = "(" + text + ")"
		}
		kids = append(kids, text)
	}
	switch r.Kind {
	case api.ReNone:
		return "()"
	case api.ReBegin:
		return "^"
	case api.ReEnd:
		return "$"
	case api.ReSet:
		return modelShowSet(r.Set)
	case api.ReCat:
		return strings.Join(kids, "")
	case api.ReAlt:
		return strings.Join(kids, "|")
	}
	return kids[0] + modelShowTimes(r.Min, r.Max)
}

func modelShowTimes(least, most int) string {
	text := "{" + strconv.Itoa(least) + "," + strconv.Itoa(most) + "}"
	if most == least {
		text = "{" + strconv.Itoa(least) + "}"
	}
	text = strings.Replace(text, ",-1}", ",}", 1)
	if sign, ok := map[string]string{"{0,}": "*", "{1,}": "+", "{0,1}": "?"}[text]; ok {
		return sign
	}
	return text
}

func modelShowSet(s api.Set) string {
	in := func(b int) bool { return b >= 0 && b < 256 && s[b/64]>>(b%64)%2 == 1 }
	n, only := 0, 0
	for b := range 256 {
		if in(b) {
			n, only = n+1, b
		}
	}
	switch {
	case n == 256:
		return "."
	case n == 1 && strings.IndexByte(`\.^$[()|*+?{`, byte(only)) < 0:
		return string([]byte{byte(only)})
	}
	text, wanted := "[", true
	if n == 0 || n > 128 {
		text, wanted = "[^", false
	}
	is := func(b int) bool { return b >= 0 && b < 256 && in(b) == wanted }
	for b := range 256 {
		// What has both neighbours is within a range, which its ends tell.
		if !is(b) || is(b-1) && is(b+1) {
			continue
		}
		if is(b-1) && is(b-2) {
			text += "-"
		}
		if strings.IndexByte(`\][^-`, byte(b)) >= 0 {
			text += `\`
		}
		text += string([]byte{byte(b)})
	}
	return text + "]"
}
