package shape

import "winnower/api"

// maxTrees is how many trees a right one has at most, itself among them.
const maxTrees = 10000

// endless is the Max of a ReTimes that takes any number of times.
const endless = -1

// right says whether r may be where there may be so many levels, and so many
// trees as are left. It ends for trees that share kids, or are their own, too.
func right(r api.Re, levels int, left *int) bool {
	*left--
	if levels < 1 || *left < 0 || !fits(r) {
		return false
	}
	for _, kid := range r.Kids {
		if !right(kid, levels-1, left) {
			return false
		}
	}
	return true
}

// fits says whether r, but for what its kids are, has what its kind asks for
// and nothing else.
func fits(r api.Re) bool {
	noSet, noTimes := r.Set == api.Set{}, r.Min == 0 && r.Max == 0
	switch r.Kind {
	case api.ReNone, api.ReBegin, api.ReEnd:
		return noSet && noTimes && len(r.Kids) == 0
	case api.ReSet:
		return noTimes && len(r.Kids) == 0
	case api.ReCat, api.ReAlt:
		return noSet && noTimes && len(r.Kids) >= 2
	case api.ReTimes:
		return noSet && timesFit(r.Min, r.Max) && len(r.Kids) == 1
	}
	return false
}

func timesFit(least, most int) bool {
	if least < 0 || least > api.MaxTimes {
		return false
	}
	return most == endless || least <= most && most <= api.MaxTimes
}
