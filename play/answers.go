package play

import "kindred/api"

// answer is one of a code, and, if it is no refusal, of numbers.
func answer(e api.Errno, numbers ...int) api.Answer {
	if e != api.OK {
		return api.Answer{Code: e}
	}
	return api.Answer{N: numbers}
}

// answerText is one of a text.
func answerText(e api.Errno, text string) api.Answer {
	if e != api.OK {
		return answer(e)
	}
	return api.Answer{S: []string{text}}
}

// answerHits is one of hits, with numbers ahead of them.
func answerHits(e api.Errno, hits []api.Hit, ahead ...int) api.Answer {
	if e != api.OK {
		return answer(e)
	}
	a := answer(e, ahead...)
	for _, h := range hits {
		a.N = append(a.N, h.Dist, h.ID)
		a.S = append(a.S, h.Code)
	}
	return a
}

// answerDamages is one of what is wrong with files.
func answerDamages(damages []api.Damage, e api.Errno) api.Answer {
	if e != api.OK {
		return answer(e)
	}
	var a api.Answer
	for _, d := range damages {
		a.N = append(a.N, int(d.Code))
		a.S = append(a.S, d.Name)
	}
	return a
}

// answerGroups is one of groups: of each how many, then its ids.
func answerGroups(groups []api.Group, e api.Errno) api.Answer {
	if e != api.OK {
		return answer(e)
	}
	var a api.Answer
	for _, g := range groups {
		a.N = append(a.N, len(g.IDs))
		a.N = append(a.N, g.IDs...)
	}
	return a
}

// answerNear is one of pairs that are near to one another.
func answerNear(list []api.Near, e api.Errno) api.Answer {
	if e != api.OK {
		return answer(e)
	}
	var a api.Answer
	for _, n := range list {
		a.N = append(a.N, n.Dist, n.A, n.B)
	}
	return a
}
