package page

import "cabinetry/api"

// Like reports whether a text is as a pattern says.
func Like(pattern, s string, page, coll int) (bool, api.Errno) {
	if e := wrong(page, coll, pattern, s); e != api.OK {
		return false, e
	}
	return like(weights(pattern, page, coll), weights(s, page, coll)), api.OK
}

// like tries the shortest text for each star and comes back to the last star alone, as what an earlier one takes makes no difference.
func like(pattern, s string) bool {
	p, star, from := 0, -1, 0
	i := 0
scan:
	for i < len(s) {
		if p < len(pattern) {
			switch c := pattern[p]; {
			case c == '*':
				star, from = p, i
				p++
				continue scan
			case c == '?' || c == s[i]:
				p++
				i++
				continue scan
			}
		}
		if star < 0 {
			return false
		}
		from++
		p, i = star+1, from
	}
	for p < len(pattern) && pattern[p] == '*' {
		p++
	}
	return p == len(pattern)
}

// soundOf are the digits of the letters A to Z; 0: none, and it stands between; -: none, and it does not.
const soundOf = "0123012-02245501262301-202"

// Sound returns the code of a word.
func Sound(s string) (string, api.Errno) {
	if e := wrong(0, 0, s); e != api.OK {
		return "", e
	}
	var out []byte
	last := byte('0')
	for i := range len(s) {
		if !isLetter(s[i], 0) {
			continue
		}
		capital := upper(s[i], 0)
		digit := soundOf[capital-'A']
		if len(out) == 0 {
			out = append(out, capital)
		} else if digit != '0' && digit != '-' && digit != last && len(out) < 4 {
			out = append(out, digit)
		}
		if digit != '-' {
			last = digit
		}
	}
	for len(out) > 0 && len(out) < 4 {
		out = append(out, '0')
	}
	return string(out), api.OK
}
