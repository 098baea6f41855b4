package expr

import (
	"slices"
	"strings"

	"cabinetry/api"
	"cabinetry/page"
	"cabinetry/val"
)

// function is a function of the language. Its kinds are a letter for each argument, as TYPE tells them, or V for any; with kinds, a Nil gives Nil.
type function struct {
	least, most int
	kinds       string
	do          func(m *evaluator, l []api.Value) (api.Value, error)
}

// fixed is a function whose arguments are all wanted.
func fixed(kinds string, do func(m *evaluator, l []api.Value) (api.Value, error)) function {
	return function{len(kinds), len(kinds), kinds, do}
}

func functions() map[string]function {
	return map[string]function{
		"UPPER": fixed("C", (*evaluator).upper), "LOWER": fixed("C", (*evaluator).lower), "PROPER": fixed("C", (*evaluator).proper),
		"LEN": fixed("C", (*evaluator).length), "ASC": fixed("C", (*evaluator).asc), "VAL": fixed("C", (*evaluator).value), "STOD": fixed("C", (*evaluator).unstamp),
		"TRIM": fixed("C", (*evaluator).trim), "LTRIM": fixed("C", (*evaluator).trimLeft), "ALLTRIM": fixed("C", (*evaluator).trimAll),
		"LEFT": fixed("CN", (*evaluator).left), "RIGHT": fixed("CN", (*evaluator).right), "SUBSTR": {2, 3, "CNN", (*evaluator).part},
		"AT": fixed("CC", (*evaluator).at), "LIKE": fixed("CC", (*evaluator).like), "SOUND": fixed("C", (*evaluator).sound),
		"PADR": fixed("CN", (*evaluator).padRight), "PADL": fixed("CN", (*evaluator).padLeft), "PADC": fixed("CN", (*evaluator).padBoth),
		"REPLICATE": fixed("CN", (*evaluator).replicate), "SPACE": fixed("N", (*evaluator).space),
		"STUFF": fixed("CNNC", (*evaluator).stuff), "STRTRAN": fixed("CCC", (*evaluator).swap),
		"ABS": fixed("N", (*evaluator).abs), "SIGN": fixed("N", (*evaluator).sign), "MOD": fixed("NN", (*evaluator).mod),
		"STR": fixed("NN", (*evaluator).str), "CHR": fixed("N", (*evaluator).chr),
		"DATE": fixed("NNN", (*evaluator).date), "GOMONTH": fixed("DN", (*evaluator).months),
		"YEAR": fixed("D", (*evaluator).year), "MONTH": fixed("D", (*evaluator).month), "DAY": fixed("D", (*evaluator).day), "DOW": fixed("D", (*evaluator).weekday),
		"DTOS": fixed("D", (*evaluator).stamp), "DTOC": fixed("D", (*evaluator).show),
		"MIN": fixed("VV", (*evaluator).least), "MAX": fixed("VV", (*evaluator).greatest),
		"RECNO": {0, 0, "", (*evaluator).recno}, "DELETED": {0, 0, "", (*evaluator).deleted},
		"EMPTY": {1, 1, "", (*evaluator).empty}, "ISNULL": {1, 1, "", (*evaluator).isNull}, "NVL": {2, 2, "", (*evaluator).instead},
		"TYPE": {1, 1, "", (*evaluator).kind}, "BETWEEN": {3, 3, "", (*evaluator).between}, "INLIST": {2, 10, "", (*evaluator).inList},
		"IF": {3, 3, "", nil}, // call does it, as its arguments are not all evaluated
	}
}

// text returns a text; where the function that is meant has an error, the call dies.
func text(s string, e api.Errno) (api.Value, error) {
	if e != api.OK {
		return die(api.DieRange)
	}
	return api.Value{Kind: api.Text, S: s}, nil
}

func number(n int, e api.Errno) (api.Value, error) {
	if e != api.OK {
		return die(api.DieRange)
	}
	return api.Value{Kind: api.Num, N: n}, nil
}

func day(n int, e api.Errno) (api.Value, error) {
	if e != api.OK {
		return die(api.DieRange)
	}
	return api.Value{Kind: api.Date, N: n}, nil
}

func (m *evaluator) upper(l []api.Value) (api.Value, error) {
	return text(page.Upper(l[0].S, m.env.Page))
}

func (m *evaluator) lower(l []api.Value) (api.Value, error) {
	return text(page.Lower(l[0].S, m.env.Page))
}

func (m *evaluator) proper(l []api.Value) (api.Value, error) {
	return text(page.Proper(l[0].S, m.env.Page))
}

func (m *evaluator) length(l []api.Value) (api.Value, error) {
	return number(len(l[0].S), api.OK)
}

func (m *evaluator) asc(l []api.Value) (api.Value, error) {
	if l[0].S == "" {
		return number(0, api.OK)
	}
	return number(int(l[0].S[0]), api.OK)
}

func (m *evaluator) value(l []api.Value) (api.Value, error) {
	return number(val.Val(l[0].S), api.OK)
}

func (m *evaluator) unstamp(l []api.Value) (api.Value, error) {
	n, _ := val.Unstamp(l[0].S)
	return day(n, api.OK)
}

func (m *evaluator) trim(l []api.Value) (api.Value, error) {
	return text(val.Trim(l[0].S, 0))
}

func (m *evaluator) trimLeft(l []api.Value) (api.Value, error) {
	return text(val.Trim(l[0].S, 1))
}

func (m *evaluator) trimAll(l []api.Value) (api.Value, error) {
	return text(val.Trim(l[0].S, 2))
}

func (m *evaluator) left(l []api.Value) (api.Value, error) {
	return text(val.Part(l[0].S, 1, l[1].N))
}

func (m *evaluator) right(l []api.Value) (api.Value, error) {
	s := l[0].S
	n := min(max(l[1].N, 0), len(s))
	return text(s[len(s)-n:], api.OK)
}

func (m *evaluator) part(l []api.Value) (api.Value, error) {
	n := api.MaxText
	if len(l) == 3 {
		n = l[2].N
	}
	return text(val.Part(l[0].S, l[1].N, n))
}

func (m *evaluator) at(l []api.Value) (api.Value, error) {
	return number(val.At(l[0].S, l[1].S), api.OK)
}

func (m *evaluator) like(l []api.Value) (api.Value, error) {
	ok, e := page.Like(l[0].S, l[1].S, m.env.Page, 0)
	if e != api.OK {
		return die(api.DieRange)
	}
	return truth(ok), nil
}

func (m *evaluator) sound(l []api.Value) (api.Value, error) {
	return text(page.Sound(l[0].S))
}

func (m *evaluator) padRight(l []api.Value) (api.Value, error) {
	return text(val.Pad(l[0].S, l[1].N, 0))
}

func (m *evaluator) padLeft(l []api.Value) (api.Value, error) {
	return text(val.Pad(l[0].S, l[1].N, 1))
}

func (m *evaluator) padBoth(l []api.Value) (api.Value, error) {
	return text(val.Pad(l[0].S, l[1].N, 2))
}

func (m *evaluator) replicate(l []api.Value) (api.Value, error) {
	return repeated(l[0].S, l[1].N)
}

func (m *evaluator) space(l []api.Value) (api.Value, error) {
	return repeated(" ", l[0].N)
}

func repeated(s string, n int) (api.Value, error) {
	if s == "" || n <= 0 {
		return text("", api.OK)
	}
	if n > api.MaxText/len(s) {
		return die(api.DieRange)
	}
	return text(strings.Repeat(s, n), api.OK)
}

func (m *evaluator) stuff(l []api.Value) (api.Value, error) {
	return text(val.Stuff(l[0].S, l[1].N, l[2].N, l[3].S))
}

func (m *evaluator) swap(l []api.Value) (api.Value, error) {
	return text(val.Swap(l[0].S, l[1].S, l[2].S))
}

func (m *evaluator) abs(l []api.Value) (api.Value, error) {
	return number(max(l[0].N, -l[0].N), api.OK)
}

func (m *evaluator) sign(l []api.Value) (api.Value, error) {
	return number(min(max(l[0].N, -1), 1), api.OK)
}

func (m *evaluator) mod(l []api.Value) (api.Value, error) {
	return do(api.Mod, l[0], l[1])
}

func (m *evaluator) str(l []api.Value) (api.Value, error) {
	return text(val.Str(l[0].N, l[1].N))
}

func (m *evaluator) chr(l []api.Value) (api.Value, error) {
	if l[0].N < 0 || l[0].N > 255 {
		return die(api.DieRange)
	}
	return text(string([]byte{byte(l[0].N)}), api.OK)
}

func (m *evaluator) date(l []api.Value) (api.Value, error) {
	return day(val.Days(l[0].N, l[1].N, l[2].N))
}

func (m *evaluator) months(l []api.Value) (api.Value, error) {
	return day(val.Months(l[0].N, l[1].N))
}

func (m *evaluator) year(l []api.Value) (api.Value, error) {
	y, _, _, e := val.Split(l[0].N)
	return number(y, e)
}

func (m *evaluator) month(l []api.Value) (api.Value, error) {
	_, n, _, e := val.Split(l[0].N)
	return number(n, e)
}

func (m *evaluator) day(l []api.Value) (api.Value, error) {
	_, _, d, e := val.Split(l[0].N)
	return number(d, e)
}

func (m *evaluator) weekday(l []api.Value) (api.Value, error) {
	return number(val.Weekday(l[0].N))
}

func (m *evaluator) stamp(l []api.Value) (api.Value, error) {
	return text(val.Stamp(l[0].N))
}

func (m *evaluator) show(l []api.Value) (api.Value, error) {
	return text(val.Show(l[0]))
}

func (m *evaluator) least(l []api.Value) (api.Value, error) {
	return chosen(l, 1)
}

func (m *evaluator) greatest(l []api.Value) (api.Value, error) {
	return chosen(l, -1)
}

// chosen is the second value if the first one compares so with it, else the first one.
func chosen(l []api.Value, order int) (api.Value, error) {
	n, e := val.Compare(l[0], l[1])
	if e != api.OK {
		return die(api.DieType)
	}
	if n == order {
		return l[1], nil
	}
	return l[0], nil
}

func (m *evaluator) recno(l []api.Value) (api.Value, error) {
	return number(m.env.Rec, api.OK)
}

func (m *evaluator) deleted(l []api.Value) (api.Value, error) {
	return truth(m.env.Gone), nil
}

func (m *evaluator) empty(l []api.Value) (api.Value, error) {
	return truth(l[0].N == 0 && strings.Trim(l[0].S, " ") == ""), nil
}

func (m *evaluator) isNull(l []api.Value) (api.Value, error) {
	return truth(isNil(l[0])), nil
}

func (m *evaluator) instead(l []api.Value) (api.Value, error) {
	if isNil(l[0]) {
		return l[1], nil
	}
	return l[0], nil
}

func (m *evaluator) kind(l []api.Value) (api.Value, error) {
	return text(string([]byte{kindLetter(l[0])}), api.OK)
}

func (m *evaluator) between(l []api.Value) (api.Value, error) {
	from, err := m.compare(">=", l[0], l[1])
	if err != nil || from == truth(false) {
		return from, err
	}
	to, err := m.compare("<=", l[0], l[2])
	if err != nil || to == truth(false) || isNil(to) {
		return to, err
	}
	return from, nil
}

func (m *evaluator) inList(l []api.Value) (api.Value, error) {
	for _, v := range l[1:] {
		same, err := m.compare("==", l[0], v)
		if err != nil || isTrue(same) {
			return same, err
		}
	}
	if slices.ContainsFunc(l, isNil) {
		return api.Value{}, nil
	}
	return truth(false), nil
}
