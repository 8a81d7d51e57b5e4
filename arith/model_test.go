package arith

import (
	"math/big"
	"regexp"
	"slices"

	"conch/api"
)

// thing is a sign, a name or a number of a sum, and its place.
type thing struct {
	text string
	at   int
}

// rows tells the signs between two, the weakest first.
func rows() [][]string {
	return [][]string{{"||"}, {"&&"}, {"==", "!="}, {"<", "<=", ">", ">="}, {"+", "-"}, {"*", "/", "%"}}
}

// kinds tells what signs between two do.
func kinds() map[string]int {
	return map[string]int{
		"*": api.OMul, "/": api.ODiv, "%": api.OMod, "+": api.OAdd, "-": api.OSub, "<": api.OLt, "<=": api.OLe,
		">": api.OGt, ">=": api.OGe, "==": api.OEq, "!=": api.ONe, "&&": api.OAnd, "||": api.OOr,
	}
}

// signs tells what signs ahead of one do.
func signs() map[string]int {
	return map[string]int{"-": api.ONeg, "+": api.OPlus, "!": api.ONot}
}

var (
	front  = regexp.MustCompile(`^(?:\|\||&&|==|!=|<=|>=|[<>+\-*/%!()]|[0-9]+|[A-Za-z_][A-Za-z0-9_]*)`)
	blanks = regexp.MustCompile(`^[ \t\n]*`)
	digits = regexp.MustCompile(`^[0-9]+$`)
	word   = regexp.MustCompile(`^[0-9A-Za-z_]+$`)
)

// things tells those of s up to where there is none any more, and that place. What is left there is no thing, if it is not the end.
func things(s string) ([]thing, int) {
	var l []thing
	at := 0
	for {
		at += len(blanks.FindString(s[at:]))
		x := front.FindString(s[at:])
		if x == "" {
			return l, at
		}
		l = append(l, thing{x, at})
		at += len(x)
	}
}

// tooGreat tells whether x is a number above 2^62.
func tooGreat(x string) bool {
	n, _ := new(big.Int).SetString(x, 10)
	return digits.MatchString(x) && n.Cmp(new(big.Int).Lsh(big.NewInt(1), 62)) > 0
}

// faultOf tells the first fault of a sum, by what is open and whether one is awaited.
func faultOf(s string) (int, api.Errno) {
	l, end := things(s)
	open, awaited := "", true
	for _, x := range l {
		switch {
		case awaited && (signs()[x.text] != 0 || x.text == "("):
			if len(open) == 20 {
				return x.at, api.ErrDeep
			}
			open += x.text
			continue
		case awaited && word.MatchString(x.text) && !tooGreat(x.text):
			awaited = false
		case !awaited && kinds()[x.text] != 0:
			awaited = true
			continue
		case !awaited && x.text == ")" && open != "":
			open = open[:len(open)-1]
		default:
			return x.at, api.ErrSyntax
		}
		// One is whole: the signs ahead of it are done.
		for open != "" && open[len(open)-1] != '(' {
			open = open[:len(open)-1]
		}
	}
	if awaited || open != "" || end < len(s) {
		return end, api.ErrSyntax
	}
	return 0, api.OK
}

// stepsOf tells the steps of a sum without a fault: it is cut at its weakest sign, the last one of that row.
func stepsOf(l []thing) []api.Op {
	for _, row := range rows() {
		open := 0
		for i := len(l) - 1; i > 0; i-- {
			switch x := l[i].text; {
			case x == ")":
				open++
			case x == "(":
				open--
			case open == 0 && slices.Contains(row, x) && (l[i-1].text == ")" || word.MatchString(l[i-1].text)):
				return append(append(stepsOf(l[:i]), stepsOf(l[i+1:])...), api.Op{Kind: kinds()[x]})
			}
		}
	}
	first := l[0].text
	switch {
	case signs()[first] != 0:
		return append(stepsOf(l[1:]), api.Op{Kind: signs()[first]})
	case first == "(":
		return stepsOf(l[1 : len(l)-1])
	case digits.MatchString(first):
		n, _ := new(big.Int).SetString(first, 10)
		return []api.Op{{Kind: api.ONum, N: int(n.Int64())}}
	}
	return []api.Op{{Kind: api.OName, Name: first}}
}

// round tells a number of any size as one of 64 bits that goes round.
func round(x *big.Int) int {
	all := new(big.Int).Lsh(big.NewInt(1), 64)
	return int(new(big.Int).Mod(x, all).Uint64())
}

// bigTwo tells what a sign makes of two numbers, by numbers of any size.
func bigTwo(kind, a, b int) (int, api.Errno) {
	x, y, z := big.NewInt(int64(a)), big.NewInt(int64(b)), new(big.Int)
	so := false
	switch c := x.Cmp(y); kind {
	case api.OMul:
		return round(z.Mul(x, y)), api.OK
	case api.ODiv, api.OMod:
		if b == 0 {
			return 0, api.ErrDiv
		}
		if kind == api.ODiv {
			return round(z.Quo(x, y)), api.OK
		}
		return round(z.Rem(x, y)), api.OK
	case api.OAdd:
		return round(z.Add(x, y)), api.OK
	case api.OSub:
		return round(z.Sub(x, y)), api.OK
	case api.OLt:
		so = c < 0
	case api.OLe:
		so = c <= 0
	case api.OGt:
		so = c > 0
	case api.OGe:
		so = c >= 0
	case api.OEq:
		so = c == 0
	case api.ONe:
		so = c != 0
	case api.OAnd:
		so = x.Sign() != 0 && y.Sign() != 0
	case api.OOr:
		so = x.Sign() != 0 || y.Sign() != 0
	}
	if so {
		return 1, api.OK
	}
	return 0, api.OK
}

// bigEval tells what the steps of l make, by numbers of any size; value tells the number of a name.
func bigEval(l []api.Op, value func(name string) (int, bool)) (int, api.Errno) {
	var pile []int
	for _, op := range l {
		top := len(pile)
		x, e := op.N, api.OK
		switch {
		case op.Kind == api.ONum:
		case op.Kind == api.OName:
			n, ok := value(op.Name)
			if x = n; !ok {
				e = api.ErrNum
			}
		case slices.Contains([]int{api.ONeg, api.OPlus, api.ONot}, op.Kind) && top >= 1:
			kind := map[int]int{api.ONeg: api.OSub, api.OPlus: api.OAdd, api.ONot: api.OEq}[op.Kind]
			x, e = bigTwo(kind, 0, pile[top-1])
			pile = pile[:top-1]
		case op.Kind >= api.OMul && op.Kind <= api.OOr && top >= 2:
			x, e = bigTwo(op.Kind, pile[top-2], pile[top-1])
			pile = pile[:top-2]
		default:
			e = api.ErrSyntax
		}
		if e != api.OK {
			return 0, e
		}
		pile = append(pile, x)
	}
	if len(pile) != 1 {
		return 0, api.ErrSyntax
	}
	return pile[0], api.OK
}
