package tests

import (
	"fmt"
	"math"
	"regexp"
	"slices"
	"strings"
	"testing"

	"loop.example/g00461/impl"
)

var spareSym = impl.Sym{Name: "spare", Arity: spareMark, Ac: true}

var nameForm = regexp.MustCompile(`\A[a-z][a-z0-9]{0,7}\z`)

func plain(name string, arity int) impl.Sym { return impl.Sym{Name: name, Arity: arity} }

func blind(name string, arity int) impl.Sym { return impl.Sym{Name: name, Arity: arity, Ac: true} }

// someSig: 0 tt, 1 a, 2 g of one, 3 h of two, 4 k3 of three, 5 f, blind.
func someSig() []impl.Sym {
	return []impl.Sym{plain("tt", 0), plain("a", 0), plain("g", 1), plain("h", 2), plain("k3", 3), blind("f", 2)}
}

func manySyms(n int) []impl.Sym {
	sig := []impl.Sym{plain("tt", 0)}
	for i := 1; i < n; i++ {
		sig = append(sig, plain(fmt.Sprintf("c%d", i), i%4))
	}
	return sig[:n]
}

// wrongSigs are refused by SigOk; their names say why.
func wrongSigs() map[string][]impl.Sym {
	tt := plain("tt", 0)
	return map[string][]impl.Sym{
		"nil":                         nil,
		"none":                        {},
		"nine":                        manySyms(9),
		"twelve":                      manySyms(12),
		"another first":               {plain("a", 0), plain("b", 0)},
		"another first alone":         {plain("a", 0)},
		"tt not first":                {plain("a", 0), tt},
		"no name first":               {plain("", 0)},
		"tt of one":                   {plain("tt", 1), plain("a", 0)},
		"tt of two":                   {plain("tt", 2), plain("a", 0)},
		"tt of -1":                    {plain("tt", -1)},
		"tt blind":                    {blind("tt", 0)},
		"tt blind of two":             {blind("tt", 2)},
		"tt in great letters":         {plain("TT", 0)},
		"tt and a sign more":          {plain("tta", 0)},
		"t":                           {plain("t", 0)},
		"tt twice":                    {tt, tt},
		"tt twice, the last of one":   {tt, plain("a", 0), plain("tt", 1)},
		"a name twice, all alike":     {tt, plain("a", 0), plain("a", 0)},
		"a name twice, the arity not": {tt, plain("a", 0), plain("b", 1), plain("a", 1)},
		"a name twice, one blind":     {tt, plain("a", 2), blind("a", 2)},
		"a name twice, at the end":    {tt, plain("b", 0), plain("a", 1), plain("a", 3)},
		"arity -1":                    {tt, plain("a", -1)},
		"arity 4":                     {tt, plain("a", 4)},
		"arity 4 among good ones":     {tt, plain("a", 4), plain("b", 1), plain("c", 3)},
		"the least arity":             {tt, plain("a", math.MinInt)},
		"the greatest arity":          {tt, plain("a", math.MaxInt)},
		"blind of -1":                 {tt, blind("f", -1)},
		"blind of none":               {tt, blind("f", 0)},
		"blind of one":                {tt, blind("f", 1)},
		"blind of three":              {tt, blind("f", 3)},
		"blind of four":               {tt, blind("f", 4)},
		"blind of one at the end":     {tt, blind("f", 2), blind("g", 2), blind("h", 1)},
		"an empty name":               {tt, plain("", 0)},
		"a name of nine":              {tt, plain("abcdefghi", 0)},
		"a digit first":               {tt, plain("1a", 0)},
		"a great letter":              {tt, plain("a", 0), plain("aB", 0), plain("c", 0)},
		"a blank":                     {tt, plain("a b", 0)},
	}
}

func rightSigs() map[string][]impl.Sym {
	tt := plain("tt", 0)
	return map[string][]impl.Sym{
		"tt alone":                  {tt},
		"two":                       {tt, plain("a", 0)},
		"seven":                     manySyms(7),
		"eight":                     manySyms(8),
		"some":                      someSig(),
		"each arity":                {tt, plain("a", 0), plain("b", 1), plain("c", 2), plain("d", 3)},
		"blind of two":              {tt, blind("f", 2)},
		"all blind but tt":          {tt, blind("a", 2), blind("b", 2), blind("c", 2)},
		"a name of eight":           {tt, plain("abcdefgh", 0)},
		"digits later":              {tt, plain("a1234567", 3)},
		"names that begin alike":    {tt, plain("t", 0), plain("ttt", 0), plain("tt0", 0)},
		"alike but for their names": {tt, plain("a", 0), plain("b", 0), plain("c", 0)},
	}
}

func allSigs() map[string][]impl.Sym {
	all := rightSigs()
	for what, sig := range wrongSigs() {
		all[what] = sig
	}
	return all
}

func TestNameOk(t *testing.T) {
	right := []string{"a", "z", "m", "tt", "a0", "a9", "z0z", "a1b2c3d4", "abcdefg", "abcdefgh", "a1234567", "zzzzzzzz"}
	for _, s := range right {
		if !impl.NameOk(s) {
			t.Errorf("NameOk(%q) is false", s)
		}
	}
	wrong := []string{
		"", "0", "9", "1a", "0a", "1", "12345678", "abcdefghi", "a12345678", strings.Repeat("a", 16), strings.Repeat("a", 400),
		"A", "Z", "Aa", "aA", "aZ", "TT", "tT", "X1", "`", "{", "a`", "a{", "a/", "a:", "@", "a@", "a[",
		" ", "a ", " a", "a b", "a\n", "\na", "a\x00", "\x00", "_", "a_b", "-a", "a-b", "a*", "a(", "a,b", "?",
		"\x80", "\xff", "a\x80", "a\xff", "\xe1", "\u00e4", "a\u00e4", "\uff41", "\u0661", "a\u0661",
	}
	for _, s := range wrong {
		if impl.NameOk(s) {
			t.Errorf("NameOk(%q) is true", s)
		}
	}
}

func TestNameOkAtEachByte(t *testing.T) {
	for b := 0; b < 256; b++ {
		sign := string([]byte{byte(b)})
		for _, s := range []string{sign, sign + "a", "a" + sign, "a" + sign + "a", "abcdefg" + sign, "abcdefgh" + sign, sign + "1234567"} {
			if got := impl.NameOk(s); got != nameForm.MatchString(s) {
				t.Errorf("NameOk(%q) is %v", s, got)
			}
		}
	}
}

func TestSigOk(t *testing.T) {
	check := func(what string, sig []impl.Sym, want bool) {
		arg := withRoom(sig, spareSym)
		for range 20 {
			if got := impl.SigOk(arg); got != want {
				t.Errorf("%s: SigOk(%v) is %v", what, sig, got)
			}
		}
		checkRoom(t, "SigOk", arg, sig, spareSym)
	}
	for what, sig := range rightSigs() {
		check(what, sig, true)
	}
	for what, sig := range wrongSigs() {
		check(what, sig, false)
	}
}

// TestSigOkAtEachPlace lays one wrong function at each place of a list that is right but for it.
func TestSigOkAtEachPlace(t *testing.T) {
	wrong := []impl.Sym{plain("x", -1), plain("x", 4), blind("x", 0), blind("x", 1), blind("x", 3), plain("", 0), plain("9x", 0), plain("abcdefghi", 1), plain("X", 0)}
	for n := 2; n <= 8; n++ {
		for place := 1; place < n; place++ {
			for _, sym := range wrong {
				sig := manySyms(n)
				sig[place] = sym
				if impl.SigOk(sig) {
					t.Errorf("SigOk(%v) is true", sig)
				}
			}
			for other := 0; other < place; other++ {
				sig := manySyms(n)
				sig[place].Name = sig[other].Name
				if impl.SigOk(sig) {
					t.Errorf("SigOk(%v) is true with two of one name", sig)
				}
			}
		}
	}
}

func TestEachNameIsOneFunctions(t *testing.T) {
	for what, sig := range rightSigs() {
		for i, sym := range sig {
			arg := withRoom(sig, spareSym)
			if got := impl.SymOf(arg, sym.Name); got != i {
				t.Errorf("%s: SymOf(%v, %q) is %d, not %d", what, sig, sym.Name, got, i)
			}
			checkRoom(t, "SymOf", arg, sig, spareSym)
		}
	}
}

func TestSymOfWhatIsNotThere(t *testing.T) {
	names := []string{"", "x", "t", "ttt", "TT", "tt ", "tt\x00", "a1", "k", "k33", "f/2", "f*", "\xff", "0", "-1", spareSym.Name}
	for _, name := range names {
		arg := withRoom(someSig(), spareSym)
		if got := impl.SymOf(arg, name); got != -1 {
			t.Errorf("SymOf(%v, %q) is %d", arg, name, got)
		}
		checkRoom(t, "SymOf", arg, someSig(), spareSym)
		if got := impl.SymOf(nil, name); got != -1 {
			t.Errorf("SymOf(nil, %q) is %d", name, got)
		}
		if got := impl.SymOf([]impl.Sym{}, name); got != -1 {
			t.Errorf("SymOf of none, %q, is %d", name, got)
		}
	}
}

// TestSymOfRefusedSigs also asks for names that no function may have, and for one that two have.
func TestSymOfRefusedSigs(t *testing.T) {
	for what, sig := range wrongSigs() {
		for _, sym := range sig {
			want := slices.IndexFunc(sig, func(o impl.Sym) bool { return o.Name == sym.Name })
			for range 20 {
				if got := impl.SymOf(sig, sym.Name); got != want {
					t.Errorf("%s: SymOf(%v, %q) is %d, not %d", what, sig, sym.Name, got, want)
				}
			}
		}
	}
}

func checkOf(t *testing.T, what string, sig []impl.Sym, f int, arity int, ac bool) {
	t.Helper()
	arg := withRoom(sig, spareSym)
	for range 2 {
		if got := impl.ArityOf(arg, f); got != arity {
			t.Errorf("%s: ArityOf(%v, %d) is %d, not %d", what, sig, f, got, arity)
		}
		if got := impl.Blind(arg, f); got != ac {
			t.Errorf("%s: Blind(%v, %d) is %v", what, sig, f, got)
		}
	}
	checkRoom(t, "ArityOf and Blind", arg, sig, spareSym)
}

func TestBlindAndArityOf(t *testing.T) {
	for what, sig := range allSigs() {
		for i, sym := range sig {
			checkOf(t, what, sig, i, sym.Arity, sym.Ac)
		}
		for _, f := range []int{-1, -2, len(sig), len(sig) + 1, 1 << 32, -1 << 32, math.MinInt, math.MaxInt} {
			checkOf(t, what, sig, f, -1, false)
		}
	}
}

func TestSigText(t *testing.T) {
	cases := []struct {
		sig  []impl.Sym
		want string
	}{
		{nil, ""},
		{[]impl.Sym{}, ""},
		{[]impl.Sym{plain("tt", 0)}, "tt/0"},
		{someSig(), "tt/0 a/0 g/1 h/2 k3/3 f/2*"},
		{[]impl.Sym{blind("f", 2), plain("a", 0)}, "f/2* a/0"},
		{[]impl.Sym{plain("a", -1), plain("b", 4), blind("c", 12)}, "a/-1 b/4 c/12*"},
		{[]impl.Sym{plain("a", math.MinInt), blind("b", math.MaxInt)}, "a/-9223372036854775808 b/9223372036854775807*"},
		{[]impl.Sym{plain("", 0), blind("", 2)}, "/0 /2*"},
		{[]impl.Sym{plain("z", 1), plain("a", 1), plain("z", 1), plain("m", 0), blind("z", 2)}, "z/1 a/1 z/1 m/0 z/2*"},
		{[]impl.Sym{plain("A b", 0), plain("\xff\x00", 0)}, "A b/0 \xff\x00/0"},
	}
	for _, c := range cases {
		arg := withRoom(c.sig, spareSym)
		for range 20 {
			if got := impl.SigText(arg); got != c.want {
				t.Errorf("SigText(%v) is %q, not %q", c.sig, got, c.want)
			}
		}
		checkRoom(t, "SigText", arg, c.sig, spareSym)
	}
}

func TestSigTextTellsEachInItsOrder(t *testing.T) {
	for what, sig := range allSigs() {
		var words []string
		for _, sym := range sig {
			word := sym.Name + string([]byte{47}) + fmt.Sprint(sym.Arity)
			if sym.Ac {
				word += "*"
			}
			words = append(words, word)
		}
		want := strings.Join(words, string([]byte{32}))
		if got := impl.SigText(sig); got != want {
			t.Errorf("%s: SigText(%v) is %q, not %q", what, sig, got, want)
		}
	}
}

func TestManyFunctions(t *testing.T) {
	sig := manySyms(20000)
	if impl.SigOk(sig) {
		t.Error("SigOk takes 20000 functions")
	}
	if got := impl.SymOf(sig, "c19999"); got != 19999 {
		t.Errorf("SymOf finds the last of 20000 functions at %d", got)
	}
	words := strings.Fields(impl.SigText(sig))
	if len(words) != 20000 || words[0] != "tt/0" || words[19999] != "c19999/3" {
		t.Errorf("SigText of 20000 functions has %d words", len(words))
	}
}
