package schema_test

import (
	"fmt"
	"graphdb/api"
	"graphdb/schema"
	"maps"
	"math/rand"
	"regexp"
	"slices"
	"strconv"
	"strings"
	"testing"
)

// kindWords are the words for the kinds of values that a rule can ask for.
var kindWords = map[int]string{api.VBool: "bool", api.VInt: "int", api.VStr: "str"}

// textOf returns what Text is defined to return for a rule that Check accepts.
func textOf(r api.Rule) string {
	label := func(s string) string {
		if s == "" {
			return "*"
		}
		return s
	}
	switch r.Kind {
	case api.RUnique:
		return fmt.Sprintf("unique %s %s", r.Name, r.Key)
	case api.RExists:
		return fmt.Sprintf("exists %s %s", r.Name, r.Key)
	case api.RKind:
		return fmt.Sprintf("kind %s %s %s", r.Name, r.Key, kindWords[r.N])
	case api.REdgeExists:
		return fmt.Sprintf("edge exists %s %s", r.Name, r.Key)
	case api.REdgeKind:
		return fmt.Sprintf("edge kind %s %s %s", r.Name, r.Key, kindWords[r.N])
	case api.REnds:
		return fmt.Sprintf("ends %s %s %s", r.Name, label(r.From), label(r.To))
	}
	return fmt.Sprintf("maxout %s %d", r.Name, r.N)
}

// form matches the texts of one kind of rules, and build makes a rule of the words in its parentheses.
type form struct {
	text  *regexp.Regexp
	build func(words []string) api.Rule
}

// forms returns the forms of all texts, where N stands for a name, L for a name or an asterisk and K for a kind of values.
func forms() []form {
	expand := strings.NewReplacer("N", `([a-zA-Z][a-zA-Z0-9_]{0,19})`, "L", `([a-zA-Z][a-zA-Z0-9_]{0,19}|\*)`, "K", `(bool|int|str)`)
	label := func(s string) string { return strings.Trim(s, "*") }
	kindOf := func(s string) int { return map[string]int{"bool": 1, "int": 2, "str": 4}[s] }
	number := func(s string) int {
		n, _ := strconv.Atoi(s)
		return n
	}
	of := func(text string, build func(w []string) api.Rule) form {
		return form{regexp.MustCompile("^" + expand.Replace(text) + "$"), build}
	}
	return []form{
		of("unique N N", func(w []string) api.Rule { return unique(w[1], w[2]) }),
		of("exists N N", func(w []string) api.Rule { return exists(w[1], w[2]) }),
		of("kind N N K", func(w []string) api.Rule { return kind(w[1], w[2], kindOf(w[3])) }),
		of("edge exists N N", func(w []string) api.Rule { return edgeExists(w[1], w[2]) }),
		of("edge kind N N K", func(w []string) api.Rule { return edgeKind(w[1], w[2], kindOf(w[3])) }),
		of("ends N L L", func(w []string) api.Rule { return ends(w[1], label(w[2]), label(w[3])) }),
		of("maxout N (0|[1-9][0-9]{0,2}|[1-3][0-9]{3}|4000)", func(w []string) api.Rule { return maxOut(w[1], number(w[2])) }),
	}
}

// parsed returns what Parse is defined to return.
func parsed(all []form, s string) (api.Rule, api.Errno) {
	for _, f := range all {
		if words := f.text.FindStringSubmatch(s); words != nil {
			return f.build(words), api.OK
		}
	}
	return api.Rule{}, api.ErrSyntax
}

// parseIs fails if Parse of s does not return want and err.
func parseIs(t *testing.T, s string, want api.Rule, err api.Errno) {
	t.Helper()
	if got, e := schema.Parse(s); got != want || e != err {
		t.Errorf("Parse(%.100q) = %+v, %d, want %+v, %d", s, got, e, want, err)
	}
}

// isNoText fails if Parse does not reject s.
func isNoText(t *testing.T, s string) {
	t.Helper()
	parseIs(t, s, api.Rule{}, api.ErrSyntax)
}

// written returns rules with their texts.
func written() map[string]api.Rule {
	long, other := strings.Repeat("x", 20), strings.Repeat("Z9_z", 5)
	return map[string]api.Rule{
		"unique A k":                               unique("A", "k"),
		"unique " + long + " " + other:             unique(long, other),
		"unique unique unique":                     unique("unique", "unique"),
		"unique exists k":                          unique("exists", "k"),
		"unique edge kind":                         unique("edge", "kind"),
		"exists A k":                               exists("A", "k"),
		"exists edge k":                            exists("edge", "k"),
		"exists edge exists":                       exists("edge", "exists"),
		"exists a_0 K_":                            exists("a_0", "K_"),
		"kind A k bool":                            kind("A", "k", api.VBool),
		"kind A k int":                             kind("A", "k", api.VInt),
		"kind A k str":                             kind("A", "k", api.VStr),
		"kind kind bool int":                       kind("kind", "bool", api.VInt),
		"kind int str bool":                        kind("int", "str", api.VBool),
		"kind " + other + " " + long + " str":      kind(other, long, api.VStr),
		"edge exists T k":                          edgeExists("T", "k"),
		"edge exists edge exists":                  edgeExists("edge", "exists"),
		"edge exists kind str":                     edgeExists("kind", "str"),
		"edge exists " + long + " " + long:         edgeExists(long, long),
		"edge kind T k bool":                       edgeKind("T", "k", api.VBool),
		"edge kind T k int":                        edgeKind("T", "k", api.VInt),
		"edge kind T k str":                        edgeKind("T", "k", api.VStr),
		"edge kind edge kind int":                  edgeKind("edge", "kind", api.VInt),
		"edge kind " + long + " " + long + " bool": edgeKind(long, long, api.VBool),
		"ends KNOWS Person *":                      ends("KNOWS", "Person", ""),
		"ends T * B":                               ends("T", "", "B"),
		"ends T * *":                               ends("T", "", ""),
		"ends T A B":                               ends("T", "A", "B"),
		"ends T A A":                               ends("T", "A", "A"),
		"ends ends ends ends":                      ends("ends", "ends", "ends"),
		"ends " + long + " " + long + " " + other:  ends(long, long, other),
		"maxout T 0":                               maxOut("T", 0),
		"maxout T 3":                               maxOut("T", 3),
		"maxout T 10":                              maxOut("T", 10),
		"maxout T 999":                             maxOut("T", 999),
		"maxout T 4000":                            maxOut("T", 4000),
		"maxout maxout 7":                          maxOut("maxout", 7),
		"maxout " + long + " 4000":                 maxOut(long, 4000),
	}
}

// P9.1, P9.3: rules of all kinds and their texts.
func TestTextAndParse(t *testing.T) {
	for s, r := range written() {
		if got := schema.Text(r); got != s {
			t.Errorf("Text(%+v) = %q, want %q", r, got, s)
		}
		parseIs(t, s, r, api.OK)
	}
}

// P9.1: rules that Check rejects have no text.
func TestTextOfBadRules(t *testing.T) {
	for r := range bad() {
		if got := schema.Text(r); got != "" {
			t.Errorf("Text(%+v) = %q", r, got)
		}
	}
	isNoText(t, "")
}

// P9.3: strings that are no text of a rule.
func TestParseRejects(t *testing.T) {
	long := strings.Repeat("x", 21)
	for _, s := range []string{
		"", " ", "*", "0", "x", "\x00", "\xff", "unique", "unique ", "unique A", "unique A ", "unique  A", "unique  ", "edge", "edge ", "edge exists", "edge kind", "kind", "ends", "maxout", "exists",
		"uniqueA k", "unique Ak", "uniqueA k x", "unique,A,k", "unique A,k", "(unique A k)", "'unique' A k", "unique A k;", "unique A k\x00",
		"A k", "A unique k", "A k unique", "k A unique", "uniq A k", "uniques A k", "distinct A k", "edges exists T k", "node exists A k", "node kind A k int", "max T 3", "maxOut T 3", "max out T 3",
		"edge unique T k", "edge T k", "edge ends T A B", "edge maxout T 3", "edge edge exists k", "edge edge exists T k", "exists edge T k", "kind edge T k int", "edge exists T", "edge exists kind T k", "edge kind exists T k int", "edge kind T k", "edge kind kind bool", "exists exists", "unique unique", "kind kind kind", "kind kind kind kind", "ends ends ends", "maxout maxout", "maxout maxout maxout",
		"UNIQUE A k", "Unique A k", "uniquE A k", "EXISTS A k", "Exists A k", "KIND A k int", "Kind A k int", "EDGE exists T k", "edge EXISTS T k", "Edge exists T k", "edge Exists T k", "edge KIND T k int", "edge Kind T k int", "ENDS T A B", "Ends T A B", "MAXOUT T 3", "Maxout T 3", "MaxOut T 3",
		"kind A k INT", "kind A k Int", "kind A k BOOL", "kind A k Bool", "kind A k STR", "kind A k Str", "edge kind T k Int", "edge kind T k STR",
		"kind A k", "kind A k ", "kind A k integer", "kind A k boolean", "kind A k string", "kind A k null", "kind A k rat", "kind A k node", "kind A k edge", "kind A k path", "kind A k list", "kind A k 0", "kind A k 1", "kind A k 2", "kind A k 4", "kind A k *", "kind A int", "kind int", "kind A int k", "kind int A k", "edge kind T k rat", "edge kind T k 2", "edge kind T k *", "edge kind T k list",
		"unique * k", "unique A *", "unique * *", "exists * k", "exists A *", "kind * k int", "kind A * int", "edge exists * k", "edge exists T *", "edge kind * k int", "edge kind T * int", "ends * A B", "ends * * *", "maxout * 3", "maxout T *", "* A k", "edge * T k",
		"ends T", "ends T A", "ends T *", "ends T A B C", "ends T * * *", "ends T ** B", "ends T A **", "ends T A* B", "ends T *A B", "ends T 9 B", "ends T A 9", "ends T - B", "ends T _ B", "ends T A _", "ends T  B", "ends T A ", "ends T  ", "ends T * ", "ends T  *", "ends T A '*'", "ends T A,B", "ends T,A B", "ends " + long + " A B", "ends T " + long + " B", "ends T A " + long, "ends 9 A B", "ends A B",
		"unique 9 k", "unique A 9", "unique _ k", "unique A _k", "unique A k-l", "unique é k", "unique A \xff", "unique " + long + " k", "unique A " + long, "exists 9 k", "exists A 0a", "kind 9 k int", "kind A 9 int", "edge exists 9 k", "edge exists T 9", "edge kind 9 k int", "edge kind T 9 int", "maxout 9 3", "maxout " + long + " 3", "maxout 3", "maxout 3 T",
		"unique A k l", "exists A k l", "kind A k int l", "kind A k int int", "edge exists T k l", "edge kind T k int l", "maxout T 3 4", "maxout T 3 T", "unique A k *", "unique A k unique A k", "unique A k\nunique A l", "unique A k l m n o p q r",
		"find (a) -[:T]-> (b)", "rule unique A k", "+node 1",
	} {
		isNoText(t, s)
	}
}

// P9.3: numbers: those that are written as they must be, and no others.
func TestParseNumbers(t *testing.T) {
	for n := range 4001 {
		parseIs(t, "maxout T "+strconv.Itoa(n), maxOut("T", n), api.OK)
		isNoText(t, "maxout T 0"+strconv.Itoa(n))
		isNoText(t, "maxout T +"+strconv.Itoa(n))
		isNoText(t, "maxout T -"+strconv.Itoa(n))
		isNoText(t, "maxout T "+strconv.Itoa(n)+".")
		isNoText(t, "maxout T "+strconv.Itoa(n)+" ")
	}
	for _, s := range []string{
		"", "+", "-", "--1", "+-1", "00", "03", "003", "-03", "-0", "+0", "4001", "4002", "5000", "9999", "10000", "04000", "40000", "4000 ", " 3",
		"2147483647", "2147483648", "4294967296", "4294967299", "9223372036854775807", "9223372036854775808", "-9223372036854775808", "-9223372036854775809", "18446744073709551615", "18446744073709551616", "18446744073709551619", strings.Repeat("9", 100), "1" + strings.Repeat("0", 1000), strings.Repeat("0", 1000) + "3",
		"3.0", "3,", "1e3", "1_000", "0x3", "0b1", "0o7", "0X0", "3a", "a3", "a", "three", "'3'", "3;", "\u0663", "\uff13", "3\n", "\t3", "3\x00", "inf", "NaN", "3/1", "*",
	} {
		isNoText(t, "maxout T "+s)
	}
}

// P9.3: a text with something put in before, behind or between its words, and one with something left out.
func TestParseSpaces(t *testing.T) {
	all := forms()
	for s := range written() {
		words := strings.Split(s, " ")
		for _, gap := range []string{" ", "  ", "\t", "\n", "\r\n", "\v", "\f", "\x00", "\u00a0", "\u2003", "\ufeff", "_ ", ", "} {
			isNoText(t, gap+s)
			isNoText(t, s+gap)
			for i := 1; i < len(words); i++ {
				front, back := strings.Join(words[:i], " "), strings.Join(words[i:], " ")
				isNoText(t, front+gap+" "+back)
				isNoText(t, front+" "+gap+back)
				if gap != " " && !strings.HasPrefix(gap, "_") {
					isNoText(t, front+gap+back)
				}
			}
		}
		// A word less, and a word more.
		isNoText(t, strings.Join(words[:len(words)-1], " "))
		// Without its first word, the text of a rule for edges is one for nodes.
		behind := strings.Join(words[1:], " ")
		want, err := parsed(all, behind)
		parseIs(t, behind, want, err)
		isNoText(t, s+" x")
		isNoText(t, s+" *")
		isNoText(t, s+" "+s)
		isNoText(t, strings.Join(words, ""))
		isNoText(t, strings.Join(words, "  "))
		isNoText(t, " "+s+" ")
		// The first words in upper case.
		isNoText(t, strings.ToUpper(words[0])+s[len(words[0]):])
		isNoText(t, strings.ToUpper(words[0][:1])+s[1:])
	}
}

// P9.3, P9.6: all texts of up to five words of a list, and those of six that begin as a text of five, against the definition.
func TestParseOfAllWords(t *testing.T) {
	all := forms()
	words := []string{"unique", "exists", "kind", "edge", "ends", "maxout", "A", "bool", "str", "*", "0", "12", ""}
	texts := []string{}
	for _, w := range words {
		texts = append(texts, w)
	}
	seen := map[api.Rule]int{}
	for from, size := 0, 1; size <= 6; size++ {
		to := len(texts)
		for ; from < to; from++ {
			s := texts[from]
			want, err := parsed(all, s)
			if got, e := schema.Parse(s); got != want || e != err {
				t.Fatalf("Parse(%q) = %+v, %d, want %+v, %d", s, got, e, want, err)
			}
			if err == api.OK {
				seen[want]++
			}
			if size < 5 || size == 5 && err == api.OK {
				for _, w := range words {
					texts = append(texts, s+" "+w)
				}
			}
		}
	}
	// There are 9 names among the words.
	if want := 81 + 81 + 81*2 + 81 + 81*2 + 9*100 + 9*2; len(seen) != want {
		t.Errorf("%d rules have texts of these words, want %d", len(seen), want)
	}
	for r, n := range seen {
		if n != 1 {
			t.Errorf("%+v has %d texts", r, n)
		}
	}
}

// edited returns s with one pseudorandom byte put in, left out or changed, or with one word put in, left out, doubled or changed.
func edited(source *rand.Rand, s string) string {
	const bytes = "aAzZ09_* -+.kT\t\n\x00\xff"
	if source.Intn(2) == 0 {
		at := source.Intn(len(s) + 1)
		c := string(bytes[source.Intn(len(bytes))])
		switch {
		case at == len(s) || source.Intn(3) == 0:
			return s[:at] + c + s[at:]
		case source.Intn(2) == 0:
			return s[:at] + s[at+1:]
		}
		return s[:at] + c + s[at+1:]
	}
	more := []string{"unique", "exists", "edge", "kind", "ends", "maxout", "bool", "int", "str", "*", "A", "k", "7", "07", "4000", "4001", "", "9a", strings.Repeat("y", 20), strings.Repeat("y", 21)}
	words := strings.Split(s, " ")
	at, word := source.Intn(len(words)), more[source.Intn(len(more))]
	switch source.Intn(4) {
	case 0:
		words = slices.Insert(words, at, word)
	case 1:
		words = slices.Delete(words, at, at+1)
	case 2:
		words = slices.Insert(words, at, words[at])
	default:
		words[at] = word
	}
	return strings.Join(words, " ")
}

// P9.3, P9.6: texts with pseudorandom errors, against the definition; what Parse accepts is the text of its result.
func TestParseOfEditedTexts(t *testing.T) {
	source := rand.New(rand.NewSource(93))
	all := forms()
	accepted, rejected := 0, 0
	for _, s := range slices.Sorted(maps.Keys(written())) {
		for range 3000 {
			text := s
			for range 1 + source.Intn(3) {
				text = edited(source, text)
			}
			want, err := parsed(all, text)
			parseIs(t, text, want, err)
			if err != api.OK {
				rejected++
				continue
			}
			accepted++
			if r, _ := schema.Parse(text); schema.Text(r) != text || schema.Check(r) != api.OK {
				t.Fatalf("Parse(%q) = %+v, whose text is %q", text, r, schema.Text(r))
			}
		}
	}
	if accepted < 10000 || rejected < 30000 {
		t.Errorf("the test had only %d texts that are accepted and %d that are rejected", accepted, rejected)
	}
}

// P9.6: all valid rules among rules of all kinds: Parse reads their texts back, and no two have the same.
func TestRoundTrips(t *testing.T) {
	texts := map[string]api.Rule{}
	for _, r := range anyRules() {
		if checked(r) != api.OK {
			continue
		}
		s := schema.Text(r)
		if other, ok := texts[s]; ok {
			t.Errorf("%+v and %+v have the text %q", r, other, s)
		}
		texts[s] = r
		parseIs(t, s, r, api.OK)
	}
	// By kind: 3 names and 2 keys, with 3 kinds of values for some, or 3 labels at either end, or 8 numbers.
	if want := 6 + 6 + 18 + 6 + 18 + 27 + 24; len(texts) != want {
		t.Errorf("the test had %d rules, want %d", len(texts), want)
	}
	for n := range 4001 {
		parseIs(t, schema.Text(maxOut("T", n)), maxOut("T", n), api.OK)
	}
}

// P9.3: strings that are far too long.
func TestParseLong(t *testing.T) {
	for _, s := range []string{" ", "a", "*", "0", "unique ", "edge ", "edge kind ", "ends T * B ", "\x00", "\n", "unique A k "} {
		long := strings.Repeat(s, 100000)
		isNoText(t, long)
		for text := range written() {
			isNoText(t, text+" "+long)
			isNoText(t, text+long+" ")
		}
	}
	isNoText(t, "maxout T "+strings.Repeat("1", 1000000))
	isNoText(t, "unique A "+strings.Repeat("k", 1000000))
}
