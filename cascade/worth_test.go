package cascade

import (
	"strings"
	"testing"
)

// holdWorth: what a property of an element b is, which lies in a, by what is told of both.
func holdWorth(t *testing.T, cases map[string]string) {
	t.Helper()
	for text, want := range cases {
		name, rules, _ := strings.Cut(text, "|")
		s := styled(t, "<a><b></b></a>", rules)
		if got := s[1].wearing(name); got != want {
			t.Errorf("%s: %s, want %s", text, got, want)
		}
	}
}

func TestLengths(t *testing.T) {
	holdWorth(t, map[string]string{
		"width|b{width:1px}":                                                 "l64",
		"width|b{width:.5px}":                                                "l32",
		"width|b{width:0.015px}":                                             "l0",
		"width|b{width:0.016px}":                                             "l1",
		"width|b{width:262144px}":                                            "l16777216",
		"width|b{width:262143.999px}":                                        "l16777215",
		"width|b{width:262145px}":                                            "l16777216",
		"width|b{width:1000000px}":                                           "l16777216",
		"margin-left|b{margin-left:-0.001px}":                                "l-1",
		"margin-left|b{margin-left:-0.016px}":                                "l-2",
		"margin-left|b{margin-left:-1000000px}":                              "l-16777216",
		"width|b{width:1em}":                                                 "l1024",
		"width|b{width:.001em}":                                              "l1",
		"width|b{width:.001em;font-size:15px}":                               "l0",
		"width|b{width:1em;font-size:0}":                                     "l0",
		"width|b{width:2em;font-size:10px}":                                  "l1280",
		"width|a{font-size:30px}b{width:2em}":                                "l3840",
		"margin-top|b{margin-top:-.001em}":                                   "l-2",
		"margin-top|b{margin-top:-1000000em}":                                "l-16777216",
		"width|b{width:1000000em;font-size:1000000px}":                       "l16777216",
		"width|b{width:1em;font-size:1000000px}":                             "l16777216",
		"width|b{width:1.001em;font-size:1000000px}":                         "l16777216",
		"text-indent|a{text-indent:1em;font-size:10px}b{font-size:20px}":     "l640",
		"text-indent|a{text-indent:-1em;font-size:10px}b{text-indent:unset}": "l-640",
		"vertical-align|b{vertical-align:-1em}":                              "l-1024",
		"border-top-width|b{border:0.5em;font-size:3px}":                     "l96",
		"width|a{width:1em;font-size:10px}b{width:inherit;font-size:20px}":   "l640",
		"top|b{inset:1px 1em 5% auto}":                                       "l64",
		"right|b{inset:1px 1em 5% auto}":                                     "l1024",
		"bottom|b{inset:1px 1em 5% auto}":                                    "p5000",
		"left|b{inset:1px 1em 5% auto}":                                      "auto",
		"row-gap|b{gap:1em 5%}":                                              "l1024",
		"column-gap|b{gap:1em 5%}":                                           "p5000",
		"flex-basis|b{flex:1 1 1em}":                                         "l1024",
	})
}

func TestFontSizes(t *testing.T) {
	holdWorth(t, map[string]string{
		"font-size|":                                               "l1024",
		"font-size|a{font-size:20px}":                              "l1280",
		"font-size|a{font-size:20px}b{font-size:2em}":              "l2560",
		"font-size|a{font-size:20px}b{font-size:50%}":              "l640",
		"font-size|a{font-size:20px}b{font-size:initial}":          "l1024",
		"font-size|a{font-size:2em}b{font-size:2em}":               "l4096",
		"font-size|a{font-size:1px}b{font-size:12.5%}":             "l8",
		"font-size|a{font-size:1px}b{font-size:99.999%}":           "l63",
		"font-size|a{font-size:1px}b{font-size:.999em}":            "l63",
		"font-size|a{font-size:1px}b{font-size:1.562%}":            "l0",
		"font-size|a{font-size:1px}b{font-size:1.563%}":            "l1",
		"font-size|a{font-size:1000000px}b{font-size:1000000em}":   "l16777216",
		"font-size|a{font-size:1000000px}b{font-size:1000000%}":    "l16777216",
		"font-size|a{font-size:1000000px}b{font-size:50%}":         "l8388608",
		"font-size|a{font-size:0}b{font-size:5em}":                 "l0",
		"font-size|a{font-size:20px}b{--s:2em;font-size:var(--s)}": "l2560",
		"font-size|a{font-size:20px;--s:2em}b{font-size:var(--s)}": "l2560",
		"font-size|a{font-size:20px}b{font-size:-1px}":             "l1280",
		"font-size|a{font-size:10%}b{font-size:inherit}":           "l102",
	})
}

func TestLineHeights(t *testing.T) {
	holdWorth(t, map[string]string{
		"line-height|":                                                     "normal",
		"line-height|b{line-height:1.5}":                                   "n1500",
		"line-height|a{line-height:1.5;font-size:10px}":                    "n1500",
		"line-height|b{line-height:0}":                                     "l0",
		"line-height|b{line-height:20px}":                                  "l1280",
		"line-height|b{line-height:150%}":                                  "l1536",
		"line-height|b{line-height:1.5em}":                                 "l1536",
		"line-height|b{line-height:150%;font-size:10px}":                   "l960",
		"line-height|a{line-height:150%;font-size:10px}":                   "l960",
		"line-height|a{line-height:1.5em;font-size:10px}b{font-size:20px}": "l960",
		"line-height|b{line-height:33.333%;font-size:1px}":                 "l21",
		"line-height|b{line-height:1000000%;font-size:1000px}":             "l16777216",
		"line-height|a{line-height:2}b{line-height:normal}":                "normal",
		"line-height|a{line-height:2}b{line-height:-1}":                    "n2000",
	})
}

func TestPartsAndNumbers(t *testing.T) {
	holdWorth(t, map[string]string{
		"width|b{width:12.5%}":                       "p12500",
		"width|b{width:0%}":                          "p0",
		"margin-left|b{margin:-.001%}":               "p-1",
		"width|b{width:1000000%}":                    "p1000000000",
		"width|a{width:50%}b{width:inherit}":         "p50000",
		"z-index|b{z-index:-3}":                      "n-3000",
		"z-index|b{z-index:1000000}":                 "n1000000000",
		"order|b{order:7}":                           "n7000",
		"flex-grow|b{flex-grow:.125}":                "n125",
		"flex-shrink|b{flex:2 3.5}":                  "n3500",
		"flex-basis|b{flex:2}":                       "l0",
		"grid-column-start|b{grid-column-start:200}": "n200000",
		"grid-row-span|b{grid-row-span:20}":          "n20000",
		"grid-row-span|b{grid-row-span:21}":          "n1000",
	})
}

func TestColors(t *testing.T) {
	holdWorth(t, map[string]string{
		"color|b{color:#012}":                                                                   "#1122",
		"color|b{color:#FEDCBA}":                                                                "#fedcba",
		"color|b{color:transparent}":                                                            "#-1",
		"color|a{color:transparent}":                                                            "#-1",
		"color|a{color:red}b{color:currentcolor}":                                               "#ff0000",
		"color|b{color:white}":                                                                  "#ffffff",
		"border-color|b{color:orange}":                                                          "#ffa500",
		"border-color|a{color:orange}":                                                          "#ffa500",
		"border-color|a{color:orange}b{color:gray}":                                             "#808080",
		"border-color|a{color:orange;border-color:blue}":                                        "#ffa500",
		"border-color|a{color:orange;border-color:blue}b{border-color:inherit}":                 "#ff",
		"border-color|a{color:orange}b{color:red;border-color:inherit}":                         "#ffa500",
		"border-color|a{color:orange}b{color:red;border-color:initial}":                         "#ff0000",
		"border-color|a{color:orange}b{color:red;border-color:unset}":                           "#ff0000",
		"border-color|b{color:red;border:1px}":                                                  "#ff0000",
		"border-color|b{color:transparent}":                                                     "#-1",
		"border-color|b{border-color:transparent}":                                              "#-1",
		"background-color|b{color:red;background:CurrentColor}":                                 "#ff0000",
		"background-color|a{background:red}":                                                    "#-1",
		"background-color|a{color:red;background:currentcolor}b{color:blue;background:inherit}": "#ff0000",
	})
}

func TestWordsAndTexts(t *testing.T) {
	holdWorth(t, map[string]string{
		"content|b{content:'a\"\\b\\\\'}":                                                         `"a\"b\\" 0`,
		"content|b{content:''}":                                                                   `"" 0`,
		"content|b{content:'none'}":                                                               `"none" 0`,
		"content|b{content:counter( N )}":                                                         "counter(N)",
		"content|b{content:None}":                                                                 "none",
		"counter-reset|b{counter-reset:n}":                                                        `"n" 0`,
		"counter-increment|b{counter-increment:n}":                                                `"n" 1`,
		"counter-reset|b{counter-reset:N -12}":                                                    `"N" -12`,
		"counter-increment|b{counter-increment:n 1000000}":                                        `"n" 1000000`,
		"counter-reset|b{counter-reset:None}":                                                     "none",
		"counter-reset|b{counter-reset:transparent}":                                              `"transparent" 0`,
		"counter-reset|a{counter-reset:n 3}b{counter-reset:inherit}":                              `"n" 3`,
		"text-align|b{text-align:CENTER}":                                                         "center",
		"grid-template-columns|b{grid-template-columns:None}":                                     "none",
		"grid-template-columns|b{grid-template-columns:auto}":                                     "tracks auto",
		"grid-template-columns|b{grid-template-columns:0}":                                        "tracks l0",
		"grid-template-rows|b{grid-template-rows:1.5fr 1px 2em 12.5% AUTO 0fr;font-size:2px}":     "tracks f1500 l64 l256 p12500 auto f0",
		"grid-template-rows|b{grid-template-rows:1000000px 1000000% 1000000fr}":                   "tracks l16777216 p1000000000 f1000000000",
		"grid-template-rows|a{grid-template-rows:1em;font-size:2px}b{grid-template-rows:inherit}": "tracks l128",
	})
}

func TestReferencesInProperties(t *testing.T) {
	holdWorth(t, map[string]string{
		"width|b{--x:1px;width:var(--x)}":                                   "l64",
		"width|a{--x:1px}b{width:var(--x)}":                                 "l64",
		"width|a{--x:1px}b{--x:2px;width:var(--x)}":                         "l128",
		"width|b{width:var(--x,3px)}":                                       "l192",
		"width|b{width:var(--x)}":                                           "auto",
		"width|b{width:5px;width:var(--x)}":                                 "auto",
		"width|b{width:var(--x);width:5px}":                                 "l320",
		"width|b{width:var(x)}":                                             "auto",
		"width|b{width:var(--x,var())}":                                     "auto",
		"width|b{--x:1px;width:var(--x,var())}":                             "auto",
		"width|b{--x:1;width:var(--x)px}":                                   "auto",
		"width|b{--x:var(--x);width:var(--x,1px)}":                          "l64",
		"width|b{--x:var(--x);width:var(--x)}":                              "auto",
		"width|b{width:var(--x,)1px}":                                       "l64",
		"width|b{width:var(--x,)}":                                          "auto",
		"width|b{--x:initial;width:var(--x)}":                               "auto",
		"width|a{width:9px}b{--x:INHERIT;width:var(--x)}":                   "l576",
		"width|a{width:9px}b{--x:in;width:var(--x)herit}":                   "auto",
		"color|a{color:red}b{color:blue;color:var(--x)}":                    "#ff0000",
		"color|a{color:red}b{--x:initial;color:var(--x)}":                   "#0",
		"color|a{color:red}b{--x:nope;color:var(--x)}":                      "#ff0000",
		"color|a{color:red}b{--x:#abc;color:var(--x)}":                      "#aabbcc",
		"color|b{--x:#;color:var(--x)abc}":                                  "#0",
		"content|b{--x:'a';content:var(--x)}":                               `"a" 0`,
		"content|b{--x:'var(--y)';content:var(--x)}":                        `"var(--y)" 0`,
		"content|b{content:'var(--y)'}":                                     `"var(--y)" 0`,
		"content|b{--x:n;content:counter(var(--x))}":                        "counter(n)",
		"content|b{--x:n;content:counter( var(--x) )}":                      "counter(n)",
		"counter-reset|b{--x:n;counter-reset:var(--x) 5}":                   `"n" 5`,
		"counter-reset|b{--x:n 6;counter-reset:var(--x)}":                   `"n" 6`,
		"margin-top|b{--x:1px;margin:var(--x) 2px}":                         "l64",
		"margin-left|b{--x:1px;margin:var(--x) 2px}":                        "l128",
		"margin-left|b{--x:1px 3px;margin:var(--x) 2px 4px}":                "l256",
		"margin-left|b{--x:1px 3px;margin:5px;margin:var(--x) 2px 4px 5px}": "l0",
		"margin-left|b{--x:inherit;margin:5px;margin:var(--x)}":             "l0",
		"margin-left|a{margin:7px}b{--x:inherit;margin:var(--x)}":           "l448",
		"margin-left|b{margin:var(--x) 2px;margin-left:1px}":                "l64",
		"margin-left|b{margin-left:1px;margin:var(--x,2px)}":                "l128",
		"border-color|b{--x:red;border:var(--x)}":                           "#ff0000",
		"border-top-width|b{--x:red;border:var(--x)}":                       "l0",
		"border-top-width|b{--x:red;border:var(--x) 3px}":                   "l192",
		"background-color|b{--x:red;background:var(--x)}":                   "#ff0000",
		"flex-basis|b{--x:1;flex:var(--x)}":                                 "l0",
		"flex-basis|b{--x:auto;flex:var(--x)}":                              "auto",
		"flex-grow|b{--x:auto;flex:var(--x)}":                               "n1000",
		"column-gap|b{gap:1px var(--x,2px)}":                                "l128",
		"top|b{inset:1px var(--x,2px)}":                                     "l64",
		"border-left-width|b{border-width:1px var(--x,2px)}":                "l128",
		"padding-left|b{padding:1px var(--x,-2px)}":                         "l0",
		"margin-top|b{margin-top:?margin: var(--x,1px)}":                    "l64",
		"margin-top|b{margin-top:?padding: var(--x,1px)}":                   "l0",
		"margin-top|b{margin-top:?nope: var(--x,1px)}":                      "l0",
		"margin-top|b{margin-top:?var(--x,1px)}":                            "l0",
		"grid-template-columns|b{--x:1px 1px 1px 1px 1px;grid-template-columns:var(--x) var(--x) var(--x) var(--x)}":     "tracks" + strings.Repeat(" l64", 20),
		"grid-template-columns|b{--x:1px 1px 1px 1px 1px;grid-template-columns:var(--x) var(--x) var(--x) var(--x) 1px}": "none",
		"grid-template-columns|a{font-size:2px}b{--x:1em;grid-template-columns:var(--x)}":                                "tracks l128",
		"color|b{--x:var(--y,red);--y:var(--x,red);color:var(--x,blue)}":                                                 "#ff",
		"width|a{--x:var(--y);--y:1px}b{--y:2px;width:var(--x)}":                                                         "l64",
	})
}

func TestDisplaysAtLast(t *testing.T) {
	holdWorth(t, map[string]string{
		"display|":                                               "inline",
		"display|b{display:inline-block}":                        "inline-block",
		"display|b{float:left}":                                  "block",
		"display|b{float:right;display:inline-block}":            "block",
		"display|b{float:right;display:contents}":                "contents",
		"display|b{float:right;display:list-item}":               "list-item",
		"display|b{float:right;display:none}":                    "none",
		"display|b{float:right;display:flex}":                    "flex",
		"display|b{position:absolute}":                           "block",
		"display|b{position:fixed;display:inline-block}":         "block",
		"display|b{position:fixed;display:grid}":                 "grid",
		"display|b{position:absolute;display:contents}":          "contents",
		"display|b{position:relative}":                           "inline",
		"display|b{position:static;float:none}":                  "inline",
		"display|b{position:relative;float:left}":                "block",
		"float|b{position:relative;float:left}":                  "left",
		"float|b{position:absolute;float:left}":                  "none",
		"float|b{position:fixed;float:right}":                    "none",
		"float|b{float:right}":                                   "right",
		"float|a{float:right}b{float:inherit}":                   "right",
		"float|a{float:right;position:fixed}b{float:inherit}":    "none",
		"display|a{float:right}b{display:inherit}":               "block",
		"display|a{display:contents}b{display:inherit}":          "block",
		"display|a{display:inline-block}b{display:inherit}":      "block",
		"display|a{display:none}b{display:inherit}":              "none",
		"display|b{position:absolute;float:left;display:inline}": "block",
	})
	for display, want := range map[string]string{"inline": "block", "inline-block": "block", "contents": "block", "flex": "flex", "none": "none", "list-item": "list-item", "grid": "grid", "block": "block"} {
		for _, more := range []string{"", ";float:left", ";position:absolute"} {
			if got := styled(t, "<a><b>", "a{display:"+display+more+"}")[0].wearing("display"); got != want {
				t.Errorf("%s%s: %s, want %s", display, more, got, want)
			}
		}
	}
}
