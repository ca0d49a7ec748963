"""The calls of the layer light. Each answers one list of whole numbers."""

OUT_OF_RANGE = -2
NONE_SUCH = -6

MOST_BYTES = 65536
MOST_SIDE = 256
MOST_AROUND = 64
MOST_MODE = 2
WHOLE = 256
WHITE = 255
BYTE_SPAN = 256
SHORT_SPAN = 65536
WORD_BITS = 32


def li_counts(x):
    """How many there are of each byte, from 0 to 255."""
    if len(x) > MOST_BYTES:
        return [OUT_OF_RANGE]
    counts = [0] * (WHITE + 1)
    for value in x:
        counts[value] += 1
    return [0] + counts


def li_best(k):
    """The threshold that parts the counts k by most, the least of such."""
    number = sum(k)
    total = sum([value * count for value, count in enumerate(k)])
    best = NONE_SUCH
    # Whatever parts at all parts by more than 0: the values above t are greater than those up to t.
    best_top = 0
    best_bottom = 1
    low_number = 0
    low_total = 0
    for t in range(WHITE):
        low_number += k[t]
        low_total += t * k[t]
        high_number = number - low_number
        if low_number > 0 and high_number > 0:
            gap = low_number * (total - low_total) - high_number * low_total
            top = gap * gap
            bottom = low_number * high_number
            # Crosswise products compare the quotients without rounding either of them.
            if top * best_bottom > best_top * bottom:
                best = t
                best_top = top
                best_bottom = bottom
    return [best]


def li_kth(k, x):
    """The k-th byte of x, the least the first."""
    if len(x) > MOST_BYTES:
        return [OUT_OF_RANGE]
    if k == 0 or k > len(x):
        return [NONE_SUCH]
    return [sorted(x)[k - 1]]


def li_black(w, t, x):
    """Dots where a byte of the page is t or less."""
    if not is_page(w, x) or t > WHITE:
        return [OUT_OF_RANGE]
    return [0] + words_of_page(w, [1 if value <= t else 0 for value in x])


def li_around(w, d, part, x):
    """Dots where a byte of the page is less than part / 256 of the mean around it, d to all sides."""
    if not is_page(w, x) or d > MOST_AROUND or part > WHOLE:
        return [OUT_OF_RANGE]
    sums = sums_of_page(w, x)
    dots = []
    for r in range(len(x) // w):
        dots.extend(dots_of_row(w, d, part, x, sums, r))
    return [0] + words_of_page(w, dots)


def li_sums(w, x):
    """At each column and row the sum of all bytes in columns and rows before them."""
    if not is_page(w, x):
        return [OUT_OF_RANGE]
    return [0] + sums_of_page(w, x)


def li_median(w, x):
    """Each byte becomes the fifth of the nine around it, the rim counting once more beyond itself."""
    if not is_page(w, x):
        return [OUT_OF_RANGE]
    rows = rows_with_rim(w, x)
    medians = []
    for r in range(len(x) // w):
        for c in range(w):
            nine = rows[r][c:c + 3] + rows[r + 1][c:c + 3] + rows[r + 2][c:c + 3]
            medians.append(sorted(nine)[4])
    return [0] + medians


def li_darkest(w, d, x):
    """Each byte becomes the least around it, d to all sides."""
    if not is_page(w, x) or d > MOST_AROUND:
        return [OUT_OF_RANGE]
    return [0] + darkest_of_page(w, d, x)


def li_lightest(w, d, x):
    """Each byte becomes the greatest around it, d to all sides."""
    if not is_page(w, x) or d > MOST_AROUND:
        return [OUT_OF_RANGE]
    return [0] + lightest_of_page(w, d, x)


def li_behind(w, d, x):
    """What lies behind the letters: of the lightest around each place the darkest around it."""
    if not is_page(w, x) or d > MOST_AROUND:
        return [OUT_OF_RANGE]
    return [0] + darkest_of_page(w, d, lightest_of_page(w, d, x))


def li_even(x, b):
    """Each byte of x made even by its byte of b, what lies behind it."""
    if len(x) > MOST_BYTES:
        return [OUT_OF_RANGE]
    return [0] + [even_byte(value, behind) for value, behind in zip(x, b)]


def li_levels(lo, hi, x):
    """Each byte drawn out from lo to hi over all bytes: 0 up to lo, 255 from hi on."""
    if lo >= hi or hi > WHITE or len(x) > MOST_BYTES:
        return [OUT_OF_RANGE]
    return [0] + [level_byte(lo, hi, value) for value in x]


def li_table(x, t):
    """Each byte becomes the number of the table t that stands at its place."""
    if len(x) > MOST_BYTES:
        return [OUT_OF_RANGE]
    return [0] + [t[value] for value in x]


def li_half(w, x):
    """The page by half: of each two columns and two rows the mean; a last odd one is left out."""
    if not is_page(w, x):
        return [OUT_OF_RANGE]
    halves = []
    for r in range(0, len(x) // w - 1, 2):
        halves.extend(half_of_rows(row_of(w, x, r), row_of(w, x, r + 1)))
    return [0] + halves


def li_blend(k, x, y):
    """Each byte of x blended with its byte of y, of which k parts of 256 are taken."""
    if k > WHOLE or len(x) > MOST_BYTES:
        return [OUT_OF_RANGE]
    return [0] + [(one * (WHOLE - k) + other * k + WHOLE // 2) // WHOLE for one, other in zip(x, y)]


def li_sharper(w, k, x):
    """Each byte is led away from the four beside it by k parts of 64, the rim counting once more beyond itself."""
    if not is_page(w, x) or k > WHOLE:
        return [OUT_OF_RANGE]
    rows = rows_with_rim(w, x)
    sharper = []
    for r in range(len(x) // w):
        sharper.extend(sharper_row(k, rows[r], rows[r + 1], rows[r + 2]))
    return [0] + sharper


def li_narrow(mode, x):
    """Each word of 16 bits made a byte: 0 cuts it off, 1 holds it, 2 holds it with a sign."""
    if mode > MOST_MODE or len(x) > MOST_BYTES:
        return [OUT_OF_RANGE]
    return [0] + [narrow_word(mode, word) for word in x]


def li_apart(x, y):
    """How far x and y are apart, summed up place by place."""
    if len(x) > MOST_BYTES:
        return [OUT_OF_RANGE]
    return [sum([abs(one - other) for one, other in zip(x, y)])]


def li_even1(a, b):
    """What li_even makes of one byte: a's lowest eight bits by those of b."""
    return [even_byte(a % BYTE_SPAN, b % BYTE_SPAN)]


def is_page(w, x):
    """Whether x is a page of rows of w bytes, as wide and as high as a page may be."""
    # The width comes first: by a width of 0 no rows can be counted.
    if w < 1 or w > MOST_SIDE:
        return False
    h = len(x) // w
    return h >= 1 and h <= MOST_SIDE


def row_of(w, x, r):
    """Row r of rows of w numbers."""
    return x[r * w:(r + 1) * w]


def sums_of_page(w, x):
    """One row more than the page has, each of w + 1 sums: of the bytes in columns and rows before."""
    above = [0] * (w + 1)
    sums = list(above)
    for r in range(len(x) // w):
        above = sums_below(above, row_of(w, x, r))
        sums.extend(above)
    return sums


def sums_below(above, row):
    """The row of sums that follows the sums above, with a row of bytes in between."""
    sums = [0]
    along = 0
    for c in range(len(row)):
        along += row[c]
        sums.append(above[c + 1] + along)
    return sums


def dots_of_row(w, d, part, x, sums, r):
    """The dots of row r, by the sums of the page x."""
    top = max(r - d, 0)
    bottom = min(r + d + 1, len(x) // w)
    above = row_of(w + 1, sums, top)
    below = row_of(w + 1, sums, bottom)
    dots = []
    for c in range(w):
        left = max(c - d, 0)
        right = min(c + d + 1, w)
        number = (right - left) * (bottom - top)
        total = below[right] - below[left] - above[right] + above[left]
        dots.append(1 if WHOLE * number * x[r * w + c] < part * total else 0)
    return dots


def with_rim(line):
    """The line with its first once more ahead of it and its last once more behind it."""
    return [line[0]] + line + [line[len(line) - 1]]


def rows_with_rim(w, x):
    """The page's rows with its rim once more around them."""
    return with_rim([with_rim(row_of(w, x, r)) for r in range(len(x) // w)])


def darkest_of_page(w, d, x):
    """The least around each place of the page, d to all sides."""
    # The least of a square is the least of its rows' leasts: two short walks in place of a long one.
    h = len(x) // w
    leasts = turned_page(w, leasts_in_rows(w, d, x))
    return turned_page(h, leasts_in_rows(h, d, leasts))


def lightest_of_page(w, d, x):
    """The greatest around each place of the page, d to all sides."""
    # Where the light is turned about, the greatest is the least.
    return negative(darkest_of_page(w, d, negative(x)))


def negative(x):
    """Bytes with their light turned about: black is white, white is black."""
    return [WHITE - value for value in x]


def leasts_in_rows(w, d, x):
    """The least at most d columns away from each place, within its row alone."""
    leasts = []
    for r in range(len(x) // w):
        row = row_of(w, x, r)
        leasts.extend([min(row[max(c - d, 0):c + d + 1]) for c in range(w)])
    return leasts


def turned_page(w, x):
    """The page's columns as rows, the first column the first."""
    turned = []
    for c in range(w):
        turned.extend([x[place] for place in range(c, len(x), w)])
    return turned


def even_byte(value, behind):
    """The byte's share of what lies behind it, rounded to the nearest; white is the most."""
    if behind == 0:
        return WHITE
    return min((WHITE * value + behind // 2) // behind, WHITE)


def level_byte(lo, hi, value):
    """The byte's share of the way from lo to hi, rounded to the nearest."""
    if value <= lo:
        return 0
    if value >= hi:
        return WHITE
    return (WHITE * (value - lo) + (hi - lo) // 2) // (hi - lo)


def half_of_rows(upper, lower):
    """One row of two: of each two columns the mean of the four, rounded to the nearest."""
    return [(upper[c] + upper[c + 1] + lower[c] + lower[c + 1] + 2) // 4 for c in range(0, len(upper) - 1, 2)]


def sharper_row(k, above, row, below):
    """The row led away from what is beside it; all three rows have their rim around them."""
    sharper = []
    for c in range(1, len(row) - 1):
        beside = row[c - 1] + row[c + 1] + above[c] + below[c]
        sharper.append(held(row[c] + (k * (4 * row[c] - beside) + 32) // 64, 0, WHITE))
    return sharper


def held(number, least, most):
    """The number, or the end of the range from least to most that it lies beyond."""
    return max(least, min(number, most))


def narrow_word(mode, word):
    """The byte that the word of 16 bits becomes in that mode."""
    if mode == 0:
        return word % BYTE_SPAN
    if mode == 1:
        return held(word, 0, WHITE)
    signed = word if word < SHORT_SPAN // 2 else word - SHORT_SPAN
    return held(signed, -128, 127) % BYTE_SPAN


def words_of_page(w, dots):
    """The words of rows of w dots, row by row; a dot is 1 (black) or 0."""
    words = []
    for start in range(0, len(dots), w):
        end = start + w
        for first in range(start, end, WORD_BITS):
            # A row's last word ends with the row, not within the next one.
            words.append(word_of_dots(dots[first:min(first + WORD_BITS, end)]))
    return words


def word_of_dots(dots):
    """One word: the first dot is its lowest bit, bits without a dot are 0."""
    word = 0
    for dot in reversed(dots):
        word = word * 2 + dot
    return word
